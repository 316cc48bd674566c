/- Contracts of SplitSingle, in the program. -/
import Derived.Test.YtlngplohnknhjaaGreatDoorKSplit
import Derived.Test.YtlngplohnknhjaaGreatDoorKModB
import Derived.Test.YtlngplohnknhjaaGreatDoorKScaler
namespace Go.Proofs.YtlngplohnknhjaaGreatDoor.Spl
open Go.ChangeShapes Go.WideShapes Go.ChangeAt Go.RowKit Go.Proofs.YtlngplohnknhjaaGreatDoor Go.Proofs.YtlngplohnknhjaaGreatDoor.Flt Go.Proofs.YtlngplohnknhjaaGreatDoor.Mth
set_option linter.unusedVariables false
theorem trunc_big (m q : Nat) (w : World) (hm : m < 9007199254740992) (h1 : 149 ≤ q) (hq : q ≤ 1000) :
    Calls Tryz.prog 107 #[.float .f64 (A m q)] w fun e w' => e = .returned (.float .f64 (A m q)) ∧ w' = w := by
  have ht := fun w => run_archTrunc (A m q) (nan_A hm hq) w
  have hs := A_spec hm hq
  have hwr : Ieee.double.write (.number false (m * 2 ^ q / 2 ^ 149) 0) = A m q := by
    rw [write_num]
    obtain ⟨k, rfl⟩ : ∃ k, q = k + 149 := ⟨q - 149, by omega⟩
    rw [Nat.pow_add, ← Nat.mul_assoc, Nat.mul_div_cancel _ (Nat.two_pow_pos 149)]
    have h := nearest_exact' Ieee.double false (m * 2 ^ k) (W + 149) 0 (A m (k + 149)) (Nat.le_of_lt hs.1) (by
      rw [hs.2, Nat.pow_zero, Nat.mul_one, Nat.mul_assoc, ← Nat.pow_add, show k + (W + 149) = W + (k + 149) by omega])
    rw [least_double] at h
    rw [show (0 : Int) = -1074 + ((W + 149 : Nat) : Int) - ((0 : Nat) : Int) by rw [W_eq]; omega, h]
    rfl
  rw [whole_A hm hq, hwr] at ht
  generalize A m q = a at *
  clear hs hwr
  go_enter Tryz.func107, Tryz.ntmps107
  go_wp2
  go_ret
  exact ⟨rfl, rfl⟩
theorem impl_nofin (x : Nat) (w : World) (h : ¬ rung Ieee.single x < Ieee.single.infRung) :
    Calls Tryz.prog 91 #[.float .f32 x] w (Out 0 0 false w) := by
  have us : (Tryz.prog.underlying 92).isSome = true := by rw [Tryz.underlying92]; rfl
  obtain ⟨r, n, hr, kr⟩ := run_widen_any (P := Tryz.prog) 92 60 x us Tryz.underlying60 w
  have hfin : isFinD r = false := by
    cases nx : isNaN Ieee.single x
    · rw [hr.2.2 nx, isFin_widen, decide_eq_false h]
    · exact isFin_nan (by rw [hr.2.1, nx])
  have heq : (FloatKind.f64.format.order r 0 == some .eq) = false := by
    have hf := of_decide_eq_false hfin
    rw [eq64]
    cases nr : isNaN Ieee.double r
    · rw [eqW_zero _ nr]; exact decide_eq_false (by rw [inf_double] at hf; omega)
    · exact eqW_nan _ (by rw [nr]; rfl)
  have hr1 := hr.1
  clear us hr h
  go_enter Tryz.func91, Tryz.ntmps91
  go_wp2_with fail
  refine (fin_any _ _ hr1).mono ?_
  rintro e w1 ⟨rfl, rfl⟩
  go_wp2_with fail
  go_ret3
  exact ⟨rfl, below_drewN (Below.refl _ _) _⟩
theorem impl_zero (x : Nat) (w : World) (h : rung Ieee.single x = 0) :
    Calls Tryz.prog 91 #[.float .f32 x] w (Out 0 0 true w) := by
  have us : (Tryz.prog.underlying 92).isSome = true := by rw [Tryz.underlying92]; rfl
  have hlt : rung Ieee.single x < Ieee.single.infRung := by rw [h]; decide
  have nx := isNaN_rung0 Ieee.single h
  have kr := run_widen (P := Tryz.prog) 92 60 x us Tryz.underlying60 nx w
  have heq := eq64 (widen x) 0
  rw [eqW_zero _ (isNaN_widen x), rung_widen, if_pos hlt, wr_A, h] at heq
  rw [show A (ss Ieee.single 0) (qq Ieee.single 0) = 0 by rw [show ss Ieee.single 0 = 0 by decide, A_zero]] at heq
  clear us nx hlt h
  go_enter Tryz.func91, Tryz.ntmps91
  go_wp2_with fail
  go_ret3
  exact ⟨rfl, Below.refl _ _⟩
theorem frac_ne (m p : Nat) (hodd : m % 2 = 1) (hm : m < 16777216) (hp : p < 149) : (FloatKind.f64.format.order (A m p) (A (m * 2 ^ p / 2 ^ 149) 149) != some .eq) = true ∧ m * 2 ^ p / 2 ^ 149 < 9007199254740992 := by
  have hlt : m * 2 ^ p / 2 ^ 149 < 16777216 := by
    rw [Nat.div_lt_iff_lt_mul (Nat.two_pow_pos _)]
    calc m * 2 ^ p < 16777216 * 2 ^ p := Nat.mul_lt_mul_of_pos_right hm (Nat.two_pow_pos _)
      _ ≤ 16777216 * 2 ^ 149 := Nat.mul_le_mul_left _ (Nat.pow_le_pow_right (by omega) (by omega))
  refine ⟨?_, by omega⟩
  rw [ne64, A_eq (by omega) (by omega) (by omega) (by omega), decide_eq_false]
  · rfl
  · intro h
    obtain ⟨k, hk⟩ : ∃ k, 149 = k + 1 + p := ⟨148 - p, by omega⟩
    generalize m * 2 ^ p / 2 ^ 149 = F at *
    rw [hk, Nat.pow_add, ← Nat.mul_assoc] at h
    have := Nat.eq_of_mul_eq_mul_right (Nat.two_pow_pos p) h
    rw [Nat.pow_succ, ← Nat.mul_assoc] at this
    omega
theorem whole_eq (m p : Nat) (hm : m < 16777216) (hp : p ≤ 400) : (FloatKind.f64.format.order (A m p) (A m p) != some .eq) = false := by
  rw [ne64, eqW_self, nan_A (by omega) (by omega)]; rfl
set_option maxRecDepth 20000 in
set_option maxHeartbeats 1600000 in
theorem impl_main (x m t : Nat) (w : World) (wx : x < 4294967296) (hf : rung Ieee.single x < Ieee.single.infRung) (h0 : rung Ieee.single x ≠ 0) (hodd : m % 2 = 1) (hm : ss Ieee.single (rung Ieee.single x) = m * 2 ^ t) :
    Calls Tryz.prog 91 #[.float .f32 x] w (Out m ((qq Ieee.single (rung Ieee.single x) : Int) + t - 149) true w) := by
  have us : (Tryz.prog.underlying 92).isSome = true := by rw [Tryz.underlying92]; rfl
  have ud : (Tryz.prog.underlying 60).isSome = true := by rw [Tryz.underlying60]; rfl
  have nx : isNaN Ieee.single x = false := decide_eq_false (by omega)
  have kr := run_widen (P := Tryz.prog) 92 60 x us Tryz.underlying60 nx w
  have hfin : isFinD (widen x) = true := by rw [isFin_widen, decide_eq_true hf]
  obtain ⟨e0, l0, n1, n2⟩ := nonzero_facts x hf h0
  have hq := qq_lt_single hf
  have hs := ss_single (rung Ieee.single x)
  have hrw : rung Ieee.double (widen x) = A (ss Ieee.single (rung Ieee.single x)) (qq Ieee.single (rung Ieee.single x)) := by rw [rung_widen, if_pos hf, wr_A]
  have hm1 : 1 ≤ m := by omega
  rw [hm, A_shift] at hrw
  rw [hm] at hs
  have hp2 : 2 ^ t ≤ m * 2 ^ t := Nat.le_mul_of_pos_left _ hm1
  have ht : t ≤ 23 := by
    have h2 : 2 ^ t < 2 ^ 24 := by omega
    have := (Nat.pow_lt_pow_iff_right (by omega : 1 < 2)).1 h2
    omega
  have hm2 : m < 16777216 := by
    have : m * 1 ≤ m * 2 ^ t := Nat.mul_le_mul_left _ (Nat.two_pow_pos _)
    omega
  obtain ⟨Q, hQ⟩ : ∃ Q, Q = qq Ieee.single (rung Ieee.single x) + t := ⟨_, rfl⟩
  rw [← hQ] at hrw
  rw [show ((qq Ieee.single (rung Ieee.single x) : Int) + t - 149) = (Q : Int) - 149 by omega]
  have hQ2 : Q ≤ 276 := by omega
  have hw64 := widen_wl x
  have ki := Lib.hid (fun W => run_convert_float_int (P := Tryz.prog) W 60 3 .f64 .i64 _ _ ud Tryz.underlying3 (toInt_A (m := m) (by omega)))
  have Ho := Lib.hid hodd
  have Hrw := Lib.hid hrw
  clear us ud nx hf h0 hm hodd hq hs hp2 hQ n1 n2 l0 hrw
  go_enter Tryz.func91, Tryz.ntmps91
  go_wp2_with fail
  refine (fin_any _ _ hw64).mono ?_
  rintro e w1 ⟨rfl, rfl⟩
  go_wp2_with fail
  refine (abs_any _ _ hw64).mono ?_
  rintro e w1 ⟨rfl, rfl⟩
  rw [Hrw.out]
  clear e0 hfin kr hw64
  go_wp2_with fail
  refine (Mks.scaler_any (A m Q) _).mono ?_
  rintro e w2 ⟨rfl, rfl⟩
  go_wp2_with fail
  refine (Mks.closure_any w1.heap.size (A m Q) 0 _ (nan_A (by omega) (by omega)) (block_new _ _) (by omega) (by omega)).mono ?_
  rintro e w3 ⟨rfl, hb3, ho3⟩
  rw [show scale (A m Q) 0 = A m Q from rfl] at hb3 ⊢
  have Hb3 := Lib.hid hb3
  have Ho3 := Lib.hid ((Only.alloc (Only.refl w1.heap.size w1) _).trans ho3)
  clear hb3 ho3
  generalize hC : w1.heap.size = C at *
  have HC := Lib.hid hC
  clear hC
  go_wp2_with fail
  go_loopw [7, 8] (fun av ev wr => ∃ p : Nat, Q ≤ p ∧ (p = Q ∨ p ≤ 149) ∧ av = .float .f64 (A m p) ∧ ev = .int .i64 ((Q : Int) - p) ∧ wr.heap[C]? = some (.cells #[.float .f64 (A m p)] 60 (0, 0)) ∧ Only C w1 wr) (fun _ ev _ => (intOf ev + 149).toNat)
  case atStart => exact ⟨Q, Nat.le_refl _, .inl rfl, rfl, by congr 1; omega, Hb3.out, Ho3.out⟩
  case round =>
    obtain ⟨p, hQp, hpp, rfl, rfl, hbp, hop⟩ := hrel
    have hp400 : p ≤ 276 := by omega
    by_cases hlt : p < 149
    · obtain ⟨g1, g2⟩ := frac_ne m p Ho.out hm2 hlt
      have Hbp := Lib.hid hbp
      have Hop := Lib.hid hop
      have Hpp := Lib.hid hpp
      clear hbp hop hpp
      go_wp2_with fail
      refine (trunc_any m p _ (by omega) (by omega) g2).mono ?_
      rintro e w4 ⟨rfl, rfl⟩
      go_wp2_with fail
      refine (Mks.closure_any C (A m p) 1 _ (nan_A (by omega) (by omega)) Hbp.out (by omega) (by omega)).mono ?_
      rintro e w5 ⟨rfl, hb5, ho5⟩
      rw [scale_up (by omega) (by omega)] at hb5 ⊢
      have Hb5 := Lib.hid hb5
      have Ho5 := Lib.hid (Hop.out.trans ho5)
      clear hb5 ho5
      go_wp2_with fail
      go_roundw
      case rel => exact ⟨p + 1, by omega, by omega, rfl, by congr 1; omega, Hb5.out, Ho5.out⟩
      case measure => simp [intOf]; omega
    · have g1 := whole_eq m p hm2 (by omega)
      have Hbp := Lib.hid hbp
      have Hop := Lib.hid hop
      have Hpp := Lib.hid hpp
      clear hbp hop hpp
      go_wp2_with fail
      refine (trunc_big m p _ (by omega) (by omega) (by omega)).mono ?_
      rintro e w4 ⟨rfl, rfl⟩
      go_wp2_with fail
      clear g1
      go_loopw [7, 8] (fun av ev w6 => ∃ r : Nat, 149 ≤ r ∧ r ≤ p ∧ av = .float .f64 (A m r) ∧ ev = .int .i64 ((Q : Int) - r) ∧ w6.heap[C]? = some (.cells #[.float .f64 (A m r)] 60 (0, 0)) ∧ Only C w1 w6) (fun _ ev _ => ((Q : Int) - intOf ev).toNat)
      case atStart => exact ⟨p, by omega, Nat.le_refl _, rfl, rfl, Hbp.out, Hop.out⟩
      case round =>
        obtain ⟨r, hr1, hr2, rfl, rfl, hbr, hor⟩ := hrel
        have Hbr := Lib.hid hbr
        have Hor := Lib.hid hor
        clear hbr hor
        by_cases hr : r = 149
        · subst hr
          have kk := ki.out
          go_wp2_with fail
          refine (Mod_any m 149 _ hm2 (by omega) (by omega)).mono ?_
          rintro e w7 ⟨n, rfl, hn1, hn2, hn3, rfl⟩
          have hz : (FloatKind.f64.format.order (A n 149) 0 == some .eq) = false := by
            rw [eq64, A_eq_zero (by omega) (by omega)]
            exact decide_eq_false (by have := hn3 rfl; have := Ho.out; omega)
          clear hn1 hn2 hn3
          generalize A n 149 = z at *
          generalize A m 149 = zz at *
          go_wp2_with fail
          go_ret3
          exact ⟨rfl, Hor.out.below (Nat.le_of_eq HC.out) (Nat.le_refl _)⟩
        · obtain ⟨r', rfl⟩ : ∃ r', r = r' + 1 := ⟨r - 1, by omega⟩
          go_wp2_with fail
          refine (Mod_any m (r' + 1) _ hm2 (by omega) (by omega)).mono ?_
          rintro e w7 ⟨n, rfl, hn1, hn2, hn3, rfl⟩
          have hz : (FloatKind.f64.format.order (A n (r' + 1)) 0 == some .eq) = true := by
            rw [eq64, A_eq_zero (by omega) (by omega)]
            refine decide_eq_true (Nat.eq_zero_of_not_pos fun h => ?_)
            have h1 : 2 ^ 150 ≤ 2 ^ (r' + 1) := Nat.pow_le_pow_right (by omega) (by omega)
            have h2 : 1 * 2 ^ (r' + 1) ≤ n * 2 ^ (r' + 1) := Nat.mul_le_mul_right _ h
            omega
          clear hn1 hn2 hn3
          go_wp2_with fail
          refine (Mks.closure_any C (A m (r' + 1)) (-1) _ (nan_A (by omega) (by omega)) Hbr.out (by omega) (by omega)).mono ?_
          rintro e w8 ⟨rfl, hb8, ho8⟩
          rw [scale_down (by omega) (by omega)] at hb8 ⊢
          have Hb8 := Lib.hid hb8
          have Ho8 := Lib.hid (Hor.out.trans ho8)
          clear hb8 ho8 hz
          go_wp2_with fail
          go_roundw
          case rel => exact ⟨r', by omega, by omega, rfl, by congr 1; omega, Hb8.out, Ho8.out⟩
          case measure => simp [intOf]; omega
/-- the three values of a single, of both texts alike -/
theorem both (x : Nat) (wx : x < 4294967296) : ∃ m e : Int, ∃ ok : Bool, ∀ w,
    Calls Tryz.prog 154 #[.float .f32 x] w (Out m e ok w) ∧ Calls Tryz.prog 91 #[.float .f32 x] w (Out m e ok w) := by
  by_cases hf : rung Ieee.single x < Ieee.single.infRung
  · by_cases h0 : rung Ieee.single x = 0
    · exact ⟨0, 0, true, fun w => ⟨spec_zero x w h0, impl_zero x w h0⟩⟩
    · obtain ⟨m, t, h1, h2⟩ := two_odd (ss Ieee.single (rung Ieee.single x)) (ss_pos h0)
      exact ⟨m, _, true, fun w => ⟨spec_main x m t w hf h0 h1 h2, impl_main x m t w wx hf h0 h1 h2⟩⟩
  · exact ⟨0, 0, false, fun w => ⟨spec_nofin x w hf, impl_nofin x w hf⟩⟩
end Go.Proofs.YtlngplohnknhjaaGreatDoor.Spl
