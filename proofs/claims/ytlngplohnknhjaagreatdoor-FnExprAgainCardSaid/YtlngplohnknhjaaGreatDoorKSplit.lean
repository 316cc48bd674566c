/- Contracts of SplitSingle, in the model. -/
import Derived.Test.YtlngplohnknhjaaGreatDoorPkA
namespace Go.Proofs.YtlngplohnknhjaaGreatDoor.Spl
open Go.ChangeShapes Go.WideShapes Go.ChangeAt Go.RowKit Go.Proofs.YtlngplohnknhjaaGreatDoor Go.Proofs.YtlngplohnknhjaaGreatDoor.Flt Go.Proofs.YtlngplohnknhjaaGreatDoor.Mth
set_option linter.unusedVariables false
theorem fine_any (a : Nat) (w : World) :
    Calls Tryz.prog 86 #[.float .f64 a] w fun e w' => e = .returned (.bool (isFinD a)) ∧ ∃ n, w' = w.drewN n := by
  obtain ⟨r, n, wr, hr, kr⟩ := run_float_any (P := Tryz.prog) .sub (.inr (.inl rfl)) 60 .f64 a a w
  have heq := eq64 r 0
  have hf : eqW Ieee.double r 0 = isFinD a := by
    cases h : isFinD a
    · rw [sub_nofin h] at hr
      rcases hr with hr | ⟨_, hr⟩
      · cases hr
      · exact eqW_nan _ (by rw [show isNaN Ieee.double r = true from hr]; rfl)
    · rw [sub_self h] at hr
      rcases hr with hr | ⟨hr, _⟩
      · cases hr; decide
      · cases hr
  rw [hf] at heq
  clear hf hr wr
  go_enter Tryz.func86, Tryz.ntmps86
  go_wp2
  go_ret
  exact ⟨rfl, n, rfl⟩
theorem ret_three {a b c d : Int} {ok : Bool} (h1 : a = c) (h2 : b = d) : Ending.returned (.tuple #[.int .i64 a, .int .i64 b, .bool ok]) = .returned (.tuple #[.int .i64 c, .int .i64 d, .bool ok]) := by rw [h1, h2]
/-- what SplitSingle gives: three values -/
def Out (m e : Int) (ok : Bool) (w : World) (x : Ending) (w' : World) : Prop := x = .returned (.tuple #[.int .i64 m, .int .i64 e, .bool ok]) ∧ Below w.heap.size w w'
theorem spec_nofin (x : Nat) (w : World) (h : ¬ rung Ieee.single x < Ieee.single.infRung) :
    Calls Tryz.prog 154 #[.float .f32 x] w (Out 0 0 false w) := by
  have us : (Tryz.prog.underlying 92).isSome = true := by rw [Tryz.underlying92]; rfl
  obtain ⟨r, n, hr, kr⟩ := run_widen_any (P := Tryz.prog) 92 60 x us Tryz.underlying60 w
  have hfin : isFinD r = false := by
    cases nx : isNaN Ieee.single x
    · rw [hr.2.2 nx, isFin_widen, decide_eq_false h]
    · exact isFin_nan (by rw [hr.2.1, nx])
  clear us hr h
  go_enter Tryz.func154, Tryz.ntmps154
  go_wp2_with fail
  refine (fine_any _ _).mono ?_
  rintro e w1 ⟨rfl, k, rfl⟩
  go_wp2_with fail
  go_ret3
  exact ⟨rfl, below_drewN (Below.refl _ _) _⟩
theorem spec_zero (x : Nat) (w : World) (h : rung Ieee.single x = 0) :
    Calls Tryz.prog 154 #[.float .f32 x] w (Out 0 0 true w) := by
  have us : (Tryz.prog.underlying 92).isSome = true := by rw [Tryz.underlying92]; rfl
  have hlt : rung Ieee.single x < Ieee.single.infRung := by rw [h]; decide
  have nx := isNaN_rung0 Ieee.single h
  have kr := run_widen (P := Tryz.prog) 92 60 x us Tryz.underlying60 nx w
  have hfin : isFinD (widen x) = true := by rw [isFin_widen, decide_eq_true hlt]
  have heq := eq64 (widen x) 0
  rw [eqW_zero _ (isNaN_widen x), rung_widen, if_pos hlt, wr_A, h] at heq
  rw [show A (ss Ieee.single 0) (qq Ieee.single 0) = 0 by rw [show ss Ieee.single 0 = 0 by decide, A_zero]] at heq
  clear us nx hlt h
  go_enter Tryz.func154, Tryz.ntmps154
  go_wp2_with fail
  refine (fine_any _ _).mono ?_
  rintro e w1 ⟨rfl, k, rfl⟩
  go_wp2_with fail
  go_ret3
  exact ⟨rfl, below_drewN (Below.refl _ _) _⟩
theorem c24 : mg Ieee.double 4715268809856909312 = 2 ^ (W + 173) := mg_const (by decide) (by decide) (by decide)
theorem c23 : mg Ieee.double 4710765210229538816 = 2 ^ (W + 172) := mg_const (by decide) (by decide) (by decide)
theorem pw (s p : Nat) (h : s < 16777216) (hp : p ≤ 148) : s * 2 ^ p < 2 ^ 172 := by
  have h1 : 2 ^ p ≤ 2 ^ 148 := Nat.pow_le_pow_right (by omega) hp
  calc s * 2 ^ p ≤ s * 2 ^ 148 := Nat.mul_le_mul_left _ h1
    _ < 16777216 * 2 ^ 148 := Nat.mul_lt_mul_of_pos_right h (Nat.two_pow_pos _)
    _ = 2 ^ 172 := by decide
theorem pg (s p : Nat) (h : 8388608 ≤ s) (hp : 150 ≤ p) : 2 ^ 173 ≤ s * 2 ^ p := by
  have h1 : 2 ^ 150 ≤ 2 ^ p := Nat.pow_le_pow_right (by omega) hp
  calc 2 ^ 173 = 8388608 * 2 ^ 150 := by decide
    _ ≤ s * 2 ^ 150 := Nat.mul_le_mul_right _ h
    _ ≤ s * 2 ^ p := Nat.mul_le_mul_left _ h1
/-- the tests of the two loops of amounts -/
theorem t24 (s p : Nat) (h : s < 16777216) (hp : p ≤ 400) : (FloatKind.f64.format.order (A s p) 4715268809856909312 == some .gt) = decide (2 ^ 173 < s * 2 ^ p) ∧ (FloatKind.f64.format.order (A s p) 4715268809856909312 == some .eq) = decide (s * 2 ^ p = 2 ^ 173) := by
  have := A_cmp (m := s) (q := p) (n := 173) (by omega) (by omega) (show 4715268809856909312 < 9218868437227405312 by decide) c24
  exact ⟨by rw [gt64]; exact this.2.1, by rw [eq64]; exact this.2.2⟩
theorem t23 (s p : Nat) (h : s < 16777216) (hp : p ≤ 400) : (FloatKind.f64.format.order (A s p) 4710765210229538816 == some .lt) = decide (s * 2 ^ p < 2 ^ 172) := by
  have := A_cmp (m := s) (q := p) (n := 172) (by omega) (by omega) (show 4710765210229538816 < 9218868437227405312 by decide) c23
  rw [lt64]; exact this.1
theorem nonzero_facts (x : Nat) (hf : rung Ieee.single x < Ieee.single.infRung) (h0 : rung Ieee.single x ≠ 0) :
    (FloatKind.f64.format.order (widen x) 0 == some .eq) = false ∧ (FloatKind.f64.format.order (widen x) 0 == some .lt) = sgn Ieee.single x ∧
      (sgn Ieee.single x = true → Op.negFloat .f64 (widen x) = A (ss Ieee.single (rung Ieee.single x)) (qq Ieee.single (rung Ieee.single x))) ∧
      (sgn Ieee.single x = false → widen x = A (ss Ieee.single (rung Ieee.single x)) (qq Ieee.single (rung Ieee.single x))) := by
  have hq := qq_lt_single hf
  have hs := ss_single (rung Ieee.single x)
  have hA := A_spec (m := ss Ieee.single (rung Ieee.single x)) (q := qq Ieee.single (rung Ieee.single x)) (by omega) (by omega)
  have hrw : rung Ieee.double (widen x) = A (ss Ieee.single (rung Ieee.single x)) (qq Ieee.single (rung Ieee.single x)) := by rw [rung_widen, if_pos hf, wr_A]
  have hne : rung Ieee.double (widen x) ≠ 0 := by
    rw [hrw]
    intro e
    have h1 := A_eq_zero (m := ss Ieee.single (rung Ieee.single x)) (q := qq Ieee.single (rung Ieee.single x)) (by omega) (by omega)
    rw [e, decide_eq_false (by have := ss_pos h0; omega)] at h1
    exact absurd h1 (by decide)
  have hl := inf_lt Ieee.double
  refine ⟨?_, ?_, fun h => ?_, fun h => ?_⟩
  · rw [eq64, eqW_zero _ (isNaN_widen x), decide_eq_false hne]
  · rw [lt64]; unfold ltW; rw [isNaN_widen, nan_zero, sv_zero, ← sgn_widen x, sgn_neg_sv _ hne]; rfl
  · rw [neg_eq .f64 (by show widen x < 2 ^ Ieee.double.width; exact widen_lt x)]
    show Ieee.double.word (!sgn Ieee.double (widen x)) (rung Ieee.double (widen x)) = _
    rw [sgn_widen, h, hrw]; rfl
  · rw [widen_A hf, h]; rfl
set_option maxRecDepth 20000 in
set_option maxHeartbeats 1600000 in
theorem spec_main (x m t : Nat) (w : World) (hf : rung Ieee.single x < Ieee.single.infRung) (h0 : rung Ieee.single x ≠ 0) (hodd : m % 2 = 1) (hm : ss Ieee.single (rung Ieee.single x) = m * 2 ^ t) :
    Calls Tryz.prog 154 #[.float .f32 x] w (Out m ((qq Ieee.single (rung Ieee.single x) : Int) + t - 149) true w) := by
  have us : (Tryz.prog.underlying 92).isSome = true := by rw [Tryz.underlying92]; rfl
  have ud : (Tryz.prog.underlying 60).isSome = true := by rw [Tryz.underlying60]; rfl
  have nx : isNaN Ieee.single x = false := decide_eq_false (by omega)
  have kr := run_widen (P := Tryz.prog) 92 60 x us Tryz.underlying60 nx w
  have hfin : isFinD (widen x) = true := by rw [isFin_widen, decide_eq_true hf]
  obtain ⟨e0, l0, n1, n2⟩ := nonzero_facts x hf h0
  have hq := qq_lt_single hf
  have hs := ss_single (rung Ieee.single x)
  have hge := fun h => ss_single_ge (r := rung Ieee.single x) h
  generalize ss Ieee.single (rung Ieee.single x) = s at *
  generalize qq Ieee.single (rung Ieee.single x) = q at *
  have Hm := Lib.hid hm
  have Ho := Lib.hid hodd
  have Hge := Lib.hid hge
  have Ud := Lib.hid ud
  clear us ud nx hf h0 hm hodd hge
  have ht23 : t ≤ 23 := by
    have hm1 : 1 ≤ m := by have := Ho.out; omega
    have h1 : 2 ^ t ≤ m * 2 ^ t := Nat.le_mul_of_pos_left _ hm1
    rw [← Hm.out] at h1
    have h2 : 2 ^ t < 2 ^ 24 := by omega
    have := (Nat.pow_lt_pow_iff_right (by omega : 1 < 2)).1 h2
    omega
  have ki := Lib.hid (fun W => run_convert_float_int (P := Tryz.prog) W 60 3 .f64 .i64 _ _ Ud.out Tryz.underlying3 (toInt_A (m := s) (by omega)))
  cases hsg : sgn Ieee.single x
  · have hb := n2 hsg
    rw [hb] at kr hfin e0 l0
    rw [hsg] at l0
    clear n1 n2 hb hsg
    go_enter Tryz.func154, Tryz.ntmps154
    go_wp2_with fail
    refine (fine_any _ _).mono ?_
    rintro e w1 ⟨rfl, k, rfl⟩
    have Bw := Lib.hid (below_drewN (Below.refl w.heap.size w) k)
    generalize hW : w.drewN k = w2 at *
    clear hW kr
    go_wp2_with fail
    clear e0 l0 hfin
    have Hq := Lib.hid hq
    go_loop [5, 6] (fun av ev => ∃ p : Nat, p ≤ q ∧ (149 ≤ p ∨ p = q) ∧ av = .float .f64 (A s p) ∧ ev = .int .i64 ((q : Int) - p)) (fun _ ev => ((q : Int) - intOf ev).toNat)
    case atStart => exact ⟨q, Nat.le_refl _, .inr rfl, rfl, by congr 1; omega⟩
    case round =>
      obtain ⟨p, hp, hp2, rfl, rfl⟩ := hrel
      obtain ⟨g1, g2⟩ := t24 s p hs (by omega)
      by_cases hlt : 150 ≤ p
      · have hbig := pg s p (Hge.out (by omega)) hlt
        obtain ⟨p', rfl⟩ : ∃ p', p = p' + 1 := ⟨p - 1, by omega⟩
        have hdiv := run_float_arith (P := Tryz.prog) w2 .quo 60 .f64 _ _ _ (div2_bits (nan_A (m := s) (q := p' + 1) (by omega) (by omega))).1
        rw [div2_A (by omega) (by omega)] at hdiv
        rcases Nat.lt_or_eq_of_le hbig with h | h
        · rw [decide_eq_true h] at g1
          rw [decide_eq_false (by omega)] at g2
          clear hbig h
          go_wp2_with fail
          go_round
          case rel => exact ⟨p', by omega, by omega, rfl, by congr 1; omega⟩
          case measure => simp [intOf]; omega
        · rw [decide_eq_false (by omega)] at g1
          rw [decide_eq_true h.symm] at g2
          clear hbig h
          go_wp2_with fail
          go_round
          case rel => exact ⟨p', by omega, by omega, rfl, by congr 1; omega⟩
          case measure => simp [intOf]; omega
      · have hsm : s * 2 ^ p < 2 ^ 173 := by
          have h1 : 2 ^ p ≤ 2 ^ 149 := Nat.pow_le_pow_right (by omega) (by omega)
          calc s * 2 ^ p ≤ s * 2 ^ 149 := Nat.mul_le_mul_left _ h1
            _ < 16777216 * 2 ^ 149 := Nat.mul_lt_mul_of_pos_right hs (Nat.two_pow_pos _)
            _ = 2 ^ 173 := by decide
        rw [decide_eq_false (by omega)] at g1
        rw [decide_eq_false (by omega)] at g2
        clear hsm
        go_wp2_with fail
        clear g1 g2
        go_loop [5, 6] (fun av ev => ∃ p' : Nat, p' ≤ 149 ∧ av = .float .f64 (A s p') ∧ ev = .int .i64 ((q : Int) - p')) (fun _ ev => (intOf ev + 149).toNat)
        case atStart => exact ⟨p, by omega, rfl, rfl⟩
        case round =>
          obtain ⟨p', hp', rfl, rfl⟩ := hrel
          have g3 := t23 s p' hs (by omega)
          by_cases hlt2 : p' ≤ 148
          · rw [decide_eq_true (pw s p' hs hlt2)] at g3
            have hmul := run_float_arith (P := Tryz.prog) w2 .mul 60 .f64 _ _ _ (mul2_bits (nan_A (m := s) (q := p') (by omega) (by omega))).1
            rw [mul2_A (by omega) (by omega)] at hmul
            have he : -149 < (q : Int) - p' := by omega
            go_wp2_with fail
            go_round
            case rel => exact ⟨p' + 1, by omega, rfl, by congr 1; omega⟩
            case measure => simp [intOf]; omega
          · obtain rfl : p' = 149 := by omega
            have hcase : s * 2 ^ 149 < 2 ^ 172 → q = 0 := by
              intro hx
              refine Nat.eq_zero_of_not_pos fun hq0 => ?_
              have h8 := Hge.out hq0
              have : 8388608 * 2 ^ 149 ≤ s * 2 ^ 149 := Nat.mul_le_mul_right _ h8
              have e8 : 8388608 * 2 ^ 149 = 2 ^ 172 := by decide
              omega
            have kk := ki.out
            generalize haa : A s 149 = aa at g3 kk ⊢
            clear haa
            by_cases hx : s * 2 ^ 149 < 2 ^ 172
            · have hq0 := hcase hx
              rw [decide_eq_true hx] at g3
              clear hx hcase
              have he : ¬ (-149 < (q : Int) - (149 : Nat)) := by omega
              clear hq0
              go_wp2_with fail
              go_loop [6, 7] (fun ev mv => ∃ j n : Nat, j ≤ t ∧ Hid (n = m * 2 ^ (t - j)) ∧ n ≤ s ∧ mv = .int .i64 n ∧ ev = .int .i64 ((q : Int) - 149 + j)) (fun ev _ => ((q : Int) - 149 + t - intOf ev).toNat)
              case atStart => exact ⟨0, s, Nat.zero_le _, by rw [Nat.sub_zero]; exact Hm.out, Nat.le_refl _, rfl, by congr 1; omega⟩
              case round =>
                obtain ⟨j, n, hj, hn, hns, rfl, rfl⟩ := hrel
                by_cases hjt : j < t
                · obtain ⟨n', hn'⟩ : ∃ n', n' = m * 2 ^ (t - (j + 1)) := ⟨_, rfl⟩
                  have h2 : n = 2 * n' := by
                    rw [hn.out, hn', show t - j = t - (j + 1) + 1 by omega, Nat.pow_succ]
                    rw [Nat.mul_comm _ 2, Nat.mul_left_comm]
                  have hz : ((n : Int) % 2 == 0) = true := beq_iff_eq.2 (by omega)
                  have Hn' := Lib.hid hn'
                  have H2 := Lib.hid h2
                  clear hn' h2
                  go_wp2_with fail
                  go_round
                  case rel => exact ⟨j + 1, n', by omega, Hn'.out, by have := H2.out; omega, by have := H2.out; congr 1; omega, by congr 1; omega⟩
                  case measure => simp [intOf]; omega
                · have hjt' : j = t := by omega
                  have hnm : n = m := by rw [hn.out, hjt', Nat.sub_self]; simp
                  have hz : ((n : Int) % 2 == 0) = false := beq_eq_false_iff_ne.2 (by have := Ho.out; omega)
                  have Hnm := Lib.hid hnm
                  have Hj := Lib.hid hjt'
                  clear hnm hjt'
                  go_wp2_with fail
                  go_ret3
                  exact ⟨ret_three (by rw [Hnm.out]) (by rw [Hj.out]; omega), Bw.out⟩
            · rw [decide_eq_false hx] at g3
              clear hx hcase
              go_wp2_with fail
              go_loop [6, 7] (fun ev mv => ∃ j n : Nat, j ≤ t ∧ Hid (n = m * 2 ^ (t - j)) ∧ n ≤ s ∧ mv = .int .i64 n ∧ ev = .int .i64 ((q : Int) - 149 + j)) (fun ev _ => ((q : Int) - 149 + t - intOf ev).toNat)
              case atStart => exact ⟨0, s, Nat.zero_le _, by rw [Nat.sub_zero]; exact Hm.out, Nat.le_refl _, rfl, by congr 1; omega⟩
              case round =>
                obtain ⟨j, n, hj, hn, hns, rfl, rfl⟩ := hrel
                by_cases hjt : j < t
                · obtain ⟨n', hn'⟩ : ∃ n', n' = m * 2 ^ (t - (j + 1)) := ⟨_, rfl⟩
                  have h2 : n = 2 * n' := by
                    rw [hn.out, hn', show t - j = t - (j + 1) + 1 by omega, Nat.pow_succ]
                    rw [Nat.mul_comm _ 2, Nat.mul_left_comm]
                  have hz : ((n : Int) % 2 == 0) = true := beq_iff_eq.2 (by omega)
                  have Hn' := Lib.hid hn'
                  have H2 := Lib.hid h2
                  clear hn' h2
                  go_wp2_with fail
                  go_round
                  case rel => exact ⟨j + 1, n', by omega, Hn'.out, by have := H2.out; omega, by have := H2.out; congr 1; omega, by congr 1; omega⟩
                  case measure => simp [intOf]; omega
                · have hjt' : j = t := by omega
                  have hnm : n = m := by rw [hn.out, hjt', Nat.sub_self]; simp
                  have hz : ((n : Int) % 2 == 0) = false := beq_eq_false_iff_ne.2 (by have := Ho.out; omega)
                  have Hnm := Lib.hid hnm
                  have Hj := Lib.hid hjt'
                  clear hnm hjt'
                  go_wp2_with fail
                  go_ret3
                  exact ⟨ret_three (by rw [Hnm.out]) (by rw [Hj.out]; omega), Bw.out⟩
  · have hb := n1 hsg
    rw [hsg] at l0
    clear n1 n2 hsg
    go_enter Tryz.func154, Tryz.ntmps154
    go_wp2_with fail
    refine (fine_any _ _).mono ?_
    rintro e w1 ⟨rfl, k, rfl⟩
    have Bw := Lib.hid (below_drewN (Below.refl w.heap.size w) k)
    generalize hW : w.drewN k = w2 at *
    clear hW kr
    go_wp2_with fail
    clear hb e0 l0 hfin
    have Hq := Lib.hid hq
    go_loop [5, 6] (fun av ev => ∃ p : Nat, p ≤ q ∧ (149 ≤ p ∨ p = q) ∧ av = .float .f64 (A s p) ∧ ev = .int .i64 ((q : Int) - p)) (fun _ ev => ((q : Int) - intOf ev).toNat)
    case atStart => exact ⟨q, Nat.le_refl _, .inr rfl, rfl, by congr 1; omega⟩
    case round =>
      obtain ⟨p, hp, hp2, rfl, rfl⟩ := hrel
      obtain ⟨g1, g2⟩ := t24 s p hs (by omega)
      by_cases hlt : 150 ≤ p
      · have hbig := pg s p (Hge.out (by omega)) hlt
        obtain ⟨p', rfl⟩ : ∃ p', p = p' + 1 := ⟨p - 1, by omega⟩
        have hdiv := run_float_arith (P := Tryz.prog) w2 .quo 60 .f64 _ _ _ (div2_bits (nan_A (m := s) (q := p' + 1) (by omega) (by omega))).1
        rw [div2_A (by omega) (by omega)] at hdiv
        rcases Nat.lt_or_eq_of_le hbig with h | h
        · rw [decide_eq_true h] at g1
          rw [decide_eq_false (by omega)] at g2
          clear hbig h
          go_wp2_with fail
          go_round
          case rel => exact ⟨p', by omega, by omega, rfl, by congr 1; omega⟩
          case measure => simp [intOf]; omega
        · rw [decide_eq_false (by omega)] at g1
          rw [decide_eq_true h.symm] at g2
          clear hbig h
          go_wp2_with fail
          go_round
          case rel => exact ⟨p', by omega, by omega, rfl, by congr 1; omega⟩
          case measure => simp [intOf]; omega
      · have hsm : s * 2 ^ p < 2 ^ 173 := by
          have h1 : 2 ^ p ≤ 2 ^ 149 := Nat.pow_le_pow_right (by omega) (by omega)
          calc s * 2 ^ p ≤ s * 2 ^ 149 := Nat.mul_le_mul_left _ h1
            _ < 16777216 * 2 ^ 149 := Nat.mul_lt_mul_of_pos_right hs (Nat.two_pow_pos _)
            _ = 2 ^ 173 := by decide
        rw [decide_eq_false (by omega)] at g1
        rw [decide_eq_false (by omega)] at g2
        clear hsm
        go_wp2_with fail
        clear g1 g2
        go_loop [5, 6] (fun av ev => ∃ p' : Nat, p' ≤ 149 ∧ av = .float .f64 (A s p') ∧ ev = .int .i64 ((q : Int) - p')) (fun _ ev => (intOf ev + 149).toNat)
        case atStart => exact ⟨p, by omega, rfl, rfl⟩
        case round =>
          obtain ⟨p', hp', rfl, rfl⟩ := hrel
          have g3 := t23 s p' hs (by omega)
          by_cases hlt2 : p' ≤ 148
          · rw [decide_eq_true (pw s p' hs hlt2)] at g3
            have hmul := run_float_arith (P := Tryz.prog) w2 .mul 60 .f64 _ _ _ (mul2_bits (nan_A (m := s) (q := p') (by omega) (by omega))).1
            rw [mul2_A (by omega) (by omega)] at hmul
            have he : -149 < (q : Int) - p' := by omega
            go_wp2_with fail
            go_round
            case rel => exact ⟨p' + 1, by omega, rfl, by congr 1; omega⟩
            case measure => simp [intOf]; omega
          · obtain rfl : p' = 149 := by omega
            have hcase : s * 2 ^ 149 < 2 ^ 172 → q = 0 := by
              intro hx
              refine Nat.eq_zero_of_not_pos fun hq0 => ?_
              have h8 := Hge.out hq0
              have : 8388608 * 2 ^ 149 ≤ s * 2 ^ 149 := Nat.mul_le_mul_right _ h8
              have e8 : 8388608 * 2 ^ 149 = 2 ^ 172 := by decide
              omega
            have kk := ki.out
            generalize haa : A s 149 = aa at g3 kk ⊢
            clear haa
            by_cases hx : s * 2 ^ 149 < 2 ^ 172
            · have hq0 := hcase hx
              rw [decide_eq_true hx] at g3
              clear hx hcase
              have he : ¬ (-149 < (q : Int) - (149 : Nat)) := by omega
              clear hq0
              go_wp2_with fail
              go_loop [6, 7] (fun ev mv => ∃ j n : Nat, j ≤ t ∧ Hid (n = m * 2 ^ (t - j)) ∧ n ≤ s ∧ mv = .int .i64 n ∧ ev = .int .i64 ((q : Int) - 149 + j)) (fun ev _ => ((q : Int) - 149 + t - intOf ev).toNat)
              case atStart => exact ⟨0, s, Nat.zero_le _, by rw [Nat.sub_zero]; exact Hm.out, Nat.le_refl _, rfl, by congr 1; omega⟩
              case round =>
                obtain ⟨j, n, hj, hn, hns, rfl, rfl⟩ := hrel
                by_cases hjt : j < t
                · obtain ⟨n', hn'⟩ : ∃ n', n' = m * 2 ^ (t - (j + 1)) := ⟨_, rfl⟩
                  have h2 : n = 2 * n' := by
                    rw [hn.out, hn', show t - j = t - (j + 1) + 1 by omega, Nat.pow_succ]
                    rw [Nat.mul_comm _ 2, Nat.mul_left_comm]
                  have hz : ((n : Int) % 2 == 0) = true := beq_iff_eq.2 (by omega)
                  have Hn' := Lib.hid hn'
                  have H2 := Lib.hid h2
                  clear hn' h2
                  go_wp2_with fail
                  go_round
                  case rel => exact ⟨j + 1, n', by omega, Hn'.out, by have := H2.out; omega, by have := H2.out; congr 1; omega, by congr 1; omega⟩
                  case measure => simp [intOf]; omega
                · have hjt' : j = t := by omega
                  have hnm : n = m := by rw [hn.out, hjt', Nat.sub_self]; simp
                  have hz : ((n : Int) % 2 == 0) = false := beq_eq_false_iff_ne.2 (by have := Ho.out; omega)
                  have Hnm := Lib.hid hnm
                  have Hj := Lib.hid hjt'
                  clear hnm hjt'
                  go_wp2_with fail
                  go_ret3
                  exact ⟨ret_three (by rw [Hnm.out]) (by rw [Hj.out]; omega), Bw.out⟩
            · rw [decide_eq_false hx] at g3
              clear hx hcase
              go_wp2_with fail
              go_loop [6, 7] (fun ev mv => ∃ j n : Nat, j ≤ t ∧ Hid (n = m * 2 ^ (t - j)) ∧ n ≤ s ∧ mv = .int .i64 n ∧ ev = .int .i64 ((q : Int) - 149 + j)) (fun ev _ => ((q : Int) - 149 + t - intOf ev).toNat)
              case atStart => exact ⟨0, s, Nat.zero_le _, by rw [Nat.sub_zero]; exact Hm.out, Nat.le_refl _, rfl, by congr 1; omega⟩
              case round =>
                obtain ⟨j, n, hj, hn, hns, rfl, rfl⟩ := hrel
                by_cases hjt : j < t
                · obtain ⟨n', hn'⟩ : ∃ n', n' = m * 2 ^ (t - (j + 1)) := ⟨_, rfl⟩
                  have h2 : n = 2 * n' := by
                    rw [hn.out, hn', show t - j = t - (j + 1) + 1 by omega, Nat.pow_succ]
                    rw [Nat.mul_comm _ 2, Nat.mul_left_comm]
                  have hz : ((n : Int) % 2 == 0) = true := beq_iff_eq.2 (by omega)
                  have Hn' := Lib.hid hn'
                  have H2 := Lib.hid h2
                  clear hn' h2
                  go_wp2_with fail
                  go_round
                  case rel => exact ⟨j + 1, n', by omega, Hn'.out, by have := H2.out; omega, by have := H2.out; congr 1; omega, by congr 1; omega⟩
                  case measure => simp [intOf]; omega
                · have hjt' : j = t := by omega
                  have hnm : n = m := by rw [hn.out, hjt', Nat.sub_self]; simp
                  have hz : ((n : Int) % 2 == 0) = false := beq_eq_false_iff_ne.2 (by have := Ho.out; omega)
                  have Hnm := Lib.hid hnm
                  have Hj := Lib.hid hjt'
                  clear hnm hjt'
                  go_wp2_with fail
                  go_ret3
                  exact ⟨ret_three (by rw [Hnm.out]) (by rw [Hj.out]; omega), Bw.out⟩
end Go.Proofs.YtlngplohnknhjaaGreatDoor.Spl
