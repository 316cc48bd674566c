/- Contracts of the program's scaler and of its MakeSingle. -/
import Derived.Test.YtkjjeccgmeiniaaSigned
import Derived.Test.YtkjjeccgmeiniaaMake
import Derived.Test.YtkjjeccgmeiniaaOnly
namespace Go.Proofs.Ytkjjeccgmeiniaa.Flt
end Go.Proofs.Ytkjjeccgmeiniaa.Flt
namespace Go.Proofs.Ytkjjeccgmeiniaa.Mth
end Go.Proofs.Ytkjjeccgmeiniaa.Mth
namespace Go.Proofs.Ytkjjeccgmeiniaa.Mks
open Go.ChangeShapes Go.WideShapes Go.ChangeAt Go.RowKit Go.Proofs.Ytkjjeccgmeiniaa Go.Proofs.Ytkjjeccgmeiniaa.Flt Go.Proofs.Ytkjjeccgmeiniaa.Mth
set_option linter.unusedVariables false
theorem scaler_any (a : Nat) (w : World) :
    Calls Try.prog 47 #[.float .f64 a] w fun e w' => e = .returned (.func (.func 53) #[] #[.pointer (some ⟨w.heap.size, 0, none⟩)]) ∧ w' = w.alloc (.cells #[.float .f64 a] 44) := by
  have hmf : ∀ (fn : Fn) (first cap : Array Value) (w : World), (Instr.makeFunc fn first cap).run Try.prog w = .ok (.func fn first cap) w := fun _ _ _ _ => rfl
  go_enter Try.func47, Try.ntmps47
  go_wp2
  go_ret
  exact ⟨rfl, rfl⟩
def ScaledOut (C : Nat) (a : Nat) (n : Int) (w : World) (e : Ending) (w' : World) : Prop :=
  e = .returned (.float .f64 (scale a n)) ∧ w'.heap[C]? = some (.cells #[.float .f64 (scale a n)] 44 (0, 0)) ∧ Only C w w'
set_option maxRecDepth 20000 in
set_option maxHeartbeats 400000 in
theorem closure_any (C a : Nat) (n : Int) (w : World) (na : isNaN Ieee.double a = false) (hb : w.heap[C]? = some (.cells #[.float .f64 a] 44 (0, 0))) (hn : -1000000 ≤ n) (hn' : n ≤ 1000000) :
    Calls Try.prog 53 #[.int .i64 n, .pointer (some ⟨C, 0, none⟩)] w (ScaledOut C a n w) := by
  have Hb := Lib.hid hb
  have Na := Lib.hid na
  clear hb na
  go_enter Try.func53, Try.ntmps53
  go_wp2_with fail
  go_loopw [0] (fun nv wr => ∃ k : Nat, (k : Int) ≤ max n 0 ∧ nv = .int .i64 (n - k) ∧ wr.heap[C]? = some (.cells #[.float .f64 (muls k a)] 44 (0, 0)) ∧ Only C w wr) (fun nv _ => (intOf nv).toNat)
  case atStart => exact ⟨0, by omega, by congr 1; omega, Hb.out, Only.refl _ _⟩
  case round =>
    obtain ⟨k, hk, rfl, hbk, hok⟩ := hrel
    have hck := cell_of_one hbk
    have hfk := free_of_one hbk
    have Hbk := Lib.hid hbk
    have Hok := Lib.hid hok
    clear hbk hok
    by_cases hlt : 0 < n - (k : Int)
    · have hmul := fun W => run_float_arith (P := Try.prog) W .mul 44 .f64 _ _ _ (mul2_bits (muls_nan Na.out k)).1
      go_wp2
      go_roundw
      case rel => exact ⟨k + 1, by omega, by congr 1; omega, one_setCell Hbk.out, Hok.out.setCell _ _⟩
      case measure => simp [intOf]; omega
    · have Hke := Lib.hid (show k = n.toNat by omega)
      have Na1 := Lib.hid (muls_nan Na.out k)
      go_wp2_with fail
      generalize ha1 : muls k a = a1 at *
      have Ha1 := Lib.hid ha1
      clear ha1
      obtain ⟨wo, rfl⟩ : ∃ wo : World, wo = wr := ⟨_, rfl⟩
      go_loopw [0] (fun nv w2 => ∃ j : Nat, (j : Int) ≤ max (-n) 0 ∧ nv = .int .i64 (n - k + j) ∧ w2.heap[C]? = some (.cells #[.float .f64 (divs j a1)] 44 (0, 0)) ∧ Only C w w2) (fun nv _ => (-intOf nv).toNat)
      case atStart => exact ⟨0, by omega, by congr 1; omega, Hbk.out, Hok.out⟩
      case round =>
        obtain ⟨j, hj, rfl, hbj, hoj⟩ := hrel
        have hck2 := cell_of_one hbj
        have hfk2 := free_of_one hbj
        have Hbj := Lib.hid hbj
        have Hoj := Lib.hid hoj
        clear hbj hoj
        by_cases hlt2 : n - (k : Int) + j < 0
        · have hmul := fun W => run_float_arith (P := Try.prog) W .quo 44 .f64 _ _ _ (div2_bits (divs_nan Na1.out j)).1
          go_wp2
          go_roundw
          case rel => exact ⟨j + 1, by omega, by congr 1; omega, one_setCell Hbj.out, Hoj.out.setCell _ _⟩
          case measure => simp [intOf]; omega
        · have Hs := Lib.hid (show divs j a1 = scale a n by
            unfold scale
            rw [← Ha1.out, Hke.out, show (-n).toNat = j by have := Hke.out; omega])
          have Hbs := Lib.hid (show _ = _ from by rw [← Hs.out]; exact Hbj.out : wr.heap[C]? = some (.cells #[.float .f64 (scale a n)] 44 (0, 0)))
          go_wp2
          go_ret
          exact ⟨by show Ending.returned (.float .f64 (divs j a1)) = _; rw [Hs.out], Hbs.out, Hoj.out⟩
def OutB (s : ByteArray) (m e : Int) (w : World) (x : Ending) (w' : World) : Prop := x = .returned (.tuple #[.float .f32 (out s m e).1, .bool (out s m e).2]) ∧ Below w.heap.size w w'
theorem impl_bad (s : ByteArray) (m e : Int) (w : World) (h : ¬ (0 ≤ m ∧ m ≤ 16777215 ∧ -149 ≤ e ∧ e ≤ 127)) :
    Calls Try.prog 33 #[.string s, .int .i64 m, .int .i64 e] w (OutB s m e w) := by
  have Hf := Lib.hid (show out s m e = (0, false) by unfold out; rw [if_neg h])
  have hfin : OutB s m e w (.returned (.tuple #[.float .f32 0, .bool false])) w := ⟨by rw [Hf.out], Below.refl _ _⟩
  have Hfin := Lib.hid hfin
  clear hfin
  by_cases h1 : m < 0
  · clear h
    go_enter Try.func33, Try.ntmps33
    go_wp2_with fail
    go_ret2
    exact Hfin.out
  · by_cases h2 : 16777215 < m
    · clear h
      go_enter Try.func33, Try.ntmps33
      go_wp2_with fail
      go_ret2
      exact Hfin.out
    · by_cases h3 : e < -149
      · clear h
        go_enter Try.func33, Try.ntmps33
        go_wp2_with fail
        go_ret2
        exact Hfin.out
      · have h4 : 127 < e := by omega
        clear h
        go_enter Try.func33, Try.ntmps33
        go_wp2_with fail
        go_ret2
        exact Hfin.out
set_option maxRecDepth 20000 in
set_option maxHeartbeats 800000 in
theorem impl_good (s : ByteArray) (m e : Int) (w : World) (h1 : 0 ≤ m) (h2 : m ≤ 16777215) (h3 : -149 ≤ e) (h4 : e ≤ 127) :
    Calls Try.prog 33 #[.string s, .int .i64 m, .int .i64 e] w (OutB s m e w) := by
  have us : (Try.prog.underlying 31).isSome = true := by rw [Try.underlying31]; rfl
  have ud : (Try.prog.underlying 44).isSome = true := by rw [Try.underlying44]; rfl
  have Us := Lib.hid us
  have Ud := Lib.hid ud
  have Hout := Lib.hid (show out s m e = made s (amount m e) by unfold out; rw [if_pos ⟨h1, h2, h3, h4⟩])
  clear us ud
  go_enter Try.func33, Try.ntmps33
  go_wp2_with fail
  refine (scaler_any (floatOfInt .f64 m) _).mono ?_
  rintro e' w' ⟨rfl, rfl⟩
  go_wp2_with fail
  refine (closure_any w.heap.size (floatOfInt .f64 m) e _ (ofInt_nan m) (block_new _ _) (by omega) (by omega)).mono ?_
  rintro e' w1 ⟨rfl, hb1, ho1⟩
  have hbel := (Only.below ho1 (base := w.heap.size) (Nat.le_refl _) (by simp))
  have Hbel := Lib.hid (((Below.refl w.heap.size w).alloc (Nat.le_refl _) _).trans hbel)
  clear hb1 ho1 hbel
  rw [show scale (floatOfInt .f64 m) e = amount m e from rfl]
  obtain ⟨x, n, hx, hcs, kn⟩ := run_narrow_any (P := Try.prog) 44 31 (amount m e) Ud.out Try.underlying31 (amount_nan m e) (amount_lt m e) w1
  obtain ⟨r, q, hr, kw⟩ := run_widen_any (P := Try.prog) 31 44 x Us.out Try.underlying44 (w1.drewN n)
  have hmade := made_cases s (amount m e) x r n (amount_nan m e) (amount_lt m e) hx hcs hr
  have hne := ne64 r (amount m e)
  clear hcs hr hx
  generalize amount m e = a2 at *
  rcases hmade with ⟨q1, q2⟩ | ⟨q1, q2⟩
  · rw [q1] at hne
    have Hf := Lib.hid (show out s m e = (0, false) by rw [Hout.out, q2])
    clear q1 q2
    go_wp2_with fail
    go_ret2
    exact ⟨by rw [Hf.out]; rfl, below_drewN Hbel.out _⟩
  · rw [q1] at hne
    have Hf := Lib.hid (show out s m e = Sgd.out s x by rw [Hout.out, q2])
    clear q1 q2
    go_wp2_with fail
    refine (Sgd.impl_any s x _).mono ?_
    rintro e' w2 ⟨rfl, hb2⟩
    have Hb2 := Lib.hid hb2
    clear hb2
    go_wp2_with fail
    go_ret2
    refine ⟨by rw [Hf.out]; rfl, ?_⟩
    have h5 := below_drewN Hbel.out (n + q)
    exact h5.trans (Hb2.out.mono h5.size)
theorem impl_any (s : ByteArray) (m e : Int) (w : World) : Calls Try.prog 33 #[.string s, .int .i64 m, .int .i64 e] w (OutB s m e w) := by
  by_cases h : 0 ≤ m ∧ m ≤ 16777215 ∧ -149 ≤ e ∧ e ≤ 127
  · exact impl_good s m e w h.1 h.2.1 h.2.2.1 h.2.2.2
  · exact impl_bad s m e w h
end Go.Proofs.Ytkjjeccgmeiniaa.Mks
