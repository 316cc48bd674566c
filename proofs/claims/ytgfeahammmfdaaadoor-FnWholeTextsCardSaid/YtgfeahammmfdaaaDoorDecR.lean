/- ReadDecimal in the program. -/
import Derived.Test.YtgfeahammmfdaaaDoorDecI
import Derived.Test.YtgfeahammmfdaaaDoorSigned
namespace Go.Proofs.YtgfeahammmfdaaaDoor.Dec
open Go.ChangeShapes Go.WideShapes Go.ChangeAt Go.RowKit Go.Proofs.YtgfeahammmfdaaaDoor Go.Proofs.YtgfeahammmfdaaaDoor.Flt
set_option linter.unusedVariables false
/-- what ReadDecimal gives -/
noncomputable def decOut (s : ByteArray) : Nat × Bool :=
  if (dnum s 1 (s.size - 1)).2.2 = true then Sgd.out (s.extract 0 1) (dq (dnum s 1 (s.size - 1)).1 (10 ^ (dnum s 1 (s.size - 1)).2.1)) else (0, false)
theorem decOut_of {s : ByteArray} {d k : Nat} (h : Form s 1 (s.size - 1) d k) : decOut s = Sgd.out (s.extract 0 1) (dq d (10 ^ k)) := by
  unfold decOut
  rw [dnum_of h]
  rfl
theorem decOut_none {s : ByteArray} (h : ¬ ∃ d k, Form s 1 (s.size - 1) d k) : decOut s = (0, false) := by
  unfold decOut
  rw [dnum_none h]
  rfl
theorem ten_lt {k : Nat} (h : k ≤ 14) : 10 ^ k < 9007199254740992 ∧ 0 < 10 ^ k ∧ 10 ^ (k + 1) < 9007199254740992 := by
  have h1 := pow15 (n := k + 1) (by omega)
  have h2 := pow15 (n := k) (by omega)
  exact ⟨by omega, Nat.pow_pos (by omega), by omega⟩
/-- one more ten -/
theorem mul_ten {k P : Nat} (h : k ≤ 14) (hP : P = A (10 ^ k) 149) : ∃ R, R = A (10 ^ (k + 1)) 149 ∧ ∀ w, (binOp .mul 46 (.float .f64 P) (.float .f64 4621819117588971520)).run Tryd.prog w = .ok (.float .f64 R) w := by
  obtain ⟨h1, h2, h3⟩ := ten_lt h
  refine ⟨_, rfl, fun w => run_float_arith w .mul _ _ _ _ _ ?_⟩
  have e : 10 ^ (k + 1) = 10 ^ k * 10 := Nat.pow_succ ..
  rw [hP, ← ten_A, e]
  exact mul_A (by rw [← e]; exact h3) h1 (by omega)
/-- the quotient -/
theorem quo_ten {d k P : Nat} (hd : d < 1000000000000000) (h : k ≤ 14) (hP : P = A (10 ^ k) 149) :
    ∃ Q X, X = dq d (10 ^ k) ∧ (∀ w, (binOp .quo 46 (.float .f64 (floatOfInt .f64 (d : Int))) (.float .f64 P)).run Tryd.prog w = .ok (.float .f64 Q) w) ∧
      (∀ w, (convert 46 30 (.float .f64 Q)).run Tryd.prog w = .ok (.float .f32 X) w) := by
  obtain ⟨h1, h2, h3⟩ := ten_lt h
  refine ⟨quoRung Ieee.double (A d 149) (A (10 ^ k) 149), _, rfl, fun w => run_float_arith w .quo _ _ _ _ _ ?_, fun w => ?_⟩
  · rw [ofIntA (by omega), hP]
    exact quo_A (by omega) h1 h2
  · exact run_convert_float_float w _ _ .f64 .f32 _ _ (by rw [Tryd.underlying46]; rfl) Tryd.underlying30 (dq_narrow (by omega) h1 h2).1
theorem ret_fb {p : Nat × Bool} {a : Nat} {b : Bool} (h : p = (a, b)) : Ending.returned (.tuple #[.float .f32 a, .bool b]) = .returned (.tuple #[.float .f32 p.1, .bool p.2]) := by rw [h]
theorem below_drewN' {B : Nat} {a w : World} (h : Below B a w) (n : Nat) : Below B a (w.drewN n) := ⟨h.os, h.tape, h.output, h.size, h.block⟩
set_option maxHeartbeats 1000000 in
theorem impl_any (s : ByteArray) (hm : s.size ≤ maxLen) (w : World) : Calls Tryd.prog 16 #[.string s] w fun e w' => e = .returned (.tuple #[.float .f32 (decOut s).1, .bool (decOut s).2]) ∧ Below w.heap.size w w' := by
  unfold maxLen at hm
  by_cases hz : s.size = 0
  · have hbad := Lib.hid (decOut_none (s := s) (fun ⟨d, k, h⟩ => by have := (form_small h).2.2.1; omega))
    have he : (s.toList == []) = true := by
      rw [beq_iff_eq, Lib.toList_data, List.eq_nil_iff_length_eq_zero, Array.length_toList]; exact hz
    have he2 : s.toList = [] := by simpa using he
    have he3 : s.toList.isEmpty = true := by rw [he2]; rfl
    go_enter Tryd.func16, Tryd.ntmps16
    go_wp2_with fail
    go_ret2
    exact ⟨ret_fb hbad.out, Below.refl _ _⟩
  · have hne : ¬ s.toList = [] := by
      intro h
      apply hz
      have : s.data.toList.length = 0 := by rw [← Lib.toList_data, h]; rfl
      rw [Array.length_toList] at this
      exact this
    have he : (s.toList == []) = false := by rw [beq_eq_false_iff_ne]; exact hne
    have he3 : s.toList.isEmpty = false := by rw [← Bool.not_eq_true, List.isEmpty_iff]; exact hne
    have hsz : (1 : Int) ≤ s.size := by omega
    have hz1 := extract_size s 1
    have c1 := fun w => read_any (s.extract 1 s.size) (by rw [hz1]; unfold maxLen; omega) w
    have Hz := Lib.hid hz1
    have Hne := Lib.hid hne
    clear hz1 hz hne
    go_enter Tryd.func16, Tryd.ntmps16
    go_wp2_with fail
    go_quiet (fail)
    go_wp2_with fail
    refine (c1 _).mono ?_
    rintro e w2 ⟨⟨d, k, b, hb, rfl⟩, hw2⟩
    have Hw := Lib.hid (show Below w.heap.size w w2 by rw [hw2]; exact below_drewN' (Below.refl _ _) _)
    clear c1 hw2
    have Hb := Lib.hid hb
    clear hb
    cases b with
    | false =>
      have hbad := Lib.hid (decOut_none (s := s) (by
        rcases Hb.out with ⟨_, _, _, _, _, h⟩ | ⟨h, _⟩
        · cases h
        · rintro ⟨d, k, hf⟩
          apply h
          rw [Hz.out]
          exact ⟨d, k, form_extract.2 hf⟩))
      go_wp2_with fail
      go_ret2
      exact ⟨ret_fb hbad.out, Hw.out⟩
    | true =>
      have hf : Form s 1 (s.size - 1) d k := by
        rcases Hb.out with ⟨d', k', h, rfl, rfl, _⟩ | ⟨_, h⟩
        · rw [Hz.out] at h
          exact form_extract.1 h
        · cases h
      have hsm := form_small hf
      have hd := hsm.1
      have hk := hsm.2.1
      have Hf := Lib.hid hf
      clear hf hsm
      go_wp2_with fail
      go_loopw [9, 25] (fun pv iv wr => ∃ j P : Nat, j ≤ k ∧ Hid (P = A (10 ^ j) 149) ∧ pv = .float .f64 P ∧ iv = .int .i64 (j : Int) ∧ wr = w2) (fun _ iv _ => k - (intOf iv).toNat)
      case atStart => exact ⟨0, _, Nat.zero_le _, (show 4607182418800017408 = A (10 ^ 0) 149 from one_A.symm), rfl, rfl, rfl⟩
      case round =>
        obtain ⟨j, P, hj, hP, rfl, rfl, rfl⟩ := hrel
        by_cases hjk : j < k
        · have hjk' : (j : Int) < k := by omega
          obtain ⟨R, hR, hmul⟩ := mul_ten (k := j) (by omega) hP.out
          have HR := Lib.hid hR
          clear hR
          go_wp2_with fail
          go_roundw
          case rel => exact ⟨j + 1, R, hjk, HR.out, rfl, by go_num, trivial⟩
          case measure => simp [intOf]; omega
        · have hjk' : ¬ (j : Int) < k := by omega
          obtain rfl : j = k := by omega
          obtain ⟨Q, X, hX, hquo, hnar⟩ := quo_ten (d := d) hd hk hP.out
          have HX := Lib.hid hX
          clear hX
          go_wp2_with fail
          refine (Sgd.impl_any _ X _).mono ?_
          rintro e w3 ⟨rfl, hb3⟩
          have H3 := Lib.hid (Hw.out.trans (hb3.mono Hw.out.size))
          have Hr := Lib.hid (show decOut s = ((Sgd.out (s.extract 0 1) X).1, (Sgd.out (s.extract 0 1) X).2) by rw [decOut_of Hf.out, ← HX.out])
          clear hb3
          generalize (Sgd.out (s.extract 0 1) X).1 = r1 at *
          generalize (Sgd.out (s.extract 0 1) X).2 = r2 at *
          go_wp2_with fail
          go_ret2
          exact ⟨ret_fb Hr.out, H3.out⟩
end Go.Proofs.YtgfeahammmfdaaaDoor.Dec
