/- The walk of FnExactReadDecimal: it returns true. -/
import Derived.Test.YtgfeahammmfdaaaRows
import Derived.Test.YtgfeahammmfdaaaDecS
import Derived.Test.YtgfeahammmfdaaaOnly
namespace Go.Proofs.Ytgfeahammmfdaaa.fnExactReadDecimal
open Go.ChangeShapes Go.WideShapes Go.ChangeAt Go.RowKit Go.Proofs.Ytgfeahammmfdaaa Go.Proofs.Ytgfeahammmfdaaa.Flt Go.Proofs.Ytgfeahammmfdaaa.Mth Go.Proofs.Ytgfeahammmfdaaa.Dec
set_option linter.unusedVariables false
theorem decOut_lt (s : ByteArray) : (Lit.float .f32 (decOut s).1).wf = true := by
  by_cases h : ∃ d k, Dec.Form s 1 (s.size - 1) d k
  · obtain ⟨d, k, h⟩ := h
    have hs := form_small h
    obtain ⟨h1, h2, h3⟩ := ten_lt hs.2.1
    rw [decOut_of h]
    exact Sgd.out_lt _ _ (wf_single (by have := (dq_narrow (d := d) (p := 10 ^ k) (by omega) h1 h2).2; omega))
  · rw [decOut_none h]
    decide
set_option maxHeartbeats 800000 in
theorem walk (s : ByteArray) (w : World) (ws : s.size ≤ maxLen) :
    Calls Try.prog 5 #[.string s] w fun x w' => x = .returned (.bool true) ∧ Below w.heap.size w w' := by
  have us : (Try.prog.underlying 25).isSome = true := by rw [Try.underlying25]; rfl
  have Us := Lib.hid us
  clear us
  by_cases hl : s.size ≤ 1048576
  · have c1 := fun w => Dec.spec_any s hl w
    have c2 := fun w => Dec.impl_any s ws w
    have wy := decOut_lt s
    unfold Dec.Res at c1
    generalize (decOut s).1 = y at *
    generalize (decOut s).2 = yb at *
    go_enter Try.func5, Try.ntmps5
    go_wp2_with fail
    refine (c1 _).mono ?_
    rintro x w' ⟨rfl, hw'⟩
    subst w'
    go_wp2_with fail
    refine (c2 _).mono ?_
    rintro x w1 ⟨rfl, hb⟩
    have Hb := Lib.hid hb
    clear hb
    obtain ⟨r, n, hr, kr⟩ := run_widen_any (P := Try.prog) 25 29 y Us.out Try.underlying29 w1
    obtain ⟨q, k, hq, kq⟩ := run_widen_any (P := Try.prog) 25 29 y Us.out Try.underlying29 (w1.drewN n)
    have hsame : sameW Ieee.double r q = true := by rw [sameW_wid wy wy hr hq, sameW_refl]
    have hr1 := hr.1
    have hq1 := hq.1
    clear hr hq
    go_wp2_with fail
    refine (sameFloat_any _ _ _ hr1 hq1).mono ?_
    rintro x w' ⟨rfl, rfl⟩
    go_wp2_with fail
    go_ret
    exact ⟨rfl, below_drewN' Hb.out _⟩
  · go_enter Try.func5, Try.ntmps5
    go_wp2_with fail
    go_ret
    exact ⟨rfl, Below.refl _ _⟩
end Go.Proofs.Ytgfeahammmfdaaa.fnExactReadDecimal
