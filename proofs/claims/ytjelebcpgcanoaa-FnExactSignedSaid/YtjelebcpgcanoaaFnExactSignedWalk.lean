/- The walk of FnExactSigned: it returns true. -/
import Derived.Test.YtjelebcpgcanoaaRows
import Derived.Test.YtjelebcpgcanoaaSigned
namespace Go.Proofs.Ytjelebcpgcanoaa.fnExactSigned
open Go.ChangeShapes Go.WideShapes Go.ChangeAt Go.RowKit Go.Proofs.Ytjelebcpgcanoaa.Flt Go.Proofs.Ytjelebcpgcanoaa.Mth
set_option linter.unusedVariables false
theorem walk (s : ByteArray) (x : Nat) (w : World) (ws : s.size ≤ maxLen) (wx : (Lit.float .f32 x).wf = true) :
    Calls Try.prog 5 #[.string s, .float .f32 x] w fun e w' => e = .returned (.bool true) ∧ Below w.heap.size w w' := by
  have us : (Try.prog.underlying 24).isSome = true := by rw [Try.underlying24]; rfl
  have Us := Lib.hid us
  clear us
  by_cases hl : (1048576 : Int) < (s.size : Int)
  · go_enter Try.func5, Try.ntmps5
    go_wp2_with fail
    go_ret
    exact ⟨rfl, Below.refl _ _⟩
  · go_enter Try.func5, Try.ntmps5
    go_wp2_with fail
    refine (Sgd.spec_any s x _).mono ?_
    rintro e w' ⟨rfl, rfl⟩
    go_wp2_with fail
    refine (Sgd.impl_any s x _).mono ?_
    rintro e w1 ⟨rfl, hb⟩
    have wy := Sgd.out_lt s x wx
    obtain ⟨r, n, hr, kr⟩ := run_widen_any (P := Try.prog) 24 34 (Sgd.out s x).1 Us.out Try.underlying34 w1
    obtain ⟨q, m, hq, kq⟩ := run_widen_any (P := Try.prog) 24 34 (Sgd.out s x).1 Us.out Try.underlying34 (w1.drewN n)
    have hsame : sameW Ieee.double r q = true := by rw [sameW_wid wy wy hr hq, sameW_refl]
    have hr1 := hr.1
    have hq1 := hq.1
    clear hr hq
    go_wp2_with fail
    refine (sameFloat_any _ _ _ hr1 hq1).mono ?_
    rintro e w' ⟨rfl, rfl⟩
    go_wp2_with fail
    go_ret
    exact ⟨rfl, below_drewN hb _⟩
end Go.Proofs.Ytjelebcpgcanoaa.fnExactSigned
