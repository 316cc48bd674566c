/- The walk of FnExactMakeSingle: it returns true. -/
import Derived.Test.YtjelebcpgcanoaaRows
import Derived.Test.YtjelebcpgcanoaaScaler
namespace Go.Proofs.Ytjelebcpgcanoaa.fnExactMakeSingle
open Go.ChangeShapes Go.WideShapes Go.ChangeAt Go.RowKit Go.Proofs.Ytjelebcpgcanoaa Go.Proofs.Ytjelebcpgcanoaa.Flt Go.Proofs.Ytjelebcpgcanoaa.Mth
set_option linter.unusedVariables false
theorem walk (s : ByteArray) (m e : Int) (w : World) (ws : s.size ≤ maxLen) (wm : (Lit.int .i64 m).wf = true) (we : (Lit.int .i64 e).wf = true) :
    Calls Try.prog 8 #[.string s, .int .i64 m, .int .i64 e] w fun x w' => x = .returned (.bool true) ∧ Below w.heap.size w w' := by
  have us : (Try.prog.underlying 24).isSome = true := by rw [Try.underlying24]; rfl
  have Us := Lib.hid us
  clear us wm we
  by_cases hl : (1048576 : Int) < (s.size : Int)
  · go_enter Try.func8, Try.ntmps8
    go_wp2_with fail
    go_ret
    exact ⟨rfl, Below.refl _ _⟩
  · go_enter Try.func8, Try.ntmps8
    go_wp2_with fail
    refine (Mks.spec_any s m e _).mono ?_
    rintro x w' ⟨rfl, n0, rfl⟩
    go_wp2_with fail
    refine (Mks.impl_any s m e _).mono ?_
    rintro x w1 ⟨rfl, hb⟩
    have wy := Mks.out_lt s m e
    generalize Mks.out s m e = y at *
    obtain ⟨y, yb⟩ := y
    have hb' := (below_drewN (Below.refl w.heap.size w) n0).trans hb
    have Hb := Lib.hid hb'
    clear hb hb'
    obtain ⟨r, n, hr, kr⟩ := run_widen_any (P := Try.prog) 24 34 y Us.out Try.underlying34 w1
    obtain ⟨q, k, hq, kq⟩ := run_widen_any (P := Try.prog) 24 34 y Us.out Try.underlying34 (w1.drewN n)
    have hsame : sameW Ieee.double r q = true := by rw [sameW_wid wy wy hr hq, sameW_refl]
    have hr1 := hr.1
    have hq1 := hq.1
    clear hr hq
    go_wp2_with fail
    refine (sameFloat_any _ _ _ hr1 hq1).mono ?_
    rintro x w' ⟨rfl, rfl⟩
    go_wp2_with fail
    go_ret
    exact ⟨rfl, below_drewN Hb.out _⟩
end Go.Proofs.Ytjelebcpgcanoaa.fnExactMakeSingle
