/- Contracts of the laws' same32. -/
import Derived.Test.YtjmmcpeknaaaiaaSame64
namespace Go.Proofs.Ytjmmcpeknaaaiaa.Mth
open Go.ChangeShapes Go.WideShapes Go.ChangeAt Go.RowKit Go.Proofs.Ytjmmcpeknaaaiaa Go.Proofs.Ytjmmcpeknaaaiaa.Flt Go.Proofs.Ytjmmcpeknaaaiaa.Mth
set_option linter.unusedVariables false
theorem same32_any (a b : Nat) (w : World) (wa : (Lit.float .f32 a).wf = true) (wb : (Lit.float .f32 b).wf = true) :
    Calls Try.prog 24 #[.float .f32 a, .float .f32 b] w fun e w' => e = .returned (.bool (sameW Ieee.single a b)) ∧ ∃ n, w' = w.drewN n := by
  have us : (Try.prog.underlying 24).isSome = true := by rw [Try.underlying24]; rfl
  obtain ⟨r, n, hr, kr⟩ := run_widen_any (P := Try.prog) 24 28 a us Try.underlying28 w
  obtain ⟨q, m, hq, kq⟩ := run_widen_any (P := Try.prog) 24 28 b us Try.underlying28 (w.drewN n)
  have Hs := Lib.hid (sameW_wid wa wb hr hq)
  have hr1 := hr.1
  have hq1 := hq.1
  clear hr hq us wa wb
  go_enter Try.func24, Try.ntmps24
  go_wp2_with fail
  refine (same64_any _ _ _ hr1 hq1).mono ?_
  rintro x w' ⟨rfl, rfl⟩
  go_wp2_with fail
  go_ret
  exact ⟨ret_bool Hs.out, n + m, rfl⟩
end Go.Proofs.Ytjmmcpeknaaaiaa.Mth
