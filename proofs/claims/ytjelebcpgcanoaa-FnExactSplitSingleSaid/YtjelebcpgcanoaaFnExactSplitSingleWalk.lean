/- The walk of FnExactSplitSingle: it returns true. -/
import Derived.Test.YtjelebcpgcanoaaRows
import Derived.Test.YtjelebcpgcanoaaSplitI
namespace Go.Proofs.Ytjelebcpgcanoaa.fnExactSplitSingle
open Go.ChangeShapes Go.WideShapes Go.ChangeAt Go.RowKit Go.Proofs.Ytjelebcpgcanoaa Go.Proofs.Ytjelebcpgcanoaa.Flt Go.Proofs.Ytjelebcpgcanoaa.Mth
set_option linter.unusedVariables false
theorem walk (x : Nat) (w : World) (wx : (Lit.float .f32 x).wf = true) :
    Calls Try.prog 7 #[.float .f32 x] w fun e w' => e = .returned (.bool true) ∧ Below w.heap.size w w' := by
  obtain ⟨m, e, ok, hboth⟩ := Spl.both x (lt_single wx)
  have Hb := Lib.hid hboth
  clear hboth
  go_enter Try.func7, Try.ntmps7
  go_wp2_with fail
  refine (Hb.out _).1.mono ?_
  rintro y w1 ⟨rfl, hb1⟩
  have Hb1 := Lib.hid hb1
  clear hb1
  go_wp2_with fail
  refine (Hb.out _).2.mono ?_
  rintro y w2 ⟨rfl, hb2⟩
  have Hb2 := Lib.hid (Hb1.out.trans (hb2.mono Hb1.out.size))
  clear hb2
  go_wp2_with fail
  go_ret
  exact ⟨rfl, Hb2.out⟩
end Go.Proofs.Ytjelebcpgcanoaa.fnExactSplitSingle
