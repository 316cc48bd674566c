/- The walk of FnExactInverseTurn: it returns true. -/
import Derived.Test.YtegcgbddoeoipaaRows
import Derived.Test.YtegcgbddoeoipaaTrn
namespace Go.Proofs.Ytegcgbddoeoipaa.fnExactInverseTurn
open Go.ChangeShapes Go.WideShapes Go.ChangeAt Go.RowKit Go.Proofs.Ytegcgbddoeoipaa Go.Proofs.Ytegcgbddoeoipaa.Trn
set_option linter.unusedVariables false
theorem walk (q p : Int) (w : World) (wq : (Lit.int .i64 q).wf = true) (wp : (Lit.int .i64 p).wf = true) :
    Calls Try.prog 11 #[.agg #[.int .i64 q, .int .i64 p]] w fun x w' => x = .returned (.bool true) ∧ Below w.heap.size w w' := by
  go_enter Try.func11, Try.ntmps11
  go_wp2_with (first
    | (go_at_call 32; refine (toTurn_any _ _ _).mono ?_; rintro e w' ⟨rfl, rfl⟩)
    | (go_at_call 36; refine (specInv _ _ _).mono ?_; unfold al; rintro e w1 ⟨rfl, rfl⟩)
    | (go_at_call 17; refine (implInv _ _ _).mono ?_; unfold al; rintro e w1 ⟨rfl, rfl⟩))
  refine (eqTurn_refl _ _ _).mono ?_
  rintro e w1 ⟨rfl, hb⟩
  have H := Lib.hid (below_on (B := w.heap.size) (w := w) hb (by go_grown) (by simp; omega))
  clear hb
  go_wp2_with fail
  go_ret
  exact ⟨rfl, H.out⟩
end Go.Proofs.Ytegcgbddoeoipaa.fnExactInverseTurn
