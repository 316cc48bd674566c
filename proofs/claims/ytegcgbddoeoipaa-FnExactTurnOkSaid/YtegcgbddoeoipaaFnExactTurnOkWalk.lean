/- The walk of FnExactTurnOk: it returns true. -/
import Derived.Test.YtegcgbddoeoipaaRows
import Derived.Test.YtegcgbddoeoipaaTrn
namespace Go.Proofs.Ytegcgbddoeoipaa.fnExactTurnOk
open Go.ChangeShapes Go.WideShapes Go.ChangeAt Go.RowKit Go.Proofs.Ytegcgbddoeoipaa Go.Proofs.Ytegcgbddoeoipaa.Trn
set_option linter.unusedVariables false
theorem walk (q p : Int) (w : World) (wq : (Lit.int .i64 q).wf = true) (wp : (Lit.int .i64 p).wf = true) :
    Calls Try.prog 9 #[.agg #[.int .i64 q, .int .i64 p]] w fun x w' => x = .returned (.bool true) ∧ Below w.heap.size w w' := by
  go_enter Try.func9, Try.ntmps9
  go_wp2_with (first
    | (go_at_call 32; refine (toTurn_any _ _ _).mono ?_; rintro e w' ⟨rfl, rfl⟩)
    | (go_at_call 31; refine (specOk _ _ _).mono ?_; rintro e w' ⟨rfl, rfl⟩)
    | (go_at_call 33; refine (implOk _ _ _).mono ?_; rintro e w' ⟨rfl, rfl⟩))
  go_ret
  exact ⟨rfl, by go_grown⟩
end Go.Proofs.Ytegcgbddoeoipaa.fnExactTurnOk
