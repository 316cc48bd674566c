/- The walk of FnExactComposeTurns: it returns true. -/
import Derived.Test.YtegcgbddoeoipaaComWalk4
import Derived.Test.YtegcgbddoeoipaaComWalk5
import Derived.Test.YtegcgbddoeoipaaComWalk7
namespace Go.Proofs.Ytegcgbddoeoipaa.fnExactComposeTurns
open Go.ChangeShapes Go.WideShapes Go.ChangeAt Go.RowKit Go.Proofs.Ytegcgbddoeoipaa Go.Proofs.Ytegcgbddoeoipaa.Trn
set_option linter.unusedVariables false
theorem walk (q p r s : Int) (w : World) (wq : (Lit.int .i64 q).wf = true) (wp : (Lit.int .i64 p).wf = true) (wr : (Lit.int .i64 r).wf = true) (ws : (Lit.int .i64 s).wf = true) :
    Calls Try.prog 10 #[.agg #[.int .i64 q, .int .i64 p], .agg #[.int .i64 r, .int .i64 s]] w fun x w' => x = .returned (.bool true) ∧ Below w.heap.size w w' := by
  cases h1 : okT q p
  · exact walk4 q p r s w h1
  · cases h2 : okT r s
    · exact walk5 q p r s w h1 h2
    · exact walk7 q p r s w h1 h2
end Go.Proofs.Ytegcgbddoeoipaa.fnExactComposeTurns
