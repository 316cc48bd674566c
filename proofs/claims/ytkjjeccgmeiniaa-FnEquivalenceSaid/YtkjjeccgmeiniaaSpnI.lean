/- Spans in the program: intervalOf, inside, outside, SpanOk, NegSpan, finite, WidthOf, Holds. -/
import Derived.Test.YtkjjeccgmeiniaaSplArg
import Derived.Test.YtkjjeccgmeiniaaSpnQ
import Derived.Test.YtkjjeccgmeiniaaFltG
import Derived.Test.YtkjjeccgmeiniaaMathC
import Derived.Handy
import Derived.KernelRfl
namespace Go.Proofs.Ytkjjeccgmeiniaa.Flt
end Go.Proofs.Ytkjjeccgmeiniaa.Flt
namespace Go.Proofs.Ytkjjeccgmeiniaa.Mth
end Go.Proofs.Ytkjjeccgmeiniaa.Mth
namespace Go.Proofs.Ytkjjeccgmeiniaa.Spn
open Go.ChangeShapes Go.WideShapes Go.ChangeAt Go.RowKit Go.Deep Go.Proofs.Ytkjjeccgmeiniaa Go.Proofs.Ytkjjeccgmeiniaa.Flt Go.Proofs.Ytkjjeccgmeiniaa.Mth
open Ieee (single double)
set_option linter.unusedVariables false
set_option linter.unusedSimpArgs false
set_option maxRecDepth 20000
/-- an interval as a value -/
def ivv (x y : Nat) (b : Bool) : Value := .agg #[.float .f32 x, .float .f32 y, .bool b]
end Go.Proofs.Ytkjjeccgmeiniaa.Spn
