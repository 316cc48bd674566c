/- One divided by a zero. -/
import Derived.Test.YtjkjgichneoflaaFltD
import Derived.Test.YtjkjgichneoflaaMathZ
import Derived.Outline
namespace Go.Proofs.Ytjkjgichneoflaa.Mth
open Go.ChangeShapes Go.WideShapes Go.ChangeAt Go.RowKit Go.Proofs.Ytjkjgichneoflaa Go.Proofs.Ytjkjgichneoflaa.Flt
theorem quo_zero (s : Nat) (h : s = 0 ∨ s = 9223372036854775808) (w : World) : (binOp .quo 37 (.float .f64 4607182418800017408) (.float .f64 s)).run Try.prog w = .ok (.float .f64 (9218868437227405312 + s)) w := by
  rcases h with rfl | rfl
  · exact run_float_arith w .quo _ _ _ _ _ (by decide)
  · exact run_float_arith w .quo _ _ _ _ _ (by decide)
end Go.Proofs.Ytjkjgichneoflaa.Mth
