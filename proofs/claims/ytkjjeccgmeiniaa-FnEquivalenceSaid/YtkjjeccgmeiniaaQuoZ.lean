/- One divided by a zero. -/
import Derived.Test.YtkjjeccgmeiniaaFltD
import Derived.Test.YtkjjeccgmeiniaaMathZ
import Derived.Outline
namespace Go.Proofs.Ytkjjeccgmeiniaa.Flt
end Go.Proofs.Ytkjjeccgmeiniaa.Flt
namespace Go.Proofs.Ytkjjeccgmeiniaa.Mth
open Go.ChangeShapes Go.WideShapes Go.ChangeAt Go.RowKit Go.Proofs.Ytkjjeccgmeiniaa Go.Proofs.Ytkjjeccgmeiniaa.Flt
theorem quo_zero (s : Nat) (h : s = 0 ∨ s = 9223372036854775808) (w : World) : (binOp .quo 44 (.float .f64 4607182418800017408) (.float .f64 s)).run Try.prog w = .ok (.float .f64 (9218868437227405312 + s)) w := by
  rcases h with rfl | rfl
  · exact run_float_arith w .quo _ _ _ _ _ (by decide)
  · exact run_float_arith w .quo _ _ _ _ _ (by decide)
end Go.Proofs.Ytkjjeccgmeiniaa.Mth
