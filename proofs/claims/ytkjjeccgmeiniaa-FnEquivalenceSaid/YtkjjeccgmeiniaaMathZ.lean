/- What the contracts on floats import; and a word's sign. No function of package math is named here. -/
import Derived.Test.YtkjjeccgmeiniaaChecked
import Derived.Test.YtkjjeccgmeiniaaFltW
import Derived.Test.YtkjjeccgmeiniaaOnly
import Derived.KernelRfl
import Derived.Lib.Hide
import Derived.Outline
import Derived.ProofKit
namespace Go.Proofs.Ytkjjeccgmeiniaa.Flt
end Go.Proofs.Ytkjjeccgmeiniaa.Flt
namespace Go.Proofs.Ytkjjeccgmeiniaa.Mth
open Go.ChangeShapes Go.WideShapes Go.ChangeAt Go.RowKit Go.Proofs.Ytkjjeccgmeiniaa Go.Proofs.Ytkjjeccgmeiniaa.Flt
theorem sgn_iff (a : Nat) (ha : a < 18446744073709551616) : sgn Ieee.double a = decide (9223372036854775808 ≤ a) := by
  unfold sgn
  rw [sw_double]
  by_cases h : 9223372036854775808 ≤ a
  · have : a / 9223372036854775808 = 1 := by omega
    rw [this]; simp [h]
  · have : a / 9223372036854775808 = 0 := by omega
    rw [this]; simp [h]
end Go.Proofs.Ytkjjeccgmeiniaa.Mth
