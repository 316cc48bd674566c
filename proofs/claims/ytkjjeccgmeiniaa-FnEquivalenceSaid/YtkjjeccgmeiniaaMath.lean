/- Contracts of package math's small functions: IsNaN, Float64bits. -/
import Derived.Test.YtkjjeccgmeiniaaChecked
import Derived.Test.YtkjjeccgmeiniaaMathZ
import Derived.KernelRfl
import Derived.Lib.Hide
import Derived.Outline
import Derived.ProofKit
namespace Go.Proofs.Ytkjjeccgmeiniaa.Flt
end Go.Proofs.Ytkjjeccgmeiniaa.Flt
namespace Go.Proofs.Ytkjjeccgmeiniaa.Mth
open Go.ChangeShapes Go.WideShapes Go.ChangeAt Go.RowKit Go.Proofs.Ytkjjeccgmeiniaa Go.Proofs.Ytkjjeccgmeiniaa.Flt
theorem isNaN_any (a : Nat) (w : World) :
    Calls Try.prog 49 #[.float .f64 a] w fun e w' => e = .returned (.bool (isNaN Ieee.double a)) ∧ w' = w := by
  have h : (FloatKind.f64.format.order a a != some .eq) = isNaN Ieee.double a := by
    show (Ieee.double.order a a != some .eq) = _
    rw [order_self Ieee.double hd]; cases isNaN Ieee.double a <;> rfl
  go_enter Try.func49, Try.ntmps49
  go_wp2
  go_ret
  exact ⟨rfl, rfl⟩
theorem run_float64bits (a : Nat) (w : World) : (callFunc 58 #[.float .f64 a]).run Try.prog w = .ok (.value (.int .u64 (a : Int))) w := by
  rw [run_callFunc_extern (e := Extern.MathFloatBits.float64bits) Try.func58 (by kernel_rfl) (by kernel_rfl) (by kernel_rfl) (by kernel_rfl)]
  rfl
end Go.Proofs.Ytkjjeccgmeiniaa.Mth
