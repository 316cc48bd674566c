/- Contracts of package math's small functions: IsNaN, Signbit. -/
import Derived.Test.YtmnpmbliikalhaaChecked
import Derived.Test.YtmnpmbliikalhaaMathZ
import Derived.KernelRfl
import Derived.Lib.Hide
import Derived.Outline
import Derived.ProofKit
namespace Go.Proofs.Ytmnpmbliikalhaa.Mth
open Go.ChangeShapes Go.WideShapes Go.ChangeAt Go.RowKit Go.Proofs.Ytmnpmbliikalhaa Go.Proofs.Ytmnpmbliikalhaa.Flt
theorem isNaN_any (a : Nat) (w : World) :
    Calls Try.prog 72 #[.float .f64 a] w fun e w' => e = .returned (.bool (isNaN Ieee.double a)) ∧ w' = w := by
  have h : (FloatKind.f64.format.order a a != some .eq) = isNaN Ieee.double a := by
    show (Ieee.double.order a a != some .eq) = _
    rw [order_self Ieee.double hd]; cases isNaN Ieee.double a <;> rfl
  go_enter Try.func72, Try.ntmps72
  go_wp2
  go_ret
  exact ⟨rfl, rfl⟩
theorem run_float64bits (a : Nat) (w : World) : (callFunc 74 #[.float .f64 a]).run Try.prog w = .ok (.value (.int .u64 (a : Int))) w := by
  rw [run_callFunc_extern (e := Extern.MathFloatBits.float64bits) Try.func74 (by kernel_rfl) (by kernel_rfl) (by kernel_rfl) (by kernel_rfl)]
  rfl
theorem signbit_any (a : Nat) (w : World) (ha : a < 18446744073709551616) :
    Calls Try.prog 70 #[.float .f64 a] w fun e w' => e = .returned (.bool (sgn Ieee.double a)) ∧ w' = w := by
  have hb := fun w => run_float64bits a w
  have hw : decide (wrap64 (a : Int) < 0) = sgn Ieee.double a := by
    rw [sgn_iff a ha]; unfold wrap64
    by_cases h : 9223372036854775808 ≤ a
    · rw [decide_eq_true h]; exact decide_eq_true (by omega)
    · rw [decide_eq_false h]; exact decide_eq_false (by omega)
  have HW := Lib.hid hw
  clear hw
  go_enter Try.func70, Try.ntmps70
  go_wp2
  go_ret
  exact ⟨ret_bool HW.out, rfl⟩
end Go.Proofs.Ytmnpmbliikalhaa.Mth
