/- Contracts of package math's small functions: IsNaN, Signbit. -/
import Derived.Test.YtgfeahammmfdaaaDoorChecked
import Derived.Test.YtgfeahammmfdaaaDoorMathZ
import Derived.KernelRfl
import Derived.Lib.Hide
import Derived.Outline
import Derived.ProofKit
namespace Go.Proofs.YtgfeahammmfdaaaDoor.Mth
open Go.ChangeShapes Go.WideShapes Go.ChangeAt Go.RowKit Go.Proofs.YtgfeahammmfdaaaDoor Go.Proofs.YtgfeahammmfdaaaDoor.Flt
theorem isNaN_any (a : Nat) (w : World) :
    Calls Tryd.prog 57 #[.float .f64 a] w fun e w' => e = .returned (.bool (isNaN Ieee.double a)) ∧ w' = w := by
  have h : (FloatKind.f64.format.order a a != some .eq) = isNaN Ieee.double a := by
    show (Ieee.double.order a a != some .eq) = _
    rw [order_self Ieee.double hd]; cases isNaN Ieee.double a <;> rfl
  go_enter Tryd.func57, Tryd.ntmps57
  go_wp2
  go_ret
  exact ⟨rfl, rfl⟩
theorem run_float64bits (a : Nat) (w : World) : (callFunc 87 #[.float .f64 a]).run Tryd.prog w = .ok (.value (.int .u64 (a : Int))) w := by
  rw [run_callFunc_extern (e := Extern.MathFloatBits.float64bits) Tryd.func87 (by kernel_rfl) (by kernel_rfl) (by kernel_rfl) (by kernel_rfl)]
  rfl
theorem signbit_any (a : Nat) (w : World) (ha : a < 18446744073709551616) :
    Calls Tryd.prog 65 #[.float .f64 a] w fun e w' => e = .returned (.bool (sgn Ieee.double a)) ∧ w' = w := by
  have hb := fun w => run_float64bits a w
  have hw : decide (wrap64 (a : Int) < 0) = sgn Ieee.double a := by
    rw [sgn_iff a ha]; unfold wrap64
    by_cases h : 9223372036854775808 ≤ a
    · rw [decide_eq_true h]; exact decide_eq_true (by omega)
    · rw [decide_eq_false h]; exact decide_eq_false (by omega)
  have HW := Lib.hid hw
  clear hw
  go_enter Tryd.func65, Tryd.ntmps65
  go_wp2
  go_ret
  exact ⟨ret_bool HW.out, rfl⟩
end Go.Proofs.YtgfeahammmfdaaaDoor.Mth
