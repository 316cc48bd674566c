/- The contract of math.Signbit. -/
import Derived.Test.YtjkjgichneoflaaMath
namespace Go.Proofs.Ytjkjgichneoflaa.Mth
open Go.ChangeShapes Go.WideShapes Go.ChangeAt Go.RowKit Go.Proofs.Ytjkjgichneoflaa Go.Proofs.Ytjkjgichneoflaa.Flt
theorem signbit_any (a : Nat) (w : World) (ha : a < 18446744073709551616) :
    Calls Try.prog 78 #[.float .f64 a] w fun e w' => e = .returned (.bool (sgn Ieee.double a)) ∧ w' = w := by
  have hb := fun w => run_float64bits a w
  have hw : decide (wrap64 (a : Int) < 0) = sgn Ieee.double a := by
    rw [sgn_iff a ha]; unfold wrap64
    by_cases h : 9223372036854775808 ≤ a
    · rw [decide_eq_true h]; exact decide_eq_true (by omega)
    · rw [decide_eq_false h]; exact decide_eq_false (by omega)
  have HW := Lib.hid hw
  clear hw
  go_enter Try.func78, Try.ntmps78
  go_wp2
  go_ret
  exact ⟨ret_bool HW.out, rfl⟩
end Go.Proofs.Ytjkjgichneoflaa.Mth
