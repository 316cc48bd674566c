/- The laws' same, of a complex number and itself. -/
import Derived.Test.YtjkjgichneoflaaSame64
namespace Go.Proofs.Ytjkjgichneoflaa.Mth
open Go.ChangeShapes Go.WideShapes Go.ChangeAt Go.RowKit Go.Proofs.Ytjkjgichneoflaa Go.Proofs.Ytjkjgichneoflaa.Flt Go.Proofs.Ytjkjgichneoflaa.Mth
set_option linter.unusedVariables false
theorem same_self (a b : Nat) (w : World) (ha : a < 18446744073709551616) (hb : b < 18446744073709551616) :
    Calls Try.prog 11 #[.complex .f64 a b, .complex .f64 a b] w fun e w' => e = .returned (.bool true) ∧ w' = w := by
  have ca := fun W => same64_any a a W ha ha
  have cb := fun W => same64_any b b W hb hb
  rw [sameW_refl] at ca
  rw [sameW_refl] at cb
  clear ha hb
  go_enter Try.func11, Try.ntmps11
  go_wp2_with fail
  refine (ca _).mono ?_
  rintro e w' ⟨rfl, rfl⟩
  go_wp2_with fail
  refine (cb _).mono ?_
  rintro e w' ⟨rfl, rfl⟩
  go_wp2_with fail
  go_ret
  exact ⟨rfl, rfl⟩
end Go.Proofs.Ytjkjgichneoflaa.Mth
