/- The walk of FnExactClamp: it returns true. -/
import Derived.Test.YtjelebcpgcanoabRows
import Derived.WalkKit
import Derived.WalkLawsBesides
import Derived.ProofKit
import Derived.Below
namespace Go.Proofs.Ytjelebcpgcanoab.fnExactClamp
open Go.ChangeShapes Go.WideShapes Go.ChangeAt Go.RowKit
def clamped (n lo hi : Int) : Int := if hi < lo then lo else if n < lo then lo else if hi < n then hi else n
theorem spec_any (n lo hi : Int) (w : World) :
    Calls Try.prog 12 #[.int .i64 n, .int .i64 lo, .int .i64 hi] w fun e w' => e = .returned (.int .i64 (clamped n lo hi)) ∧ w' = w := by
  unfold clamped
  by_cases h1 : hi < lo
  · rw [if_pos h1]
    go_enter Try.func12, Try.ntmps12
    go_wp2
    go_ret
    exact ⟨rfl, rfl⟩
  · rw [if_neg h1]
    by_cases h2 : n < lo
    · rw [if_pos h2]
      go_enter Try.func12, Try.ntmps12
      go_wp2
      go_ret
      exact ⟨rfl, rfl⟩
    · rw [if_neg h2]
      go_enter Try.func12, Try.ntmps12
      go_wp2
      all_goals (go_ret; refine ⟨?_, rfl⟩; (repeat' split) <;> first | rfl | omega)
theorem impl_any (n lo hi : Int) (w : World) :
    Calls Try.prog 13 #[.int .i64 n, .int .i64 lo, .int .i64 hi] w fun e w' => e = .returned (.int .i64 (clamped n lo hi)) ∧ w' = w := by
  have key : ∀ x : Int, x = clamped n lo hi → Ending.returned (.int .i64 x) = .returned (.int .i64 (clamped n lo hi)) := fun x h => by rw [h]
  go_enter Try.func13, Try.ntmps13
  go_wp2
  all_goals (go_ret; refine ⟨key _ ?_, rfl⟩; unfold clamped)
  all_goals (by_cases a1 : hi < n <;> by_cases a2 : hi < lo <;> by_cases a3 : n < lo <;> simp_all <;> omega)
theorem walk (n lo hi : Int) (w : World) (_ : (Lit.int .i64 n).wf = true) (_ : (Lit.int .i64 lo).wf = true) (_ : (Lit.int .i64 hi).wf = true) :
    Calls Try.prog 5 #[.int .i64 n, .int .i64 lo, .int .i64 hi] w fun e w' => e = .returned (.bool true) ∧ Below w.heap.size w w' := by
  go_enter Try.func5, Try.ntmps5
  go_wp2_with fail
  refine (spec_any n lo hi _).mono ?_
  rintro e w' ⟨rfl, rfl⟩
  go_wp2_with fail
  refine (impl_any n lo hi _).mono ?_
  rintro e w' ⟨rfl, rfl⟩
  go_wp2_with fail
  go_ret
  exact ⟨rfl, Below.refl _ _⟩
end Go.Proofs.Ytjelebcpgcanoab.fnExactClamp
