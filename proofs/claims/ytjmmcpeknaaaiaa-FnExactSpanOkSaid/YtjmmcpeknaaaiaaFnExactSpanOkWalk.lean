/- The walk of FnExactSpanOk: it returns true. -/
import Derived.Test.YtjmmcpeknaaaiaaRows
import Derived.Test.YtjmmcpeknaaaiaaSpnI
import Derived.Test.YtjmmcpeknaaaiaaSpnS
namespace Go.Proofs.Ytjmmcpeknaaaiaa.fnExactSpanOk
open Go.ChangeShapes Go.WideShapes Go.ChangeAt Go.RowKit Go.Proofs.Ytjmmcpeknaaaiaa Go.Proofs.Ytjmmcpeknaaaiaa.Spn
set_option linter.unusedVariables false
set_option maxRecDepth 20000
theorem walk (x y : Nat) (w : World) (wx : (Lit.float .f32 x).wf = true) (wy : (Lit.float .f32 y).wf = true) :
    Calls Try.prog 7 #[.agg #[.float .f32 x, .float .f32 y]] w fun e w' => e = .returned (.bool true) ∧ Below w.heap.size w w' := by
  have hs := fun w => spec_ok x y w
  have hi := fun w => impl_ok x y w
  have ht := fun w => toSpan_ex x y w
  obtain ⟨b, hb⟩ : ∃ b, leB x y = b := ⟨_, rfl⟩
  rw [hb] at hs hi
  clear hb
  unfold pv at hs hi
  go_enter Try.func7, Try.ntmps7
  go_wp2_with fail
  refine (ht _).mono ?_
  rintro e w' ⟨rfl, rfl⟩
  go_wp2_with fail
  refine (hs _).mono ?_
  rintro e w' ⟨rfl, rfl⟩
  go_wp2_with fail
  refine (ht _).mono ?_
  rintro e w' ⟨rfl, rfl⟩
  go_wp2_with fail
  refine (hi _).mono ?_
  rintro e w' ⟨rfl, rfl⟩
  go_wp2_with fail
  go_ret
  exact ⟨rfl, by go_grown⟩
end Go.Proofs.Ytjmmcpeknaaaiaa.fnExactSpanOk
