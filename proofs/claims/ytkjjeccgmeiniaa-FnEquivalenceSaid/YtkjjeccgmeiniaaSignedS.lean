/- Contracts of Signed, in the model. -/
import Derived.Test.YtkjjeccgmeiniaaChecked
import Derived.Test.YtkjjeccgmeiniaaFltD
import Derived.Test.YtkjjeccgmeiniaaMathZ
import Derived.Handy
namespace Go.Proofs.Ytkjjeccgmeiniaa.Flt
end Go.Proofs.Ytkjjeccgmeiniaa.Flt
namespace Go.Proofs.Ytkjjeccgmeiniaa.Mth
end Go.Proofs.Ytkjjeccgmeiniaa.Mth
namespace Go.Proofs.Ytkjjeccgmeiniaa.Sgd
open Go.ChangeShapes Go.WideShapes Go.ChangeAt Go.RowKit Go.Proofs.Ytkjjeccgmeiniaa Go.Proofs.Ytkjjeccgmeiniaa.Flt Go.Proofs.Ytkjjeccgmeiniaa.Mth
set_option linter.unusedVariables false
theorem spec_plus (s : ByteArray) (x : Nat) (w : World) (h1 : (s.toList == [43]) = true) :
    Calls Try.prog 51 #[.string s, .float .f32 x] w fun e w' => e = .returned (.tuple #[.float .f32 x, .bool true]) ∧ w' = w := by
  go_enter Try.func51, Try.ntmps51
  go_wp2
  go_ret2
  exact ⟨rfl, rfl⟩
theorem spec_minus (s : ByteArray) (x : Nat) (w : World) (h1 : (s.toList == [43]) = false) (h2 : (s.toList == [45]) = true) :
    Calls Try.prog 51 #[.string s, .float .f32 x] w fun e w' => e = .returned (.tuple #[.float .f32 (Op.negFloat .f32 x), .bool true]) ∧ w' = w := by
  go_enter Try.func51, Try.ntmps51
  go_wp2
  go_ret2
  exact ⟨rfl, rfl⟩
theorem spec_other (s : ByteArray) (x : Nat) (w : World) (h1 : (s.toList == [43]) = false) (h2 : (s.toList == [45]) = false) :
    Calls Try.prog 51 #[.string s, .float .f32 x] w fun e w' => e = .returned (.tuple #[.float .f32 0, .bool false]) ∧ w' = w := by
  go_enter Try.func51, Try.ntmps51
  go_wp2
  go_ret2
  exact ⟨rfl, rfl⟩
/-- what Signed gives -/
def out (s : ByteArray) (x : Nat) : Nat × Bool := if s.toList == [43] then (x, true) else if s.toList == [45] then (Op.negFloat .f32 x, true) else (0, false)
theorem out_lt (s : ByteArray) (x : Nat) (wx : (Lit.float .f32 x).wf = true) : (Lit.float .f32 (out s x).1).wf = true := by
  unfold out
  split
  · exact wx
  · split
    · have := neg_lt .f32 (w := x) (lt_single' wx)
      exact wf_single (by rw [← width_single]; exact this)
    · decide
theorem ret_sg {a c : Nat} {b d : Bool} (h : (a, b) = (c, d)) : Ending.returned (.tuple #[.float .f32 a, .bool b]) = .returned (.tuple #[.float .f32 c, .bool d]) := by cases h; rfl
theorem spec_any (s : ByteArray) (x : Nat) (w : World) :
    Calls Try.prog 51 #[.string s, .float .f32 x] w fun e w' => e = .returned (.tuple #[.float .f32 (out s x).1, .bool (out s x).2]) ∧ w' = w := by
  cases h1 : (s.toList == [43])
  · cases h2 : (s.toList == [45])
    · exact (spec_other s x w h1 h2).mono fun e w' ⟨he, hw⟩ => ⟨by rw [he]; unfold out; rw [h1, h2]; rfl, hw⟩
    · exact (spec_minus s x w h1 h2).mono fun e w' ⟨he, hw⟩ => ⟨by rw [he]; unfold out; rw [h1, h2]; rfl, hw⟩
  · exact (spec_plus s x w h1).mono fun e w' ⟨he, hw⟩ => ⟨by rw [he]; unfold out; rw [h1]; rfl, hw⟩
end Go.Proofs.Ytkjjeccgmeiniaa.Sgd
