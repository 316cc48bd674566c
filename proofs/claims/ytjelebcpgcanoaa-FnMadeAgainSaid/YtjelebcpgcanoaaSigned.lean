/- Contracts of Signed, in the program and in the model. -/
import Derived.Test.YtjelebcpgcanoaaChecked
import Derived.Test.YtjelebcpgcanoaaSame
import Derived.Handy
namespace Go.Proofs.Ytjelebcpgcanoaa.Sgd
open Go.ChangeShapes Go.WideShapes Go.ChangeAt Go.RowKit Go.Proofs.Ytjelebcpgcanoaa Go.Proofs.Ytjelebcpgcanoaa.Flt Go.Proofs.Ytjelebcpgcanoaa.Mth
set_option linter.unusedVariables false
theorem spec_plus (s : ByteArray) (x : Nat) (w : World) (h1 : (s.toList == [43]) = true) :
    Calls Try.prog 17 #[.string s, .float .f32 x] w fun e w' => e = .returned (.tuple #[.float .f32 x, .bool true]) ∧ w' = w := by
  go_enter Try.func17, Try.ntmps17
  go_wp2
  go_ret2
  exact ⟨rfl, rfl⟩
theorem spec_minus (s : ByteArray) (x : Nat) (w : World) (h1 : (s.toList == [43]) = false) (h2 : (s.toList == [45]) = true) :
    Calls Try.prog 17 #[.string s, .float .f32 x] w fun e w' => e = .returned (.tuple #[.float .f32 (Op.negFloat .f32 x), .bool true]) ∧ w' = w := by
  go_enter Try.func17, Try.ntmps17
  go_wp2
  go_ret2
  exact ⟨rfl, rfl⟩
theorem spec_other (s : ByteArray) (x : Nat) (w : World) (h1 : (s.toList == [43]) = false) (h2 : (s.toList == [45]) = false) :
    Calls Try.prog 17 #[.string s, .float .f32 x] w fun e w' => e = .returned (.tuple #[.float .f32 0, .bool false]) ∧ w' = w := by
  go_enter Try.func17, Try.ntmps17
  go_wp2
  go_ret2
  exact ⟨rfl, rfl⟩
theorem table_any (x : Nat) (w : World) :
    Calls Try.prog 26 #[.float .f32 x] w fun e w' => e = .returned (.agg #[.string ⟨#[43]⟩, .float .f32 x, .string ⟨#[45]⟩, .float .f32 (Op.negFloat .f32 x)]) ∧
      w' = w.alloc (.cells #[.string ⟨#[43]⟩, .float .f32 x, .string ⟨#[45]⟩, .float .f32 (Op.negFloat .f32 x)] 45) := by
  go_enter Try.func26, Try.ntmps26
  go_wp2
  exact bodyPost_ret (v := .agg #[.string ⟨#[43]⟩, .float .f32 x, .string ⟨#[45]⟩, .float .f32 (Op.negFloat .f32 x)]) (by simp [results, Try.results26, go_sem]) rfl ⟨rfl, rfl⟩
theorem index0 (a b c d : Value) (w : World) : (Instr.index 45 (.agg #[a, b, c, d]) (.int .i64 0)).run Try.prog w = .ok (.agg #[a, b]) w := by kernel_rfl
theorem index1 (a b c d : Value) (w : World) : (Instr.index 45 (.agg #[a, b, c, d]) (.int .i64 1)).run Try.prog w = .ok (.agg #[c, d]) w := by kernel_rfl
theorem impl_plus (s : ByteArray) (x : Nat) (w : World) (h1 : (s.toList == [43]) = true) :
    Calls Try.prog 12 #[.string s, .float .f32 x] w fun e w' => e = .returned (.tuple #[.float .f32 x, .bool true]) ∧ Below w.heap.size w w' := by
  have i0 := index0
  have i1 := index1
  have h1' : ([43] == s.toList) = true := by rw [Bool.beq_comm]; exact h1
  go_enter Try.func12, Try.ntmps12
  go_wp2_with (go_at_call 26; refine (table_any x _).mono ?_; rintro e w' ⟨rfl, rfl⟩)
  go_rounds 1
  go_ret2
  exact ⟨rfl, by go_grown⟩
theorem impl_minus (s : ByteArray) (x : Nat) (w : World) (h1 : (s.toList == [43]) = false) (h2 : (s.toList == [45]) = true) :
    Calls Try.prog 12 #[.string s, .float .f32 x] w fun e w' => e = .returned (.tuple #[.float .f32 (Op.negFloat .f32 x), .bool true]) ∧ Below w.heap.size w w' := by
  have i0 := index0
  have i1 := index1
  have h1' : ([43] == s.toList) = false := by rw [Bool.beq_comm]; exact h1
  have h2' : ([45] == s.toList) = true := by rw [Bool.beq_comm]; exact h2
  go_enter Try.func12, Try.ntmps12
  go_wp2_with (go_at_call 26; refine (table_any x _).mono ?_; rintro e w' ⟨rfl, rfl⟩)
  go_rounds 2
  go_ret2
  exact ⟨rfl, by go_grown⟩
theorem impl_other (s : ByteArray) (x : Nat) (w : World) (h1 : (s.toList == [43]) = false) (h2 : (s.toList == [45]) = false) :
    Calls Try.prog 12 #[.string s, .float .f32 x] w fun e w' => e = .returned (.tuple #[.float .f32 0, .bool false]) ∧ Below w.heap.size w w' := by
  have i0 := index0
  have i1 := index1
  have h1' : ([43] == s.toList) = false := by rw [Bool.beq_comm]; exact h1
  have h2' : ([45] == s.toList) = false := by rw [Bool.beq_comm]; exact h2
  go_enter Try.func12, Try.ntmps12
  go_wp2_with (go_at_call 26; refine (table_any x _).mono ?_; rintro e w' ⟨rfl, rfl⟩)
  go_rounds 3
  go_ret2
  exact ⟨rfl, by go_grown⟩
/-- what Signed gives -/
def out (s : ByteArray) (x : Nat) : Nat × Bool := if s.toList == [43] then (x, true) else if s.toList == [45] then (Op.negFloat .f32 x, true) else (0, false)
theorem out_lt (s : ByteArray) (x : Nat) (wx : (Lit.float .f32 x).wf = true) : (Lit.float .f32 (out s x).1).wf = true := by
  unfold out
  split
  · exact wx
  · split
    · have := neg_lt .f32 (w := x) (lt_single' wx)
      exact wf_single (by rw [← width_single]; exact this)
    · decide
theorem ret_sg {a c : Nat} {b d : Bool} (h : (a, b) = (c, d)) : Ending.returned (.tuple #[.float .f32 a, .bool b]) = .returned (.tuple #[.float .f32 c, .bool d]) := by cases h; rfl
theorem spec_any (s : ByteArray) (x : Nat) (w : World) :
    Calls Try.prog 17 #[.string s, .float .f32 x] w fun e w' => e = .returned (.tuple #[.float .f32 (out s x).1, .bool (out s x).2]) ∧ w' = w := by
  cases h1 : (s.toList == [43])
  · cases h2 : (s.toList == [45])
    · exact (spec_other s x w h1 h2).mono fun e w' ⟨he, hw⟩ => ⟨by rw [he]; unfold out; rw [h1, h2]; rfl, hw⟩
    · exact (spec_minus s x w h1 h2).mono fun e w' ⟨he, hw⟩ => ⟨by rw [he]; unfold out; rw [h1, h2]; rfl, hw⟩
  · exact (spec_plus s x w h1).mono fun e w' ⟨he, hw⟩ => ⟨by rw [he]; unfold out; rw [h1]; rfl, hw⟩
theorem impl_any (s : ByteArray) (x : Nat) (w : World) :
    Calls Try.prog 12 #[.string s, .float .f32 x] w fun e w' => e = .returned (.tuple #[.float .f32 (out s x).1, .bool (out s x).2]) ∧ Below w.heap.size w w' := by
  cases h1 : (s.toList == [43])
  · cases h2 : (s.toList == [45])
    · exact (impl_other s x w h1 h2).mono fun e w' ⟨he, hw⟩ => ⟨by rw [he]; unfold out; rw [h1, h2]; rfl, hw⟩
    · exact (impl_minus s x w h1 h2).mono fun e w' ⟨he, hw⟩ => ⟨by rw [he]; unfold out; rw [h1, h2]; rfl, hw⟩
  · exact (impl_plus s x w h1).mono fun e w' ⟨he, hw⟩ => ⟨by rw [he]; unfold out; rw [h1]; rfl, hw⟩
end Go.Proofs.Ytjelebcpgcanoaa.Sgd
