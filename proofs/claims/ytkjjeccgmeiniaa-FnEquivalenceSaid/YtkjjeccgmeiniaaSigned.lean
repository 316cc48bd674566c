/- Contracts of Signed, in the program. -/
import Derived.Test.YtkjjeccgmeiniaaChecked
import Derived.Test.YtkjjeccgmeiniaaSame
import Derived.Test.YtkjjeccgmeiniaaSignedS
import Derived.Handy
namespace Go.Proofs.Ytkjjeccgmeiniaa.Flt
end Go.Proofs.Ytkjjeccgmeiniaa.Flt
namespace Go.Proofs.Ytkjjeccgmeiniaa.Mth
end Go.Proofs.Ytkjjeccgmeiniaa.Mth
namespace Go.Proofs.Ytkjjeccgmeiniaa.Sgd
open Go.ChangeShapes Go.WideShapes Go.ChangeAt Go.RowKit Go.Proofs.Ytkjjeccgmeiniaa Go.Proofs.Ytkjjeccgmeiniaa.Flt Go.Proofs.Ytkjjeccgmeiniaa.Mth
set_option linter.unusedVariables false
theorem table_any (x : Nat) (w : World) :
    Calls Try.prog 54 #[.float .f32 x] w fun e w' => e = .returned (.agg #[.string ⟨#[43]⟩, .float .f32 x, .string ⟨#[45]⟩, .float .f32 (Op.negFloat .f32 x)]) ∧
      w' = w.alloc (.cells #[.string ⟨#[43]⟩, .float .f32 x, .string ⟨#[45]⟩, .float .f32 (Op.negFloat .f32 x)] 84) := by
  go_enter Try.func54, Try.ntmps54
  go_wp2
  exact bodyPost_ret (v := .agg #[.string ⟨#[43]⟩, .float .f32 x, .string ⟨#[45]⟩, .float .f32 (Op.negFloat .f32 x)]) (by simp [results, Try.results54, go_sem]) rfl ⟨rfl, rfl⟩
theorem index0 (a b c d : Value) (w : World) : (Instr.index 84 (.agg #[a, b, c, d]) (.int .i64 0)).run Try.prog w = .ok (.agg #[a, b]) w := by kernel_rfl
theorem index1 (a b c d : Value) (w : World) : (Instr.index 84 (.agg #[a, b, c, d]) (.int .i64 1)).run Try.prog w = .ok (.agg #[c, d]) w := by kernel_rfl
theorem impl_plus (s : ByteArray) (x : Nat) (w : World) (h1 : (s.toList == [43]) = true) :
    Calls Try.prog 48 #[.string s, .float .f32 x] w fun e w' => e = .returned (.tuple #[.float .f32 x, .bool true]) ∧ Below w.heap.size w w' := by
  have i0 := index0
  have i1 := index1
  have h1' : ([43] == s.toList) = true := by rw [Bool.beq_comm]; exact h1
  go_enter Try.func48, Try.ntmps48
  go_wp2_with (go_at_call 54; refine (table_any x _).mono ?_; rintro e w' ⟨rfl, rfl⟩)
  go_rounds 1
  go_ret2
  exact ⟨rfl, by go_grown⟩
theorem impl_minus (s : ByteArray) (x : Nat) (w : World) (h1 : (s.toList == [43]) = false) (h2 : (s.toList == [45]) = true) :
    Calls Try.prog 48 #[.string s, .float .f32 x] w fun e w' => e = .returned (.tuple #[.float .f32 (Op.negFloat .f32 x), .bool true]) ∧ Below w.heap.size w w' := by
  have i0 := index0
  have i1 := index1
  have h1' : ([43] == s.toList) = false := by rw [Bool.beq_comm]; exact h1
  have h2' : ([45] == s.toList) = true := by rw [Bool.beq_comm]; exact h2
  go_enter Try.func48, Try.ntmps48
  go_wp2_with (go_at_call 54; refine (table_any x _).mono ?_; rintro e w' ⟨rfl, rfl⟩)
  go_rounds 2
  go_ret2
  exact ⟨rfl, by go_grown⟩
theorem impl_other (s : ByteArray) (x : Nat) (w : World) (h1 : (s.toList == [43]) = false) (h2 : (s.toList == [45]) = false) :
    Calls Try.prog 48 #[.string s, .float .f32 x] w fun e w' => e = .returned (.tuple #[.float .f32 0, .bool false]) ∧ Below w.heap.size w w' := by
  have i0 := index0
  have i1 := index1
  have h1' : ([43] == s.toList) = false := by rw [Bool.beq_comm]; exact h1
  have h2' : ([45] == s.toList) = false := by rw [Bool.beq_comm]; exact h2
  go_enter Try.func48, Try.ntmps48
  go_wp2_with (go_at_call 54; refine (table_any x _).mono ?_; rintro e w' ⟨rfl, rfl⟩)
  go_rounds 3
  go_ret2
  exact ⟨rfl, by go_grown⟩
theorem impl_any (s : ByteArray) (x : Nat) (w : World) :
    Calls Try.prog 48 #[.string s, .float .f32 x] w fun e w' => e = .returned (.tuple #[.float .f32 (out s x).1, .bool (out s x).2]) ∧ Below w.heap.size w w' := by
  cases h1 : (s.toList == [43])
  · cases h2 : (s.toList == [45])
    · exact (impl_other s x w h1 h2).mono fun e w' ⟨he, hw⟩ => ⟨by rw [he]; unfold out; rw [h1, h2]; rfl, hw⟩
    · exact (impl_minus s x w h1 h2).mono fun e w' ⟨he, hw⟩ => ⟨by rw [he]; unfold out; rw [h1, h2]; rfl, hw⟩
  · exact (impl_plus s x w h1).mono fun e w' ⟨he, hw⟩ => ⟨by rw [he]; unfold out; rw [h1]; rfl, hw⟩
end Go.Proofs.Ytkjjeccgmeiniaa.Sgd
