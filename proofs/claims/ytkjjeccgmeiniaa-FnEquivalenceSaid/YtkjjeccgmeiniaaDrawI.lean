/- Contracts of the model's draws of ints that fit an int, and of DrawFormatInt. -/
import Derived.Test.YtkjjeccgmeiniaaPickQ
namespace Go.Proofs.Ytkjjeccgmeiniaa.Drw
open Go.ChangeShapes Go.WideShapes Go.ChangeAt Go.RowKit Go.Proofs.Ytkjjeccgmeiniaa
set_option linter.unusedVariables false
/-- it fits an int -/
def I64 (r : Int) : Prop := -9223372036854775808 ≤ r ∧ r ≤ 9223372036854775807
theorem wrap_I64 (r : Int) : I64 (wrap64 r) := by unfold I64 wrap64; omega
theorem ten_q : ∀ i, i < 10 → ∃ v : Int, (#[Value.int .i64 (-1), .int .i64 0, .int .i64 127, .int .i64 128, .int .i64 16383, .int .i64 16384, .int .i64 1000000000, .int .i64 1000000001, .int .i64 9223372036854775807, .int .i64 (-9223372036854775808)])[i]? = some (.int .i64 v) ∧ I64 v := by
  intro i hi
  unfold I64
  obtain rfl | rfl | rfl | rfl | rfl | rfl | rfl | rfl | rfl | rfl : i = 0 ∨ i = 1 ∨ i = 2 ∨ i = 3 ∨ i = 4 ∨ i = 5 ∨ i = 6 ∨ i = 7 ∨ i = 8 ∨ i = 9 := by omega
  all_goals exact ⟨_, rfl, by omega, by omega⟩
/-- an int has been drawn out of the code -/
def IntDrawn (w : World) (e : Ending) (w' : World) : Prop := ∃ r : Int, I64 r ∧ e = .returned (.int .i64 r) ∧ Below w.heap.size w w'
end Go.Proofs.Ytkjjeccgmeiniaa.Drw
