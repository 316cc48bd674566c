/- Spans in the program: intervalOf, inside, outside, SpanOk, NegSpan, finite, WidthOf, Holds. -/
import Derived.Test.YtjmmcpeknaaaiaaSplArg
import Derived.Test.YtjmmcpeknaaaiaaSpnQ
import Derived.Test.YtjmmcpeknaaaiaaFltG
import Derived.Test.YtjmmcpeknaaaiaaMathC
import Derived.Handy
import Derived.KernelRfl
namespace Go.Proofs.Ytjmmcpeknaaaiaa.Spn
open Go.ChangeShapes Go.WideShapes Go.ChangeAt Go.RowKit Go.Deep Go.Proofs.Ytjmmcpeknaaaiaa Go.Proofs.Ytjmmcpeknaaaiaa.Flt Go.Proofs.Ytjmmcpeknaaaiaa.Mth
open Ieee (single double)
set_option linter.unusedVariables false
set_option linter.unusedSimpArgs false
set_option maxRecDepth 20000
theorem toSpan_ex (x y : Nat) (w : World) :
    Calls Try.prog 40 #[.agg #[.float .f32 x, .float .f32 y]] w fun e w' => e = .returned (.agg #[.float .f32 x, .float .f32 y]) ∧
      w' = ((w.alloc (.cells #[.float .f32 x, .float .f32 y] 44)).alloc (.cells #[.float .f32 x, .float .f32 y] 32)).alloc (.cells #[.float .f32 x, .float .f32 y] 32) := by
  go_enter Try.func40, Try.ntmps40
  go_wp2_with fail
  go_returns
  exact ⟨rfl, rfl⟩
/-- an interval as a value -/
def ivv (x y : Nat) (b : Bool) : Value := .agg #[.float .f32 x, .float .f32 y, .bool b]
theorem interval_any (x y : Nat) (w : World) :
    Calls Try.prog 75 #[.float .f32 x, .float .f32 y] w fun e w' => e = .returned (ivv x y (leB x y)) ∧ w' = w.alloc (.cells #[.float .f32 x, .float .f32 y, .bool (leB x y)] 76) := by
  unfold ivv leB
  go_enter Try.func75, Try.ntmps75
  go_wp2
  refine bodyPost_ret (by simp [results, Try.results75, go_sem]; try rfl) rfl ?_
  exact ⟨rfl, rfl⟩
theorem inside_any (x y : Nat) (w : World) :
    Calls Try.prog 71 #[pv x y] w fun e w' => e = .returned (ivv x y (leB x y)) ∧
      w' = ((w.alloc (.cells #[.float .f32 x, .float .f32 y] 32)).alloc (.cells #[.float .f32 x, .float .f32 y, .bool (leB x y)] 76)).alloc (.cells #[.float .f32 x, .float .f32 y, .bool (leB x y)] 76) := by
  have h := fun w => interval_any x y w
  obtain ⟨b, hb⟩ : ∃ b, leB x y = b := ⟨_, rfl⟩
  rw [hb] at h ⊢
  clear hb
  unfold ivv at h
  unfold pv ivv
  go_enter Try.func71, Try.ntmps71
  go_wp2_with fail
  refine (h _).mono ?_
  rintro e w' ⟨rfl, rfl⟩
  go_wp2_with fail
  refine bodyPost_ret (by simp [results, Try.results71, go_sem]; try rfl) rfl ?_
  exact ⟨rfl, rfl⟩
theorem outside_any (x y : Nat) (b : Bool) (w : World) :
    Calls Try.prog 76 #[ivv x y b] w fun e w' => e = .returned (.tuple #[pv (if b = true then x else 0) (if b = true then y else 0), .bool b]) ∧
      w' = (w.alloc (.cells #[.float .f32 x, .float .f32 y, .bool b] 76)).alloc (.cells #[.float .f32 (if b = true then x else 0), .float .f32 (if b = true then y else 0)] 32) := by
  unfold ivv pv
  cases b
  all_goals
    go_enter Try.func76, Try.ntmps76
    go_wp2_with fail
    refine bodyPost_ret (by simp [results, Try.results76, go_sem]; try rfl) rfl ?_
    exact ⟨rfl, rfl⟩
theorem run_valid (x y : Nat) (b : Bool) (w : World) : (Instr.field 76 (.agg #[.float .f32 x, .float .f32 y, .bool b]) 1).run Try.prog w = .ok (.bool b) w := by kernel_rfl
theorem impl_ok (x y : Nat) (w : World) :
    Calls Try.prog 30 #[pv x y] w fun e w' => e = .returned (.bool (leB x y)) ∧
      w' = (((w.alloc (.cells #[.float .f32 x, .float .f32 y] 32)).alloc (.cells #[.float .f32 x, .float .f32 y] 32)).alloc (.cells #[.float .f32 x, .float .f32 y, .bool (leB x y)] 76)).alloc (.cells #[.float .f32 x, .float .f32 y, .bool (leB x y)] 76) := by
  have h := fun w => inside_any x y w
  obtain ⟨b, hb⟩ : ∃ b, leB x y = b := ⟨_, rfl⟩
  rw [hb] at h ⊢
  clear hb
  unfold ivv pv at h
  unfold pv
  have kf := fun w => run_valid x y b w
  go_enter Try.func30, Try.ntmps30
  go_wp2_with fail
  refine (h _).mono ?_
  rintro e w' ⟨rfl, rfl⟩
  go_wp2_with fail
  go_ret
  exact ⟨rfl, rfl⟩
theorem impl_neg (x y : Nat) (w : World) (wx : x < 4294967296) (wy : y < 4294967296) :
    Calls Try.prog 33 #[pv x y] w fun e w' => e = .returned (.tuple #[pv (negS x y).1 (negS x y).2, .bool (leB x y)]) ∧ Below w.heap.size w w' := by
  have h := fun w => interval_any (Op.negFloat .f32 y) (Op.negFloat .f32 x) w
  rw [neg_le wx wy] at h
  clear wx wy
  have ho := fun b w => outside_any (Op.negFloat .f32 y) (Op.negFloat .f32 x) b w
  unfold negS
  obtain ⟨b, hb⟩ : ∃ b, leB x y = b := ⟨_, rfl⟩
  rw [hb] at h ⊢
  clear hb
  unfold ivv at h ho
  unfold pv at ho ⊢
  go_enter Try.func33, Try.ntmps33
  go_wp2_with fail
  refine (h _).mono ?_
  rintro e w' ⟨rfl, rfl⟩
  go_wp2_with fail
  refine (ho _ _).mono ?_
  rintro e w' ⟨rfl, rfl⟩
  cases b
  all_goals
    go_wp2_with fail
    refine bodyPost_ret (by simp [results, Try.results33, go_sem]; try rfl) rfl ?_
    exact ⟨rfl, by go_grown⟩
end Go.Proofs.Ytjmmcpeknaaaiaa.Spn
