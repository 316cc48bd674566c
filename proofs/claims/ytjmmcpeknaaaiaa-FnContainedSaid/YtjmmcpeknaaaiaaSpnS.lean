/- Spans in the model: SpanOk, Holds, NegSpan, MeetSpans, HullSpans. -/
import Derived.Test.YtjmmcpeknaaaiaaSplArg
import Derived.Test.YtjmmcpeknaaaiaaSpnQ
import Derived.Test.YtjmmcpeknaaaiaaFltG
import Derived.Handy
namespace Go.Proofs.Ytjmmcpeknaaaiaa.Spn
open Go.ChangeShapes Go.WideShapes Go.ChangeAt Go.RowKit Go.Deep Go.Proofs.Ytjmmcpeknaaaiaa Go.Proofs.Ytjmmcpeknaaaiaa.Flt Go.Proofs.Ytjmmcpeknaaaiaa.Mth
open Ieee (single double)
set_option linter.unusedVariables false
set_option linter.unusedSimpArgs false
/-- a span in memory -/
def SpO (x y : Nat) : Obj := .cells #[.float .f32 x, .float .f32 y] 32
theorem spec_ok (x y : Nat) (w : World) :
    Calls Try.prog 39 #[pv x y] w fun e w' => e = .returned (.bool (leB x y)) ∧ w' = w.alloc (.cells #[.float .f32 x, .float .f32 y] 32) := by
  have Hb := Lib.hid (show leB x y = (FloatKind.f32.format.order x y == some .lt || FloatKind.f32.format.order x y == some .eq) from rfl)
  unfold pv
  go_enter Try.func39, Try.ntmps39
  go_wp2
  go_ret
  exact ⟨ret_bool (by rw [Hb.out]), rfl⟩
theorem spec_neg (x y : Nat) (w : World) :
    Calls Try.prog 49 #[pv x y] w fun e w' => e = .returned (.tuple #[pv (negS x y).1 (negS x y).2, .bool (leB x y)]) ∧ Below w.heap.size w w' := by
  unfold negS pv
  cases hb : leB x y
  · go_enter Try.func49, Try.ntmps49
    go_wp2_with fail
    refine (spec_ok x y _).mono ?_
    rintro e w1 ⟨rfl, rfl⟩
    rw [hb]
    go_wp2_with fail
    refine bodyPost_ret (by simp [results, Try.results49, go_sem]; try rfl) rfl ?_
    exact ⟨rfl, by go_grown⟩
  · go_enter Try.func49, Try.ntmps49
    go_wp2_with fail
    refine (spec_ok x y _).mono ?_
    rintro e w1 ⟨rfl, rfl⟩
    rw [hb]
    go_wp2_with fail
    refine bodyPost_ret (by simp [results, Try.results49, go_sem]; try rfl) rfl ?_
    exact ⟨rfl, by go_grown⟩
set_option maxHeartbeats 1600000 in
theorem spec_meet (a b c d : Nat) (w : World) :
    Calls Try.prog 51 #[pv a b, pv c d] w fun e w' => e = .returned (.tuple #[pv (meetS a b c d).1 (meetS a b c d).2, .bool (meetB a b c d)]) ∧ Below w.heap.size w w' := by
  cases h1 : leB a b
  · rw [show meetB a b c d = false by unfold meetB; rw [h1]; rfl, show meetS a b c d = (0, 0) by unfold meetS meetB; rw [h1]; rfl]
    unfold pv
    go_enter Try.func51, Try.ntmps51
    go_wp2_with fail
    refine (spec_ok a b _).mono ?_
    rintro e w1 ⟨rfl, rfl⟩
    rw [h1]
    go_wp2_with fail
    refine bodyPost_ret (by simp [results, Try.results51, go_sem]; try rfl) rfl ?_
    exact ⟨rfl, by go_grown⟩
  · cases h2 : leB c d
    · rw [show meetB a b c d = false by unfold meetB; rw [h1, h2]; rfl, show meetS a b c d = (0, 0) by unfold meetS meetB; rw [h1, h2]; rfl]
      unfold pv
      go_enter Try.func51, Try.ntmps51
      go_wp2_with fail
      refine (spec_ok a b _).mono ?_
      rintro e w1 ⟨rfl, rfl⟩
      rw [h1]
      go_wp2_with fail
      refine (spec_ok c d _).mono ?_
      rintro e w1 ⟨rfl, rfl⟩
      rw [h2]
      go_wp2_with fail
      refine bodyPost_ret (by simp [results, Try.results51, go_sem]; try rfl) rfl ?_
      exact ⟨rfl, by go_grown⟩
    · cases h3 : gtB c a <;> cases h4 : ltB d b
      all_goals
        obtain ⟨lo, hlo⟩ : ∃ lo, meetL a c = lo := ⟨_, rfl⟩
        obtain ⟨hi, hhi⟩ : ∃ hi, meetH b d = hi := ⟨_, rfl⟩
        have hB : meetB a b c d = leB lo hi := by unfold meetB; rw [h1, h2, hlo, hhi]; rfl
        have hS : meetS a b c d = if leB lo hi = true then (lo, hi) else (0, 0) := by unfold meetS; rw [hB, hlo, hhi]
        rw [hB, hS]
        unfold meetL at hlo
        unfold meetH at hhi
        rw [h3] at hlo
        rw [h4] at hhi
        simp only [Bool.false_eq_true, if_false, if_true] at hlo hhi
        subst hlo hhi
        unfold gtB at h3
        unfold ltB at h4
        cases h5 : leB _ _
        all_goals
          unfold pv
          go_enter Try.func51, Try.ntmps51
          go_wp2_with fail
          refine (spec_ok a b _).mono ?_
          rintro e w1 ⟨rfl, rfl⟩
          rw [h1]
          go_wp2_with fail
          refine (spec_ok c d _).mono ?_
          rintro e w1 ⟨rfl, rfl⟩
          rw [h2]
          go_wp2_with fail
          refine (spec_ok _ _ _).mono ?_
          rintro e w1 ⟨rfl, rfl⟩
          rw [h5]
          go_wp2_with fail
          refine bodyPost_ret (by simp [results, Try.results51, go_sem]; try rfl) rfl ?_
          exact ⟨rfl, by go_grown⟩
set_option maxHeartbeats 1600000 in
theorem spec_hull (a b c d : Nat) (w : World) :
    Calls Try.prog 52 #[pv a b, pv c d] w fun e w' => e = .returned (.tuple #[pv (hullS a b c d).1 (hullS a b c d).2, .bool (hullB a b c d)]) ∧ Below w.heap.size w w' := by
  cases h1 : leB a b
  · rw [show hullB a b c d = false by unfold hullB; rw [h1]; rfl, show hullS a b c d = (0, 0) by unfold hullS hullB; rw [h1]; rfl]
    unfold pv
    go_enter Try.func52, Try.ntmps52
    go_wp2_with fail
    refine (spec_ok a b _).mono ?_
    rintro e w1 ⟨rfl, rfl⟩
    rw [h1]
    go_wp2_with fail
    refine bodyPost_ret (by simp [results, Try.results52, go_sem]; try rfl) rfl ?_
    exact ⟨rfl, by go_grown⟩
  · cases h2 : leB c d
    · rw [show hullB a b c d = false by unfold hullB; rw [h1, h2]; rfl, show hullS a b c d = (0, 0) by unfold hullS hullB; rw [h1, h2]; rfl]
      unfold pv
      go_enter Try.func52, Try.ntmps52
      go_wp2_with fail
      refine (spec_ok a b _).mono ?_
      rintro e w1 ⟨rfl, rfl⟩
      rw [h1]
      go_wp2_with fail
      refine (spec_ok c d _).mono ?_
      rintro e w1 ⟨rfl, rfl⟩
      rw [h2]
      go_wp2_with fail
      refine bodyPost_ret (by simp [results, Try.results52, go_sem]; try rfl) rfl ?_
      exact ⟨rfl, by go_grown⟩
    · cases h3 : ltB c a <;> cases h4 : gtB d b
      all_goals
        rw [show hullB a b c d = true by unfold hullB; rw [h1, h2]; rfl, show hullS a b c d = (hullL a c, hullH b d) by unfold hullS hullB; rw [h1, h2]; rfl]
        unfold hullL hullH
        rw [h3, h4]
        unfold ltB at h3
        unfold gtB at h4
        unfold pv
        go_enter Try.func52, Try.ntmps52
        go_wp2_with fail
        refine (spec_ok a b _).mono ?_
        rintro e w1 ⟨rfl, rfl⟩
        rw [h1]
        go_wp2_with fail
        refine (spec_ok c d _).mono ?_
        rintro e w1 ⟨rfl, rfl⟩
        rw [h2]
        go_wp2_with fail
        refine bodyPost_ret (by simp [results, Try.results52, go_sem]; try rfl) rfl ?_
        exact ⟨rfl, by go_grown⟩
end Go.Proofs.Ytjmmcpeknaaaiaa.Spn
