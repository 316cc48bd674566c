/- Contracts of the model's draws of singles. -/
import Derived.Test.YtkjjeccgmeiniaaPick
import Derived.Test.YtkjjeccgmeiniaaMake
namespace Go.Proofs.Ytkjjeccgmeiniaa.Flt
end Go.Proofs.Ytkjjeccgmeiniaa.Flt
namespace Go.Proofs.Ytkjjeccgmeiniaa.Mth
end Go.Proofs.Ytkjjeccgmeiniaa.Mth
namespace Go.Proofs.Ytkjjeccgmeiniaa.Drw
open Go.ChangeShapes Go.WideShapes Go.ChangeAt Go.RowKit Go.Proofs.Ytkjjeccgmeiniaa Go.Proofs.Ytkjjeccgmeiniaa.Flt Go.Proofs.Ytkjjeccgmeiniaa.Mth
set_option linter.unusedVariables false
/-- some single has been drawn -/
def SingleOut (base B : Nat) (w : World) (e : Ending) (w' : World) : Prop := ∃ r : Nat, (Lit.float .f32 r).wf = true ∧ e = .returned (.float .f32 r) ∧ Cur base w' B ∧ Only B w w'
theorem seven {a b c d e f g : Int} : ∀ i, i < 7 → ∃ v : Int, (#[Value.int .i64 a, .int .i64 b, .int .i64 c, .int .i64 d, .int .i64 e, .int .i64 f, .int .i64 g])[i]? = some (.int .i64 v)
  | 0, _ => ⟨_, rfl⟩ | 1, _ => ⟨_, rfl⟩ | 2, _ => ⟨_, rfl⟩ | 3, _ => ⟨_, rfl⟩ | 4, _ => ⟨_, rfl⟩ | 5, _ => ⟨_, rfl⟩ | 6, _ => ⟨_, rfl⟩
  | n + 7, h => by omega
set_option maxHeartbeats 400000 in
theorem mild_any (base B : Nat) (w : World) (hc : Cur base w B) :
    Calls Try.prog 56 #[.pointer (some ⟨B, 0, none⟩)] w (SingleOut base B w) := by
  go_enter Try.func56, Try.ntmps56
  go_wp2_with fail
  refine (below_any base B _ _ hc (by omega)).mono ?_
  rintro e w1 ⟨r, r0, r1, rfl, hc1, ho1⟩
  have Hc1 := Lib.hid hc1
  have Ho1 := Lib.hid ho1
  clear hc1 ho1 hc r1
  go_wp2_with fail
  have hlt := Hc1.out.lt
  refine (pick_any base B w1.heap.size 7 _ _ _ (Hc1.out.alloc _) (by omega) (by omega) (block_new _ _) (by omega) seven).mono ?_
  rintro e w2 ⟨y, rfl, hc2, ho2⟩
  have Hc2 := Lib.hid hc2
  have Ho2 := Lib.hid (((Ho1.out.alloc _)).trans ho2)
  clear hc2 ho2 hlt
  obtain ⟨q, n, wq, _, kq⟩ := run_float_any (P := Try.prog) .quo (.inr (.inr (.inr rfl))) 31 .f32 (floatOfInt .f32 (wrap64 (r - 200))) (floatOfInt .f32 y) w2
  go_wp2_with fail
  go_ret
  exact ⟨q, wq, rfl, Hc2.out.drewN _, Ho2.out.drewN _⟩
theorem wf0 : (Lit.float .f32 0).wf = true := by decide
set_option maxHeartbeats 1600000 in
theorem single_any (base B : Nat) (w : World) (hc : Cur base w B) :
    Calls Try.prog 52 #[.pointer (some ⟨B, 0, none⟩)] w (SingleOut base B w) := by
  go_enter Try.func52, Try.ntmps52
  go_wp2_with fail
  refine (below_any base B _ _ hc (by omega)).mono ?_
  rintro e w1 ⟨r, r0, r1, rfl, hc1, ho1⟩
  have Hc1 := Lib.hid hc1
  have Ho1 := Lib.hid ho1
  have h16 : r < 16 := r1 (by omega)
  clear hc1 ho1 hc r1
  by_cases h0 : r = 0
  · subst h0
    go_wp2_with fail
    go_ret
    exact ⟨0, wf0, rfl, Hc1.out, Ho1.out⟩
  have b0 : (r == 0) = false := beq_eq_false_iff_ne.2 h0
  clear h0
  by_cases h0 : r = 1
  · subst h0
    go_wp2_with fail
    go_ret
    exact ⟨Op.negFloat .f32 0, by decide, rfl, Hc1.out, Ho1.out⟩
  have b1 : (r == 1) = false := beq_eq_false_iff_ne.2 h0
  clear h0
  by_cases h0 : r = 2
  · subst h0
    obtain ⟨q, n, wq, _, kq⟩ := run_float_any (P := Try.prog) .quo (.inr (.inr (.inr rfl))) 31 .f32 1065353216 0 w1
    go_wp2_with fail
    go_ret
    exact ⟨q, wq, rfl, Hc1.out.drewN _, Ho1.out.drewN _⟩
  have b2 : (r == 2) = false := beq_eq_false_iff_ne.2 h0
  clear h0
  by_cases h0 : r = 3
  · subst h0
    obtain ⟨q, n, wq, _, kq⟩ := run_float_any (P := Try.prog) .quo (.inr (.inr (.inr rfl))) 31 .f32 3212836864 0 w1
    go_wp2_with fail
    go_ret
    exact ⟨q, wq, rfl, Hc1.out.drewN _, Ho1.out.drewN _⟩
  have b3 : (r == 3) = false := beq_eq_false_iff_ne.2 h0
  clear h0
  by_cases h0 : r = 4
  · subst h0
    obtain ⟨q, n, wq, _, kq⟩ := run_float_any (P := Try.prog) .quo (.inr (.inr (.inr rfl))) 31 .f32 0 0 w1
    go_wp2_with fail
    go_ret
    exact ⟨q, wq, rfl, Hc1.out.drewN _, Ho1.out.drewN _⟩
  have b4 : (r == 4) = false := beq_eq_false_iff_ne.2 h0
  clear h0
  by_cases h0 : r = 5
  · subst h0
    go_wp2_with fail
    go_ret
    exact ⟨2139095039, by decide, rfl, Hc1.out, Ho1.out⟩
  have b5 : (r == 5) = false := beq_eq_false_iff_ne.2 h0
  clear h0
  by_cases h0 : r = 6
  · subst h0
    go_wp2_with fail
    refine (Mks.spec_any _ _ _ _).mono ?_
    rintro e w2 ⟨rfl, n, rfl⟩
    go_wp2_with fail
    go_ret
    exact ⟨_, Mks.out_lt _ _ _, rfl, Hc1.out.drewN _, Ho1.out.drewN _⟩
  have b6 : (r == 6) = false := beq_eq_false_iff_ne.2 h0
  clear h0
  by_cases h0 : r = 7
  · subst h0
    go_wp2_with fail
    refine (below_any base B _ _ Hc1.out (by omega)).mono ?_
    rintro e w2 ⟨x, x0, x1, rfl, hc2, ho2⟩
    have x2 := x1 (by omega)
    have Hc2 := Lib.hid hc2
    have Ho2 := Lib.hid (Ho1.out.trans ho2)
    clear hc2 ho2 x1
    go_wp2_with fail
    refine (below_any base B _ _ Hc2.out (by omega)).mono ?_
    rintro e w3 ⟨y, y0, y1, rfl, hc3, ho3⟩
    have y2 := y1 (by omega)
    have Hc3 := Lib.hid hc3
    have Ho3 := Lib.hid (Ho2.out.trans ho3)
    clear hc3 ho3 y1
    go_wp2_with fail
    refine (Mks.spec_any _ _ _ _).mono ?_
    rintro e w4 ⟨rfl, n, rfl⟩
    go_wp2_with fail
    go_ret
    exact ⟨_, Mks.out_lt _ _ _, rfl, Hc3.out.drewN _, Ho3.out.drewN _⟩
  have b7 : (r == 7) = false := beq_eq_false_iff_ne.2 h0
  clear h0
  by_cases h0 : r = 8 ∨ r = 9
  · rcases h0 with rfl | rfl
    all_goals
      go_wp2_with fail
      refine (below_any base B _ _ Hc1.out (by omega)).mono ?_
      rintro e w2 ⟨x, x0, x1, rfl, hc2, ho2⟩
      have x2 := x1 (by omega)
      have Hc2 := Lib.hid hc2
      have Ho2 := Lib.hid (Ho1.out.trans ho2)
      clear hc2 ho2 x1
      go_wp2_with fail
      refine (below_any base B _ _ Hc2.out (by omega)).mono ?_
      rintro e w3 ⟨y, y0, y1, rfl, hc3, ho3⟩
      have y2 := y1 (by omega)
      have Hc3 := Lib.hid hc3
      have Ho3 := Lib.hid (Ho2.out.trans ho3)
      clear hc3 ho3 y1
      go_wp2_with fail
      refine (Mks.spec_any _ _ _ _).mono ?_
      rintro e w4 ⟨rfl, n, rfl⟩
      go_wp2_with fail
      go_ret
      exact ⟨_, Mks.out_lt _ _ _, rfl, Hc3.out.drewN _, Ho3.out.drewN _⟩
  have b8 : (r == 8) = false := beq_eq_false_iff_ne.2 (fun e => h0 (.inl e))
  have b9 : (r == 9) = false := beq_eq_false_iff_ne.2 (fun e => h0 (.inr e))
  clear h0
  go_wp2_with fail
  refine (mild_any base B _ Hc1.out).mono ?_
  rintro e w2 ⟨q, wq, rfl, hc2, ho2⟩
  have Hc2 := Lib.hid hc2
  have Ho2 := Lib.hid (Ho1.out.trans ho2)
  clear hc2 ho2
  go_wp2_with fail
  go_ret
  exact ⟨q, wq, rfl, Hc2.out, Ho2.out⟩
end Go.Proofs.Ytkjjeccgmeiniaa.Drw
