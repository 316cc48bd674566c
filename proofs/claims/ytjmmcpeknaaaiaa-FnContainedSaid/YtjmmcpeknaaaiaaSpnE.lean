/- What two valid spans have in common, and their hull, in the program. -/
import Derived.Test.YtjmmcpeknaaaiaaSpnC
namespace Go.Proofs.Ytjmmcpeknaaaiaa.Spn
open Go.ChangeShapes Go.WideShapes Go.ChangeAt Go.RowKit Go.Deep Go.Proofs.Ytjmmcpeknaaaiaa Go.Proofs.Ytjmmcpeknaaaiaa.Flt Go.Proofs.Ytjmmcpeknaaaiaa.Mth
open Go.Proofs.Ytjmmcpeknaaaiaa.Sgl (LstF CellsF)
open Ieee (single double)
set_option linter.unusedVariables false
set_option linter.unusedSimpArgs false
set_option maxRecDepth 20000
/-- two elements in a block, as a list -/
def two (x y : Nat) : Nat → Nat := fun i => if i = 0 then x else y
theorem two_lst {x y k : Nat} {w : World} (h : Blk w k #[.float .f32 x, .float .f32 y] 24) (wx : (Lit.float .f32 x).wf = true) (wy : (Lit.float .f32 y).wf = true) : LstF w (some ⟨k, 0, none⟩) 2 (two x y) := by
  refine ⟨fun i hi => ?_, .inr ⟨k, 0, rfl, h.lt, fun i hi => ?_⟩⟩
  · have : i = 0 ∨ i = 1 := by omega
    rcases this with rfl | rfl
    · exact wx
    · exact wy
  · have : i = 0 ∨ i = 1 := by omega
    rcases this with rfl | rfl
    · exact h.cell 0 rfl
    · exact h.cell 1 rfl
theorem great2 (x y k : Nat) (w : World) (h : Blk w k #[.float .f32 x, .float .f32 y] 24) (wx : (Lit.float .f32 x).wf = true) (wy : (Lit.float .f32 y).wf = true) :
    Calls Try.prog 87 #[.slice (some ⟨k, 0, none⟩) 2 2] w fun e w' => e = .returned (.float .f32 (if gtB y x = true then y else x)) ∧ w' = w := by
  refine (greatest_any _ 2 2 (two x y) w (by omega) (two_lst h wx wy)).mono ?_
  rintro e w' ⟨rfl, rfl⟩
  exact ⟨rfl, rfl⟩
theorem least2 (x y k : Nat) (w : World) (h : Blk w k #[.float .f32 x, .float .f32 y] 24) (wx : (Lit.float .f32 x).wf = true) (wy : (Lit.float .f32 y).wf = true) :
    Calls Try.prog 86 #[.slice (some ⟨k, 0, none⟩) 2 2] w fun e w' => e = .returned (.float .f32 (if ltB y x = true then y else x)) ∧ w' = w := by
  refine (least_any _ 2 2 (two x y) w (by omega) (two_lst h wx wy)).mono ?_
  rintro e w' ⟨rfl, rfl⟩
  exact ⟨rfl, rfl⟩
set_option maxHeartbeats 4000000 in
theorem meet_any (a b c d : Nat) (w : World) (wa : (Lit.float .f32 a).wf = true) (wb : (Lit.float .f32 b).wf = true) (wc : (Lit.float .f32 c).wf = true) (wd : (Lit.float .f32 d).wf = true) :
    Calls Try.prog 78 #[ivv a b true, ivv c d true] w fun e w' => e = .returned (ivv (meetL a c) (meetH b d) (leB (meetL a c) (meetH b d))) ∧ Below w.heap.size w w' := by
  have c1 := fun k w hB => great2 a c k w hB wa wc
  have c2 := fun k w hB => least2 b d k w hB wb wd
  change ∀ k w, Blk w k _ _ → Calls _ _ _ _ (fun e w' => e = .returned (.float .f32 (meetL a c)) ∧ w' = w) at c1
  change ∀ k w, Blk w k _ _ → Calls _ _ _ _ (fun e w' => e = .returned (.float .f32 (meetH b d)) ∧ w' = w) at c2
  have ci := fun w => interval_any (meetL a c) (meetH b d) w
  generalize leB (meetL a c) (meetH b d) = ok at *
  generalize meetL a c = lo at *
  generalize meetH b d = hi at *
  unfold ivv at ci ⊢
  go_enter Try.func78, Try.ntmps78
  go_wp2_with fail
  obtain ⟨w0, hw0⟩ : ∃ w0, w0 = (w.alloc (.cells #[.float .f32 a, .float .f32 b, .bool true] 76)).alloc (.cells #[.float .f32 c, .float .f32 d, .bool true] 76) := ⟨_, rfl⟩
  have Hb0 := Lib.hid (show Below w.heap.size w w0 by rw [hw0]; go_grown)
  have hA : w.heap.size + 1 + 1 = w0.heap.size := by rw [hw0]; simp
  have b0 : w0.cell? ⟨w.heap.size, 0, none⟩ = some (.float .f32 a) := by rw [hw0]; go_cell
  have b1 : w0.cell? ⟨w.heap.size, 1, none⟩ = some (.float .f32 b) := by rw [hw0]; go_cell
  have b2 : w0.cell? ⟨w.heap.size + 1, 0, none⟩ = some (.float .f32 c) := by rw [hw0]; go_cell
  have b3 : w0.cell? ⟨w.heap.size + 1, 1, none⟩ = some (.float .f32 d) := by rw [hw0]; go_cell
  rw [← hw0, hA]
  clear hw0
  have n0 := World.new_ne w0 _ b0
  have n2 := World.new_ne w0 _ b2
  have HP0 := Lib.hid (show Par w.heap.size (w.heap.size + 1) a b c d w0 from ⟨b0, b1, b2, b3⟩)
  go_region_held (fun w' => w'.cell? ⟨w.heap.size, 0, none⟩ = some (.float .f32 a) ∧ w'.cell? ⟨w.heap.size, 1, none⟩ = some (.float .f32 b) ∧ w'.cell? ⟨w.heap.size + 1, 0, none⟩ = some (.float .f32 c) ∧ w'.cell? ⟨w.heap.size + 1, 1, none⟩ = some (.float .f32 d)) ((refine Par.out ?_; (repeat (first | (with_reducible refine Par.alloc ?_ _) | (with_reducible refine Par.drew ?_) | (with_reducible refine Par.setCell ?_ ?_ ?_ _))); all_goals first | exact HP0.out | omega | (simp; omega))) (first
    | (go_at_call 87; refine Calls.mono (c1 _ _ ?_) ?_; (focus ((repeat (first | (with_reducible refine Blk.drew ?_) | (refine Blk.new ?_; (simp; done)) | (with_reducible refine Blk.alloc ?_ _))); done)); rintro e w' ⟨rfl, rfl⟩)
    | (go_at_call 86; refine Calls.mono (c2 _ _ ?_) ?_; (focus ((repeat (first | (with_reducible refine Blk.drew ?_) | (refine Blk.new ?_; (simp; done)) | (with_reducible refine Blk.alloc ?_ _))); done)); rintro e w' ⟨rfl, rfl⟩)
    | (go_at_call 75; refine (ci _).mono ?_; rintro e w' ⟨rfl, rfl⟩))
  all_goals
    go_wp2_with fail
    refine bodyPost_ret (by simp [results, Try.results78, go_sem]; try rfl) rfl ?_
    refine ⟨rfl, ?_⟩
    exact Hb0.out.trans (Below.mono (show Below w0.heap.size w0 _ by go_grown) Hb0.out.size)
set_option maxHeartbeats 4000000 in
theorem hull_any (a b c d : Nat) (w : World) (wa : (Lit.float .f32 a).wf = true) (wb : (Lit.float .f32 b).wf = true) (wc : (Lit.float .f32 c).wf = true) (wd : (Lit.float .f32 d).wf = true) :
    Calls Try.prog 79 #[ivv a b true, ivv c d true] w fun e w' => e = .returned (ivv (hullL a c) (hullH b d) (leB (hullL a c) (hullH b d))) ∧ Below w.heap.size w w' := by
  have c1 := fun k w hB => least2 a c k w hB wa wc
  have c2 := fun k w hB => great2 b d k w hB wb wd
  change ∀ k w, Blk w k _ _ → Calls _ _ _ _ (fun e w' => e = .returned (.float .f32 (hullL a c)) ∧ w' = w) at c1
  change ∀ k w, Blk w k _ _ → Calls _ _ _ _ (fun e w' => e = .returned (.float .f32 (hullH b d)) ∧ w' = w) at c2
  have ci := fun w => interval_any (hullL a c) (hullH b d) w
  generalize leB (hullL a c) (hullH b d) = ok at *
  generalize hullL a c = lo at *
  generalize hullH b d = hi at *
  unfold ivv at ci ⊢
  go_enter Try.func79, Try.ntmps79
  go_wp2_with fail
  obtain ⟨w0, hw0⟩ : ∃ w0, w0 = (w.alloc (.cells #[.float .f32 a, .float .f32 b, .bool true] 76)).alloc (.cells #[.float .f32 c, .float .f32 d, .bool true] 76) := ⟨_, rfl⟩
  have Hb0 := Lib.hid (show Below w.heap.size w w0 by rw [hw0]; go_grown)
  have hA : w.heap.size + 1 + 1 = w0.heap.size := by rw [hw0]; simp
  have b0 : w0.cell? ⟨w.heap.size, 0, none⟩ = some (.float .f32 a) := by rw [hw0]; go_cell
  have b1 : w0.cell? ⟨w.heap.size, 1, none⟩ = some (.float .f32 b) := by rw [hw0]; go_cell
  have b2 : w0.cell? ⟨w.heap.size + 1, 0, none⟩ = some (.float .f32 c) := by rw [hw0]; go_cell
  have b3 : w0.cell? ⟨w.heap.size + 1, 1, none⟩ = some (.float .f32 d) := by rw [hw0]; go_cell
  rw [← hw0, hA]
  clear hw0
  have n0 := World.new_ne w0 _ b0
  have n2 := World.new_ne w0 _ b2
  have HP0 := Lib.hid (show Par w.heap.size (w.heap.size + 1) a b c d w0 from ⟨b0, b1, b2, b3⟩)
  go_region_held (fun w' => w'.cell? ⟨w.heap.size, 0, none⟩ = some (.float .f32 a) ∧ w'.cell? ⟨w.heap.size, 1, none⟩ = some (.float .f32 b) ∧ w'.cell? ⟨w.heap.size + 1, 0, none⟩ = some (.float .f32 c) ∧ w'.cell? ⟨w.heap.size + 1, 1, none⟩ = some (.float .f32 d)) ((refine Par.out ?_; (repeat (first | (with_reducible refine Par.alloc ?_ _) | (with_reducible refine Par.drew ?_) | (with_reducible refine Par.setCell ?_ ?_ ?_ _))); all_goals first | exact HP0.out | omega | (simp; omega))) (first
    | (go_at_call 86; refine Calls.mono (c1 _ _ ?_) ?_; (focus ((repeat (first | (with_reducible refine Blk.drew ?_) | (refine Blk.new ?_; (simp; done)) | (with_reducible refine Blk.alloc ?_ _))); done)); rintro e w' ⟨rfl, rfl⟩)
    | (go_at_call 87; refine Calls.mono (c2 _ _ ?_) ?_; (focus ((repeat (first | (with_reducible refine Blk.drew ?_) | (refine Blk.new ?_; (simp; done)) | (with_reducible refine Blk.alloc ?_ _))); done)); rintro e w' ⟨rfl, rfl⟩)
    | (go_at_call 75; refine (ci _).mono ?_; rintro e w' ⟨rfl, rfl⟩))
  all_goals
    go_wp2_with fail
    refine bodyPost_ret (by simp [results, Try.results79, go_sem]; try rfl) rfl ?_
    refine ⟨rfl, ?_⟩
    exact Hb0.out.trans (Below.mono (show Below w0.heap.size w0 _ by go_grown) Hb0.out.size)
theorem ent_meet : ∀ args w, (callFunc 78 args).run Try.prog w = .ok (.enter 78 args) w := ent _ _ _ Try.func78 (by kernel_rfl) rfl
theorem meet_eq (a b c d : Nat) : meetB a b c d = (leB a b && leB c d && leB (meetL a c) (meetH b d)) ∧ (meetS a b c d).1 = (if (leB a b && leB c d && leB (meetL a c) (meetH b d)) = true then meetL a c else 0) ∧ (meetS a b c d).2 = (if (leB a b && leB c d && leB (meetL a c) (meetH b d)) = true then meetH b d else 0) := by
  refine ⟨rfl, ?_, ?_⟩
  · unfold meetS meetB; split <;> rfl
  · unfold meetS meetB; split <;> rfl
theorem impl_meet (a b c d : Nat) (w : World) (wa : (Lit.float .f32 a).wf = true) (wb : (Lit.float .f32 b).wf = true) (wc : (Lit.float .f32 c).wf = true) (wd : (Lit.float .f32 d).wf = true) :
    Calls Try.prog 36 #[pv a b, pv c d] w fun e w' => e = .returned (.tuple #[pv (meetS a b c d).1 (meetS a b c d).2, .bool (meetB a b c d)]) ∧ Below w.heap.size w w' := by
  have hc := fun w => combined_any _ ent_meet a b c d (meetL a c) (meetH b d) (leB (meetL a c) (meetH b d)) w (fun _ _ w => meet_any a b c d w wa wb wc wd)
  obtain ⟨e0, e1, e2⟩ := meet_eq a b c d
  rw [← e0] at e1 e2 hc
  rw [← e1, ← e2] at hc
  clear e0 e1 e2
  generalize (meetS a b c d).1 = p at *
  generalize (meetS a b c d).2 = q at *
  generalize meetB a b c d = ok at *
  unfold pv at hc ⊢
  go_enter Try.func36, Try.ntmps36
  go_wp2_with fail
  obtain ⟨w0, hw0⟩ : ∃ w0, w0 = ((w.alloc (.cells #[.float .f32 a, .float .f32 b] 32)).alloc (.cells #[.float .f32 c, .float .f32 d] 32)).alloc (.cells #[.float .f32 0, .float .f32 0] 32) := ⟨_, rfl⟩
  have Hb0 := Lib.hid (show Below w.heap.size w w0 by rw [hw0]; go_grown)
  have Hr0 := Lib.hid (show Blk w0 (w.heap.size + 1 + 1) #[.float .f32 0, .float .f32 0] 32 by rw [hw0]; exact Blk.new (by simp))
  rw [← hw0]
  clear hw0
  refine (hc _).mono ?_
  rintro e w1 ⟨rfl, hb1⟩
  have Hr1 := Lib.hid (Hr0.out.keep hb1)
  have Hb1 := Lib.hid (Hb0.out.trans (hb1.mono Hb0.out.size))
  have t0 := Hr1.out.cell 0 rfl
  have t1 := Hr1.out.cell 1 rfl
  have z0 := Hr1.out.free 0
  have z1 := Hr1.out.free 1
  clear hb1
  go_wp2_with fail
  obtain ⟨d0, d1, _⟩ := Hr1.out.two p q
  refine bodyPost_ret (by simp [results, Try.results36, go_sem, d0, d1]; try rfl) rfl ?_
  refine ⟨rfl, ?_⟩
  exact (Hb1.out.setCell (by simp; omega) _).setCell (by simp; omega) _
theorem ent_hull : ∀ args w, (callFunc 79 args).run Try.prog w = .ok (.enter 79 args) w := ent _ _ _ Try.func79 (by kernel_rfl) rfl
theorem hull_eq (a b c d : Nat) : hullB a b c d = (leB a b && leB c d && leB (hullL a c) (hullH b d)) ∧ (hullS a b c d).1 = (if (leB a b && leB c d && leB (hullL a c) (hullH b d)) = true then hullL a c else 0) ∧ (hullS a b c d).2 = (if (leB a b && leB c d && leB (hullL a c) (hullH b d)) = true then hullH b d else 0) := by
  have hk : leB a b = true → leB c d = true → leB (hullL a c) (hullH b d) = true := fun h1 h2 => by
    obtain ⟨n1, n2, h1'⟩ := le_iff.1 h1
    obtain ⟨n3, n4, h2'⟩ := le_iff.1 h2
    rw [le_iff]
    have l1 : isNaN single (hullL a c) = false ∧ sv single (hullL a c) ≤ sv single a := by
      unfold hullL
      by_cases k : ltB c a = true
      · rw [if_pos k]; have := (lt_iff.1 k).2.2; exact ⟨n3, by omega⟩
      · rw [if_neg k]; exact ⟨n1, Int.le_refl _⟩
    have l2 : isNaN single (hullH b d) = false ∧ sv single b ≤ sv single (hullH b d) := by
      unfold hullH
      by_cases k : gtB d b = true
      · rw [if_pos k]; have := (gt_iff.1 k).2.2; exact ⟨n4, by omega⟩
      · rw [if_neg k]; exact ⟨n2, Int.le_refl _⟩
    exact ⟨l1.1, l2.1, by omega⟩
  have hB : hullB a b c d = (leB a b && leB c d && leB (hullL a c) (hullH b d)) := by
    unfold hullB
    cases h1 : leB a b
    · rfl
    · cases h2 : leB c d
      · rfl
      · rw [hk h1 h2]; rfl
  rw [← hB]
  refine ⟨rfl, ?_, ?_⟩
  · unfold hullS; split <;> rfl
  · unfold hullS; split <;> rfl
theorem impl_hull (a b c d : Nat) (w : World) (wa : (Lit.float .f32 a).wf = true) (wb : (Lit.float .f32 b).wf = true) (wc : (Lit.float .f32 c).wf = true) (wd : (Lit.float .f32 d).wf = true) :
    Calls Try.prog 37 #[pv a b, pv c d] w fun e w' => e = .returned (.tuple #[pv (hullS a b c d).1 (hullS a b c d).2, .bool (hullB a b c d)]) ∧ Below w.heap.size w w' := by
  have hc := fun w => combined_any _ ent_hull a b c d (hullL a c) (hullH b d) (leB (hullL a c) (hullH b d)) w (fun _ _ w => hull_any a b c d w wa wb wc wd)
  obtain ⟨e0, e1, e2⟩ := hull_eq a b c d
  rw [← e0] at e1 e2 hc
  rw [← e1, ← e2] at hc
  clear e0 e1 e2
  generalize (hullS a b c d).1 = p at *
  generalize (hullS a b c d).2 = q at *
  generalize hullB a b c d = ok at *
  unfold pv at hc ⊢
  go_enter Try.func37, Try.ntmps37
  go_wp2_with fail
  obtain ⟨w0, hw0⟩ : ∃ w0, w0 = ((w.alloc (.cells #[.float .f32 a, .float .f32 b] 32)).alloc (.cells #[.float .f32 c, .float .f32 d] 32)).alloc (.cells #[.float .f32 0, .float .f32 0] 32) := ⟨_, rfl⟩
  have Hb0 := Lib.hid (show Below w.heap.size w w0 by rw [hw0]; go_grown)
  have Hr0 := Lib.hid (show Blk w0 (w.heap.size + 1 + 1) #[.float .f32 0, .float .f32 0] 32 by rw [hw0]; exact Blk.new (by simp))
  rw [← hw0]
  clear hw0
  refine (hc _).mono ?_
  rintro e w1 ⟨rfl, hb1⟩
  have Hr1 := Lib.hid (Hr0.out.keep hb1)
  have Hb1 := Lib.hid (Hb0.out.trans (hb1.mono Hb0.out.size))
  have t0 := Hr1.out.cell 0 rfl
  have t1 := Hr1.out.cell 1 rfl
  have z0 := Hr1.out.free 0
  have z1 := Hr1.out.free 1
  clear hb1
  go_wp2_with fail
  obtain ⟨d0, d1, _⟩ := Hr1.out.two p q
  refine bodyPost_ret (by simp [results, Try.results37, go_sem, d0, d1]; try rfl) rfl ?_
  refine ⟨rfl, ?_⟩
  exact (Hb1.out.setCell (by simp; omega) _).setCell (by simp; omega) _
end Go.Proofs.Ytjmmcpeknaaaiaa.Spn
