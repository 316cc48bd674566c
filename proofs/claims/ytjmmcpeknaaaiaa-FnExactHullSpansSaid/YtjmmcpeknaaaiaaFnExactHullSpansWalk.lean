/- The walk of FnExactHullSpans: it returns true. -/
import Derived.Test.YtjmmcpeknaaaiaaRows
import Derived.Test.YtjmmcpeknaaaiaaSpnE
import Derived.Test.YtjmmcpeknaaaiaaSpnS
import Derived.Deep.RegionHeld
namespace Go.Proofs.Ytjmmcpeknaaaiaa.fnExactHullSpans
open Go.ChangeShapes Go.WideShapes Go.ChangeAt Go.RowKit Go.Deep Go.Proofs.Ytjmmcpeknaaaiaa Go.Proofs.Ytjmmcpeknaaaiaa.Flt Go.Proofs.Ytjmmcpeknaaaiaa.Mth Go.Proofs.Ytjmmcpeknaaaiaa.Spn
open Ieee (single double)
set_option linter.unusedVariables false
set_option maxRecDepth 20000
theorem res_wf {a b c d : Nat} (wa : (Lit.float .f32 a).wf = true) (wb : (Lit.float .f32 b).wf = true) (wc : (Lit.float .f32 c).wf = true) (wd : (Lit.float .f32 d).wf = true) : (Lit.float .f32 (hullS a b c d).1).wf = true ∧ (Lit.float .f32 (hullS a b c d).2).wf = true := by
  unfold hullS
  split
  · unfold hullL hullH
    exact ⟨by dsimp only; split <;> assumption, by dsimp only; split <;> assumption⟩
  · exact ⟨by decide, by decide⟩
set_option maxHeartbeats 20000000 in
theorem walk (a b c d : Nat) (w : World) (wa : (Lit.float .f32 a).wf = true) (wb : (Lit.float .f32 b).wf = true) (wc : (Lit.float .f32 c).wf = true) (wd : (Lit.float .f32 d).wf = true) :
    Calls Try.prog 17 #[.agg #[.float .f32 a, .float .f32 b], .agg #[.float .f32 c, .float .f32 d]] w fun e w' => e = .returned (.bool true) ∧ Below w.heap.size w w' := by
  have cS := fun w => spec_hull a b c d w
  have cI := fun w => impl_hull a b c d w wa wb wc wd
  have hw := res_wf wa wb wc wd
  have he := fun w => eqSpan_any (hullS a b c d).1 (hullS a b c d).2 w hw.1 hw.2
  clear hw
  generalize (hullS a b c d).1 = p at *
  generalize (hullS a b c d).2 = q at *
  generalize hullB a b c d = ok at *
  unfold pv at cS cI
  go_enter Try.func17, Try.ntmps17
  go_wp2_with fail
  obtain ⟨w0, hw0⟩ : ∃ w0, w0 = (w.alloc (.cells #[.float .f32 a, .float .f32 b] 44)).alloc (.cells #[.float .f32 c, .float .f32 d] 44) := ⟨_, rfl⟩
  have Hb0 := Lib.hid (show Below w.heap.size w w0 by rw [hw0]; go_grown)
  have b0 : w0.cell? ⟨w.heap.size, 0, none⟩ = some (.float .f32 a) := by rw [hw0]; go_cell
  have b1 : w0.cell? ⟨w.heap.size, 1, none⟩ = some (.float .f32 b) := by rw [hw0]; go_cell
  have b2 : w0.cell? ⟨w.heap.size + 1, 0, none⟩ = some (.float .f32 c) := by rw [hw0]; go_cell
  have b3 : w0.cell? ⟨w.heap.size + 1, 1, none⟩ = some (.float .f32 d) := by rw [hw0]; go_cell
  rw [← hw0]
  clear hw0
  rename_i K hK
  have hQ : ∀ r w1, (Below w.heap.size w w1 ∧ Par w.heap.size (w.heap.size + 1) a b c d w1 ∧ Blk w1 r #[.float .f32 p, .float .f32 q] 32) → K
    ({ tmps := #[.agg #[.float .f32 a, .float .f32 b],
      .agg #[.float .f32 c, .float .f32 d],
      .pointer (some ⟨w.heap.size, 0, none⟩),
      .pointer (some ⟨w.heap.size + 1, 0, none⟩),
      .bool false,
      .pointer (some ⟨r, 0, none⟩),
      .bool ok,
      undef,
      undef,
      .tuple #[.agg #[.float .f32 p, .float .f32 q], .bool ok],
      .agg #[.float .f32 a, .float .f32 b],
      .agg #[.float .f32 a, .float .f32 b],
      .agg #[.float .f32 c, .float .f32 d],
      .agg #[.float .f32 c, .float .f32 d],
      .tuple #[.agg #[.float .f32 p, .float .f32 q], .bool ok],
      .agg #[.float .f32 p, .float .f32 q],
      .bool ok,
      undef,
      undef,
      undef,
      undef,
      undef,
      undef,
      undef,
      undef,
      undef,
      undef,
      undef,
      undef,
      undef,
      undef,
      undef,
      undef,
      undef], defers := [] }) w1 := by
    rintro r w1 ⟨hb1, hp1, hr1⟩
    have Hb1 := Lib.hid hb1
    have HR := Lib.hid hr1
    obtain ⟨b0, b1, b2, b3⟩ := hp1
    clear hb1 hr1
    apply hK
    go_wp2_with fail
    rename_i K2 hK2
    have hQ2 : ∀ s w2, (Below w.heap.size w w2 ∧ Blk w2 r #[.float .f32 p, .float .f32 q] 32 ∧ Blk w2 s #[.float .f32 p, .float .f32 q] 32) → K2
      ({ tmps := #[.agg #[.float .f32 a, .float .f32 b],
      .agg #[.float .f32 c, .float .f32 d],
      .pointer (some ⟨w.heap.size, 0, none⟩),
      .pointer (some ⟨w.heap.size + 1, 0, none⟩),
      .bool false,
      .pointer (some ⟨r, 0, none⟩),
      .bool ok,
      .pointer (some ⟨s, 0, none⟩),
      .bool ok,
      .tuple #[.agg #[.float .f32 p, .float .f32 q], .bool ok],
      .agg #[.float .f32 a, .float .f32 b],
      .agg #[.float .f32 a, .float .f32 b],
      .agg #[.float .f32 c, .float .f32 d],
      .agg #[.float .f32 c, .float .f32 d],
      .tuple #[.agg #[.float .f32 p, .float .f32 q], .bool ok],
      .agg #[.float .f32 p, .float .f32 q],
      .bool ok,
      .tuple #[.agg #[.float .f32 p, .float .f32 q], .bool ok],
      .agg #[.float .f32 a, .float .f32 b],
      .agg #[.float .f32 a, .float .f32 b],
      .agg #[.float .f32 c, .float .f32 d],
      .agg #[.float .f32 c, .float .f32 d],
      .tuple #[.agg #[.float .f32 p, .float .f32 q], .bool ok],
      .agg #[.float .f32 p, .float .f32 q],
      .bool ok,
      undef,
      undef,
      undef,
      undef,
      undef,
      undef,
      undef,
      undef,
      undef], defers := [] }) w2 := by
      rintro s w2 ⟨hb2, hr2, hs2⟩
      have Hb2 := Lib.hid hb2
      have r0 := hr2.cell 0 rfl
      have r1 := hr2.cell 1 rfl
      have s0 := hs2.cell 0 rfl
      have s1 := hs2.cell 1 rfl
      clear hb2 hr2 hs2
      apply hK2
      go_wp2_with fail
      refine (he _).mono ?_
      rintro e w3 ⟨rfl, hb3⟩
      have Hb3 := Lib.hid (Hb2.out.trans (hb3.mono Hb2.out.size))
      clear hb3
      go_wp2_with fail
      go_ret
      exact ⟨rfl, Hb3.out⟩
    have HQ2 := Lib.hid hQ2
    clear hQ2
    have HP := Lib.hid (show Par w.heap.size (w.heap.size + 1) a b c d w1 from ⟨b0, b1, b2, b3⟩)
    have n0 := World.new_ne w1 _ b0
    have n2 := World.new_ne w1 _ b2
    have nlt : w.heap.size + 1 < w1.heap.size := World.block_lt_of_cell? w1 _ b2
    have nr : r < w1.heap.size := HR.out.lt
    go_region_held (fun w' => w'.cell? ⟨w.heap.size, 0, none⟩ = some (.float .f32 a) ∧ w'.cell? ⟨w.heap.size, 1, none⟩ = some (.float .f32 b) ∧ w'.cell? ⟨w.heap.size + 1, 0, none⟩ = some (.float .f32 c) ∧ w'.cell? ⟨w.heap.size + 1, 1, none⟩ = some (.float .f32 d)) ((refine Par.out ?_; (repeat (first | (with_reducible refine Par.alloc ?_ _) | (with_reducible refine Par.drew ?_) | (with_reducible refine Par.setCell ?_ ?_ ?_ _))); all_goals first | exact HP.out | exact Hp9.out | omega | (simp; omega))) (first
      | (go_at_call 40; refine (toSpan_ex _ _ _).mono ?_; rintro e w' ⟨rfl, rfl⟩)
      | (go_at_call 37; refine (cI _).mono ?_; rintro e w9 ⟨rfl, hb9⟩; have hp9 : Par w.heap.size (w.heap.size + 1) a b c d w9 := Par.keep (by (repeat (first | (with_reducible refine Par.alloc ?_ _) | (with_reducible refine Par.drew ?_))); exact HP.out) hb9; have Hp9 := Lib.hid hp9; clear hp9; have hB9 : Below w1.heap.size w1 w9 := Below.trans (by go_grown) (hb9.mono (by simp; omega)); have HB9 := Lib.hid hB9; clear hB9; (first | (refine Blk.thenKeep (R := w1.heap.size) (vs := #[.float .f32 0, .float .f32 0]) (T := 32) ?_ hb9 ?_; (focus ((repeat (first | (with_reducible refine Blk.drew ?_) | (refine Blk.new ?_; (simp; done)) | (with_reducible refine Blk.alloc ?_ _))); done)); intro qb; have q0 := qb.cell 0 rfl; have q1 := qb.cell 1 rfl; have q2 := qb.free 0; have q3 := qb.free 1; have q4 := qb.lt; have Qb := Lib.hid qb; clear qb) | (refine Blk.thenKeep (R := w1.heap.size + 1 + 1 + 1) (vs := #[.float .f32 0, .float .f32 0]) (T := 32) ?_ hb9 ?_; (focus ((repeat (first | (with_reducible refine Blk.drew ?_) | (refine Blk.new ?_; (simp; done)) | (with_reducible refine Blk.alloc ?_ _))); done)); intro qb; have q0 := qb.cell 0 rfl; have q1 := qb.cell 1 rfl; have q2 := qb.free 0; have q3 := qb.free 1; have q4 := qb.lt; have Qb := Lib.hid qb; clear qb) | (refine Blk.thenKeep (R := w1.heap.size + 1 + 1 + 1 + 1 + 1 + 1) (vs := #[.float .f32 0, .float .f32 0]) (T := 32) ?_ hb9 ?_; (focus ((repeat (first | (with_reducible refine Blk.drew ?_) | (refine Blk.new ?_; (simp; done)) | (with_reducible refine Blk.alloc ?_ _))); done)); intro qb; have q0 := qb.cell 0 rfl; have q1 := qb.cell 1 rfl; have q2 := qb.free 0; have q3 := qb.free 1; have q4 := qb.lt; have Qb := Lib.hid qb; clear qb) | skip); clear hb9))
    all_goals
      refine HQ2.out _ _ ⟨?_, ?_, ?_⟩
      · have hb := Hb1.out.trans (HB9.out.mono Hb1.out.size)
        (repeat' (first | exact hb | refine Below.setCell ?_ ?_ _ | refine Below.alloc ?_ ?_ _ | exact Below.drew ?_))
        all_goals first | done | (simp; omega) | (have h1 := hb.size; have h2 := Hb1.out.size; simp; omega)
      · have hr9 := Blk.keep HR.out HB9.out
        (repeat' (first | exact hr9 | refine Blk.other ?_ ?_ _ | (with_reducible refine Blk.drew ?_) | (with_reducible refine Blk.alloc ?_ _)))
        all_goals first | done | (simp; omega)
      · first
          | exact (Blk.two Qb.out p q).2.2
          | (repeat (first | (with_reducible refine Blk.drew ?_) | (refine Blk.new ?_; (simp; done)) | (with_reducible refine Blk.alloc ?_ _)))
  have HQ := Lib.hid hQ
  clear hQ
  have HP := Lib.hid (show Par w.heap.size (w.heap.size + 1) a b c d w0 from ⟨b0, b1, b2, b3⟩)
  have n0 := World.new_ne w0 _ b0
  have n2 := World.new_ne w0 _ b2
  have nlt : w.heap.size + 1 < w0.heap.size := World.block_lt_of_cell? w0 _ b2
  go_region_held (fun w' => w'.cell? ⟨w.heap.size, 0, none⟩ = some (.float .f32 a) ∧ w'.cell? ⟨w.heap.size, 1, none⟩ = some (.float .f32 b) ∧ w'.cell? ⟨w.heap.size + 1, 0, none⟩ = some (.float .f32 c) ∧ w'.cell? ⟨w.heap.size + 1, 1, none⟩ = some (.float .f32 d)) ((refine Par.out ?_; (repeat (first | (with_reducible refine Par.alloc ?_ _) | (with_reducible refine Par.drew ?_) | (with_reducible refine Par.setCell ?_ ?_ ?_ _))); all_goals first | exact HP.out | exact Hp9.out | omega | (simp; omega))) (first
      | (go_at_call 40; refine (toSpan_ex _ _ _).mono ?_; rintro e w' ⟨rfl, rfl⟩)
      | (go_at_call 52; refine (cS _).mono ?_; rintro e w9 ⟨rfl, hb9⟩; have hp9 : Par w.heap.size (w.heap.size + 1) a b c d w9 := Par.keep (by (repeat (first | (with_reducible refine Par.alloc ?_ _) | (with_reducible refine Par.drew ?_))); exact HP.out) hb9; have Hp9 := Lib.hid hp9; clear hp9; have hB9 : Below w0.heap.size w0 w9 := Below.trans (by go_grown) (hb9.mono (by simp; omega)); have HB9 := Lib.hid hB9; clear hB9; (first | (refine Blk.thenKeep (R := w0.heap.size) (vs := #[.float .f32 0, .float .f32 0]) (T := 32) ?_ hb9 ?_; (focus ((repeat (first | (with_reducible refine Blk.drew ?_) | (refine Blk.new ?_; (simp; done)) | (with_reducible refine Blk.alloc ?_ _))); done)); intro qb; have q0 := qb.cell 0 rfl; have q1 := qb.cell 1 rfl; have q2 := qb.free 0; have q3 := qb.free 1; have q4 := qb.lt; have Qb := Lib.hid qb; clear qb) | (refine Blk.thenKeep (R := w0.heap.size + 1 + 1 + 1) (vs := #[.float .f32 0, .float .f32 0]) (T := 32) ?_ hb9 ?_; (focus ((repeat (first | (with_reducible refine Blk.drew ?_) | (refine Blk.new ?_; (simp; done)) | (with_reducible refine Blk.alloc ?_ _))); done)); intro qb; have q0 := qb.cell 0 rfl; have q1 := qb.cell 1 rfl; have q2 := qb.free 0; have q3 := qb.free 1; have q4 := qb.lt; have Qb := Lib.hid qb; clear qb) | (refine Blk.thenKeep (R := w0.heap.size + 1 + 1 + 1 + 1 + 1 + 1) (vs := #[.float .f32 0, .float .f32 0]) (T := 32) ?_ hb9 ?_; (focus ((repeat (first | (with_reducible refine Blk.drew ?_) | (refine Blk.new ?_; (simp; done)) | (with_reducible refine Blk.alloc ?_ _))); done)); intro qb; have q0 := qb.cell 0 rfl; have q1 := qb.cell 1 rfl; have q2 := qb.free 0; have q3 := qb.free 1; have q4 := qb.lt; have Qb := Lib.hid qb; clear qb) | skip); clear hb9))
  all_goals
    refine HQ.out _ _ ⟨?_, ?_, ?_⟩
    · have hb := Hb0.out.trans (HB9.out.mono Hb0.out.size)
      (repeat' (first | exact hb | refine Below.setCell ?_ ?_ _ | refine Below.alloc ?_ ?_ _ | exact Below.drew ?_))
      all_goals first | done | (simp; omega) | (have := hb.size; simp; omega)
    · (repeat (first | (with_reducible refine Par.alloc ?_ _) | (with_reducible refine Par.drew ?_) | (with_reducible refine Par.setCell ?_ ?_ ?_ _)))
      all_goals first | exact Hp9.out | omega | (simp; omega)
    · first
        | exact (Blk.two Qb.out p q).2.2
        | (repeat (first | (with_reducible refine Blk.drew ?_) | (refine Blk.new ?_; (simp; done)) | (with_reducible refine Blk.alloc ?_ _)))
end Go.Proofs.Ytjmmcpeknaaaiaa.fnExactHullSpans
