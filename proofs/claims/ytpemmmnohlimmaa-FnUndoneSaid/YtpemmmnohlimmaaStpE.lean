/- The draw of a turn, of a step: valid ones. -/
import Derived.Test.YtpemmmnohlimmaaStpD
import Derived.Test.YtpemmmnohlimmaaStp
import Derived.Deep.RegionWith
namespace Go.Proofs.Ytpemmmnohlimmaa.Drw
open Go.ChangeShapes Go.WideShapes Go.ChangeAt Go.RowKit Go.Proofs.Ytpemmmnohlimmaa Go.Proofs.Ytpemmmnohlimmaa.Flt Go.Proofs.Ytpemmmnohlimmaa.Mth Go.Proofs.Ytpemmmnohlimmaa.Trn Go.Proofs.Ytpemmmnohlimmaa.Stp
open Ieee (single double)
set_option linter.unusedVariables false
theorem only_new {B : Nat} {a w : World} (h : Only B a w) {R : Nat} (hR : a.heap.size ≤ R) (o : Nat) (u : Value) : Only B a (w.setCell ⟨R, o, none⟩ u) :=
  ⟨h.os, h.tape, h.output, by simpa [World.setCell] using h.size, fun k hk hn => (Below.heap_setCell _ _ _ _ (by show k ≠ R; omega)).trans (h.block k hk hn)⟩
theorem cur_set {base B : Nat} {w : World} (hc : Cur base w B) {R : Nat} (hR : base ≤ R) (hn : R ≠ B) (o : Nat) (u : Value) : Cur base (w.setCell ⟨R, o, none⟩ u) B := by
  obtain ⟨hB, a, len, cap, zs, i, h, hb, h0, h1, hr, ha⟩ := hc
  exact Cur.mk' hB hr ha (Below.setCell (Below.refl _ _) hR _) h0 h1 ((Below.heap_setCell _ _ _ _ (by show B ≠ R; omega)).trans hb)
theorem blk_cell {w : World} {R : Nat} {vs : Array Value} {T : TypeId} (h : w.heap[R]? = some (.cells vs T (0, 0))) (j : Nat) : w.cell? ⟨R, j, none⟩ = vs[j]? := cell_of_row w R j vs T (0, 0) h
theorem blk_free {w : World} {R : Nat} {vs : Array Value} {T : TypeId} (h : w.heap[R]? = some (.cells vs T (0, 0))) (j : Nat) : w.frozen? ⟨R, j, none⟩ = false := by simp [World.frozen?, h]
theorem blk_set {w : World} {R : Nat} {vs : Array Value} {T : TypeId} {v : Value} (h : w.heap[R]? = some (.cells vs T (0, 0))) (j : Nat) (hj : j < vs.size) : (w.setCell ⟨R, j, none⟩ v).cell? ⟨R, j, none⟩ = some v := by
  rw [blk_cell (block_setCell h v) j]
  simp [hj]
set_option maxHeartbeats 800000 in
theorem turn_any (base B : Nat) (w : World) (hc : Cur base w B) :
    Calls Try.prog 36 #[.pointer (some ⟨B, 0, none⟩)] w (TrnOut base B w) := by
  have hBw := hc.lt
  have hBb := hc.hB
  have Hn := Lib.hid (And.intro (hc.alloc (.cells #[.int .i64 0, .int .i64 0] 43)) (And.intro ((Only.refl B w).alloc (.cells #[.int .i64 0, .int .i64 0] 43)) (block_new w (.cells #[.int .i64 0, .int .i64 0] 43))))
  have hsz : (w.alloc (.cells #[.int .i64 0, .int .i64 0] 43)).heap.size = w.heap.size + 1 := World.size_alloc _ _
  clear hc
  go_enter Try.func36, Try.ntmps36
  go_wp2_with fail
  refine (below_any base B 4 _ Hn.out.1 (by omega)).mono ?_
  rintro e w1 ⟨q, q0, q1, rfl, hc1, ho1⟩
  have q2 := q1 (by omega)
  have Hc1 := Lib.hid hc1
  have Ho1 := Lib.hid (Hn.out.2.1.trans ho1)
  have Hb1 := Lib.hid ((ho1.block w.heap.size (by omega) (by omega)).trans Hn.out.2.2)
  have hs1 := ho1.size
  clear hc1 ho1 q1 Hn
  go_wp2_with fail
  have hlt := Hc1.out.lt
  refine (pick_q (fun p => -60 ≤ p ∧ p ≤ 60) base B w1.heap.size 9 _ _ _ (Hc1.out.alloc _) (by omega) (by omega) (block_new _ _) (by omega) (nine_q (by omega) (by omega) (by omega) (by omega) (by omega) (by omega) (by omega) (by omega) (by omega))).mono ?_
  rintro e w2 ⟨p, hp, rfl, hc2, ho2⟩
  have hb2 := (ho2.block w.heap.size (by rw [World.size_alloc]; omega) (by omega)).trans (((Below.refl w1.heap.size w1).alloc (Nat.le_refl _) _).block w.heap.size (by omega) |>.trans Hb1.out)
  have c0 : w2.cell? ⟨w.heap.size, 0, none⟩ = some (.int .i64 0) := blk_cell hb2 0
  have c1 : w2.cell? ⟨w.heap.size, 1, none⟩ = some (.int .i64 0) := blk_cell hb2 1
  have f0 := blk_free hb2 0
  have f1 := blk_free hb2 1
  have Hc2 := Lib.hid hc2
  have Ho2 := Lib.hid ((Ho1.out.alloc _).trans ho2)
  have hb2' := hb2
  clear hc2 ho2 hlt hb2 Hb1
  go_wp2_with fail
  have d0 : (w2.setCell ⟨w.heap.size, 0, none⟩ (.int .i64 q)).cell? ⟨w.heap.size, 0, none⟩ = some (.int .i64 q) := blk_set hb2' 0 (by decide)
  have d1 : ((w2.setCell ⟨w.heap.size, 0, none⟩ (.int .i64 q)).setCell ⟨w.heap.size, 1, none⟩ (.int .i64 p)).cell? ⟨w.heap.size, 1, none⟩ = some (.int .i64 p) := blk_set (block_setCell hb2' _) 1 (by simp)
  refine bodyPost_ret (by simp [results, Try.results36, go_sem, d0, d1]; try rfl) rfl ?_
  exact ⟨q, p, okT_iff.2 (by omega), rfl, cur_set (cur_set Hc2.out (by omega) (by omega) _ _) (by omega) (by omega) _ _, only_new (only_new Ho2.out (Nat.le_refl _) _ _) (Nat.le_refl _) _ _⟩
end Go.Proofs.Ytpemmmnohlimmaa.Drw
