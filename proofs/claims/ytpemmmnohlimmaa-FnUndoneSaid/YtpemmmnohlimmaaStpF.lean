/- The draw of a step: a valid one. -/
import Derived.Test.YtpemmmnohlimmaaStpE
namespace Go.Proofs.Ytpemmmnohlimmaa.Drw
open Go.ChangeShapes Go.WideShapes Go.ChangeAt Go.RowKit Go.Proofs.Ytpemmmnohlimmaa Go.Proofs.Ytpemmmnohlimmaa.Flt Go.Proofs.Ytpemmmnohlimmaa.Mth Go.Proofs.Ytpemmmnohlimmaa.Cpx Go.Proofs.Ytpemmmnohlimmaa.Trn Go.Proofs.Ytpemmmnohlimmaa.Stp
open Ieee (single double)
set_option linter.unusedVariables false
/-- a valid step -/
def StpOut (base B : Nat) (w : World) (e : Ending) (w' : World) : Prop := ∃ s : Stp, s.ok = true ∧ (s.x < 18446744073709551616 ∧ s.y < 18446744073709551616) ∧ e = .returned (.agg s.c) ∧ Cur base w' B ∧ Only B w w'
/-- a step that is being drawn lies in block S, the result in the block that w ends before -/
structure St (base B : Nat) (w : World) (S : Nat) (k : Int) (x y : Nat) (q p : Int) (W : World) : Prop where
  s : W.heap[S]? = some (.cells #[.int .i64 k, .complex .f64 x y, .int .i64 q, .int .i64 p] 45 (0, 0))
  r : W.heap[w.heap.size]? = some (.cells #[.int .i64 0, .complex .f64 0 0, .int .i64 0, .int .i64 0] 45 (0, 0))
  c : Cur base W B
  o : Only B w W
  l : w.heap.size < S
  b : B < w.heap.size
theorem St.call {base B : Nat} {w : World} {S : Nat} {k : Int} {x y : Nat} {q p : Int} {W W' : World} (h : St base B w S k x y q p W) (hc : Cur base W' B) (ho : Only B W W') : St base B w S k x y q p W' := by
  have := h.l
  have := h.b
  exact ⟨(ho.block S (lt_of_block h.s) (by omega)).trans h.s, (ho.block _ (lt_of_block h.r) (by omega)).trans h.r, hc, h.o.trans ho, h.l, h.b⟩
theorem St.set1 {base B : Nat} {w : World} {S : Nat} {k : Int} {x y : Nat} {q p : Int} {W : World} (h : St base B w S k x y q p W) (u v : Nat) : St base B w S k u v q p (W.setCell ⟨S, 1, none⟩ (.complex .f64 u v)) := by
  have h1 := h.l
  have h2 := h.b
  have h3 := h.c.hB
  refine ⟨?_, (Below.heap_setCell _ _ _ _ (by show w.heap.size ≠ S; omega)).trans h.r, cur_set h.c (by omega) (by omega) _ _, only_new h.o (by omega) _ _, h1, h2⟩
  rw [block_setCell h.s]; rfl
theorem St.setT {base B : Nat} {w : World} {S : Nat} {k : Int} {x y : Nat} {q p : Int} {W : World} (h : St base B w S k x y q p W) (u v : Int) : St base B w S k x y u v ((W.setCell ⟨S, 2, none⟩ (.int .i64 u)).setCell ⟨S, 3, none⟩ (.int .i64 v)) := by
  have h1 := h.l
  have h2 := h.b
  have h3 := h.c.hB
  refine ⟨?_, (Below.heap_setCell _ _ _ _ (by show w.heap.size ≠ S; omega)).trans ((Below.heap_setCell _ _ _ _ (by show w.heap.size ≠ S; omega)).trans h.r), cur_set (cur_set h.c (by omega) (by omega) _ _) (by omega) (by omega) _ _, only_new (only_new h.o (by omega) _ _) (by omega) _ _, h1, h2⟩
  rw [block_setCell (block_setCell h.s _)]; rfl
theorem St.cells {base B : Nat} {w : World} {S : Nat} {k : Int} {x y : Nat} {q p : Int} {W : World} (h : St base B w S k x y q p W) :
    (W.cell? ⟨S, 0, none⟩ = some (.int .i64 k) ∧ W.cell? ⟨S, 1, none⟩ = some (.complex .f64 x y) ∧ W.cell? ⟨S, 2, none⟩ = some (.int .i64 q) ∧ W.cell? ⟨S, 3, none⟩ = some (.int .i64 p)) ∧
    (W.cell? ⟨w.heap.size, 0, none⟩ = some (.int .i64 0) ∧ W.cell? ⟨w.heap.size, 1, none⟩ = some (.complex .f64 0 0) ∧ W.cell? ⟨w.heap.size, 2, none⟩ = some (.int .i64 0) ∧ W.cell? ⟨w.heap.size, 3, none⟩ = some (.int .i64 0)) ∧
    (∀ j, W.frozen? ⟨S, j, none⟩ = false) ∧ (∀ j, W.frozen? ⟨w.heap.size, j, none⟩ = false) ∧ S ≠ w.heap.size ∧ w.heap.size ≠ S := by
  have := h.l
  exact ⟨⟨blk_cell h.s 0, blk_cell h.s 1, blk_cell h.s 2, blk_cell h.s 3⟩, ⟨blk_cell h.r 0, blk_cell h.r 1, blk_cell h.r 2, blk_cell h.r 3⟩, blk_free h.s, blk_free h.r, by omega, by omega⟩
/-- the step is handed back -/
theorem St.fin {base B : Nat} {w : World} {S : Nat} {k : Int} {x y : Nat} {q p : Int} {W : World} (h : St base B w S k x y q p W) :
    (W.setCell ⟨w.heap.size, 0, none⟩ (.int .i64 k)).cell? ⟨w.heap.size, 0, none⟩ = some (.int .i64 k) ∧
    ((W.setCell ⟨w.heap.size, 0, none⟩ (.int .i64 k)).setCell ⟨w.heap.size, 1, none⟩ (.complex .f64 x y)).cell? ⟨w.heap.size, 1, none⟩ = some (.complex .f64 x y) ∧
    (((W.setCell ⟨w.heap.size, 0, none⟩ (.int .i64 k)).setCell ⟨w.heap.size, 1, none⟩ (.complex .f64 x y)).setCell ⟨w.heap.size, 2, none⟩ (.int .i64 q)).cell? ⟨w.heap.size, 2, none⟩ = some (.int .i64 q) ∧
    ((((W.setCell ⟨w.heap.size, 0, none⟩ (.int .i64 k)).setCell ⟨w.heap.size, 1, none⟩ (.complex .f64 x y)).setCell ⟨w.heap.size, 2, none⟩ (.int .i64 q)).setCell ⟨w.heap.size, 3, none⟩ (.int .i64 p)).cell? ⟨w.heap.size, 3, none⟩ = some (.int .i64 p) ∧
    Cur base ((((W.setCell ⟨w.heap.size, 0, none⟩ (.int .i64 k)).setCell ⟨w.heap.size, 1, none⟩ (.complex .f64 x y)).setCell ⟨w.heap.size, 2, none⟩ (.int .i64 q)).setCell ⟨w.heap.size, 3, none⟩ (.int .i64 p)) B ∧
    Only B w ((((W.setCell ⟨w.heap.size, 0, none⟩ (.int .i64 k)).setCell ⟨w.heap.size, 1, none⟩ (.complex .f64 x y)).setCell ⟨w.heap.size, 2, none⟩ (.int .i64 q)).setCell ⟨w.heap.size, 3, none⟩ (.int .i64 p)) := by
  have h2 := h.b
  have h3 := h.c.hB
  have b1 := block_setCell (o := 0) h.r (.int .i64 k)
  have b2 := block_setCell (o := 1) b1 (.complex .f64 x y)
  have b3 := block_setCell (o := 2) b2 (.int .i64 q)
  exact ⟨blk_set h.r 0 (by decide), blk_set b1 1 (by simp), blk_set b2 2 (by simp), blk_set b3 3 (by simp),
    cur_set (cur_set (cur_set (cur_set h.c (by omega) (by omega) _ _) (by omega) (by omega) _ _) (by omega) (by omega) _ _) (by omega) (by omega) _ _,
    only_new (only_new (only_new (only_new h.o (Nat.le_refl _) _ _) (Nat.le_refl _) _ _) (Nat.le_refl _) _ _) (Nat.le_refl _) _ _⟩
theorem St.start {base B : Nat} {w w1 : World} (k : Int) (hc : Cur base w B) (hc1 : Cur base w1 B) (ho : Only B (w.alloc (.cells #[.int .i64 0, .complex .f64 0 0, .int .i64 0, .int .i64 0] 45)) w1) :
    St base B w w1.heap.size k 0 0 0 0 (w1.alloc (.cells #[.int .i64 k, .complex .f64 0 0, .int .i64 0, .int .i64 0] 45)) := by
  have hb := hc.lt
  have hs := ho.size
  rw [World.size_alloc] at hs
  have hr := (ho.block w.heap.size (by rw [World.size_alloc]; omega) (by omega)).trans (block_new w _)
  exact ⟨block_new w1 _, (((Below.refl w1.heap.size w1).alloc (Nat.le_refl _) _).block w.heap.size (by omega)).trans hr, hc1.alloc _, (((Only.refl B w).alloc _).trans ho).alloc _, by omega, hb⟩
theorem ok123 {k : Int} {x y : Nat} (hk : k = 1 ∨ k = 2 ∨ k = 3) (fx : isFinD x = true) (fy : isFinD y = true) : (Stp.mk k x y 0 0).ok = true := by
  unfold Stp.ok
  simp only
  rw [if_pos hk, fx, fy]; rfl
theorem ok4 {x y : Nat} (fx : isFinD x = true) (fy : isFinD y = true) (hz : isZ x y = false) : (Stp.mk 4 x y 0 0).ok = true := by
  unfold Stp.ok
  simp only
  rw [if_neg (by omega), if_pos trivial, fx, fy, hz]; rfl
theorem ok7 {q p : Int} (h : okT q p = true) : (Stp.mk 7 0 0 q p).ok = true := by
  unfold Stp.ok
  simp only
  rw [if_neg (by omega), if_neg (by omega), if_neg (by omega), if_pos trivial, h, Bool.and_true]
  decide +kernel
theorem bigF : isFinD 7598952565167317594 = true ∧ isFinD 16822324602022093402 = true := by decide +kernel
theorem bigW : 7598952565167317594 < 18446744073709551616 ∧ 16822324602022093402 < 18446744073709551616 := by decide
theorem bigZ : isZ 7598952565167317594 16822324602022093402 = false := by decide +kernel
theorem twoF : isFinD 4611686018427387904 = true ∧ isFinD 0 = true := by decide +kernel
theorem twoW : 4611686018427387904 < 18446744073709551616 ∧ 0 < 18446744073709551616 := by decide
theorem zeroW : 0 < 18446744073709551616 ∧ 0 < 18446744073709551616 := by decide
theorem twoZ : isZ 4611686018427387904 0 = false := by decide +kernel
set_option maxRecDepth 20000 in
set_option maxHeartbeats 3200000 in
theorem step_any (base B : Nat) (w : World) (hc : Cur base w B) :
    Calls Try.prog 28 #[.pointer (some ⟨B, 0, none⟩)] w (StpOut base B w) := by
  go_enter Try.func28, Try.ntmps28
  go_wp2_with fail
  refine (below_any base B 7 _ (hc.alloc _) (by omega)).mono ?_
  rintro e w1 ⟨r, r0, r1, rfl, hc1, ho1⟩
  have r2 := r1 (by omega)
  clear r1
  obtain rfl | rfl | rfl | rfl | rfl | rfl | rfl : r = 0 ∨ r = 1 ∨ r = 2 ∨ r = 3 ∨ r = 4 ∨ r = 5 ∨ r = 6 := by omega
  · have HS := Lib.hid (St.start (base := base) 1 hc hc1 ho1)
    clear hc hc1 ho1 r0 r2
    obtain ⟨⟨a0, a1, a2, a3⟩, ⟨c0, c1, c2, c3⟩, fs, fr, hne, hne2⟩ := HS.out.cells
    go_wp2_with fail
    refine (mildZ_any base B _ HS.out.c).mono ?_
    rintro e w2 ⟨x, y, ⟨⟨wx, fx⟩, wy, fy⟩, rfl, hc2, ho2⟩
    have H2 := Lib.hid (HS.out.call hc2 ho2)
    clear hc2 ho2 a0 a1 a2 a3 c0 c1 c2 c3 fs fr hne hne2
    obtain ⟨⟨a0, a1, a2, a3⟩, ⟨c0, c1, c2, c3⟩, fs, fr, hne, hne2⟩ := H2.out.cells
    have H3 := Lib.hid (H2.out.set1 x y)
    have Hx := Lib.hid (And.intro (And.intro fx fy) (And.intro wx wy))
    clear fx fy wx wy
    go_wp2_with fail
    refine (once_any' base B 8 _ H3.out.c (by omega)).mono ?_
    rintro e w3 ⟨bb, rfl, hc3, ho3⟩
    have H4 := Lib.hid (H3.out.call hc3 ho3)
    clear hc3 ho3 a0 a1 a2 a3 c0 c1 c2 c3 fs fr hne hne2
    obtain ⟨⟨a0, a1, a2, a3⟩, ⟨c0, c1, c2, c3⟩, fs, fr, hne, hne2⟩ := H4.out.cells
    cases bb
    · obtain ⟨d0, d1, d2, d3, hcf, hof⟩ := H4.out.fin
      have Hf := Lib.hid (And.intro hcf hof)
      clear hcf hof
      go_wp2_with fail
      refine bodyPost_ret (by simp [results, Try.results28, go_sem, d0, d1, d2, d3]; try rfl) rfl ?_
      exact ⟨⟨1, x, y, 0, 0⟩, ok123 (by omega) Hx.out.1.1 Hx.out.1.2, Hx.out.2, rfl, Hf.out.1, Hf.out.2⟩
    · have H5 := Lib.hid (H4.out.set1 7598952565167317594 16822324602022093402)
      obtain ⟨⟨b0, b1, b2, b3⟩, ⟨e0, e1, e2, e3⟩, gs, gr, _, _⟩ := H5.out.cells
      obtain ⟨d0, d1, d2, d3, hcf, hof⟩ := H5.out.fin
      have Hf := Lib.hid (And.intro hcf hof)
      clear hcf hof
      go_wp2_with fail
      refine bodyPost_ret (by simp [results, Try.results28, go_sem, d0, d1, d2, d3]; try rfl) rfl ?_
      exact ⟨⟨1, 7598952565167317594, 16822324602022093402, 0, 0⟩, ok123 (by omega) bigF.1 bigF.2, bigW, rfl, Hf.out.1, Hf.out.2⟩
  · have HS := Lib.hid (St.start (base := base) 2 hc hc1 ho1)
    clear hc hc1 ho1 r0 r2
    obtain ⟨⟨a0, a1, a2, a3⟩, ⟨c0, c1, c2, c3⟩, fs, fr, hne, hne2⟩ := HS.out.cells
    go_wp2_with fail
    refine (mildZ_any base B _ HS.out.c).mono ?_
    rintro e w2 ⟨x, y, ⟨⟨wx, fx⟩, wy, fy⟩, rfl, hc2, ho2⟩
    have H2 := Lib.hid (HS.out.call hc2 ho2)
    clear hc2 ho2 a0 a1 a2 a3 c0 c1 c2 c3 fs fr hne hne2
    obtain ⟨⟨a0, a1, a2, a3⟩, ⟨c0, c1, c2, c3⟩, fs, fr, hne, hne2⟩ := H2.out.cells
    have H3 := Lib.hid (H2.out.set1 x y)
    have Hx := Lib.hid (And.intro (And.intro fx fy) (And.intro wx wy))
    clear fx fy wx wy
    go_wp2_with fail
    refine (once_any' base B 8 _ H3.out.c (by omega)).mono ?_
    rintro e w3 ⟨bb, rfl, hc3, ho3⟩
    have H4 := Lib.hid (H3.out.call hc3 ho3)
    clear hc3 ho3 a0 a1 a2 a3 c0 c1 c2 c3 fs fr hne hne2
    obtain ⟨⟨a0, a1, a2, a3⟩, ⟨c0, c1, c2, c3⟩, fs, fr, hne, hne2⟩ := H4.out.cells
    cases bb
    · obtain ⟨d0, d1, d2, d3, hcf, hof⟩ := H4.out.fin
      have Hf := Lib.hid (And.intro hcf hof)
      clear hcf hof
      go_wp2_with fail
      refine bodyPost_ret (by simp [results, Try.results28, go_sem, d0, d1, d2, d3]; try rfl) rfl ?_
      exact ⟨⟨2, x, y, 0, 0⟩, ok123 (by omega) Hx.out.1.1 Hx.out.1.2, Hx.out.2, rfl, Hf.out.1, Hf.out.2⟩
    · have H5 := Lib.hid (H4.out.set1 7598952565167317594 16822324602022093402)
      obtain ⟨⟨b0, b1, b2, b3⟩, ⟨e0, e1, e2, e3⟩, gs, gr, _, _⟩ := H5.out.cells
      obtain ⟨d0, d1, d2, d3, hcf, hof⟩ := H5.out.fin
      have Hf := Lib.hid (And.intro hcf hof)
      clear hcf hof
      go_wp2_with fail
      refine bodyPost_ret (by simp [results, Try.results28, go_sem, d0, d1, d2, d3]; try rfl) rfl ?_
      exact ⟨⟨2, 7598952565167317594, 16822324602022093402, 0, 0⟩, ok123 (by omega) bigF.1 bigF.2, bigW, rfl, Hf.out.1, Hf.out.2⟩
  · have HS := Lib.hid (St.start (base := base) 3 hc hc1 ho1)
    clear hc hc1 ho1 r0 r2
    obtain ⟨⟨a0, a1, a2, a3⟩, ⟨c0, c1, c2, c3⟩, fs, fr, hne, hne2⟩ := HS.out.cells
    go_wp2_with fail
    refine (mildZ_any base B _ HS.out.c).mono ?_
    rintro e w2 ⟨x, y, ⟨⟨wx, fx⟩, wy, fy⟩, rfl, hc2, ho2⟩
    have H2 := Lib.hid (HS.out.call hc2 ho2)
    clear hc2 ho2 a0 a1 a2 a3 c0 c1 c2 c3 fs fr hne hne2
    obtain ⟨⟨a0, a1, a2, a3⟩, ⟨c0, c1, c2, c3⟩, fs, fr, hne, hne2⟩ := H2.out.cells
    have H3 := Lib.hid (H2.out.set1 x y)
    have Hx := Lib.hid (And.intro (And.intro fx fy) (And.intro wx wy))
    clear fx fy wx wy
    go_wp2_with fail
    refine (once_any' base B 8 _ H3.out.c (by omega)).mono ?_
    rintro e w3 ⟨bb, rfl, hc3, ho3⟩
    have H4 := Lib.hid (H3.out.call hc3 ho3)
    clear hc3 ho3 a0 a1 a2 a3 c0 c1 c2 c3 fs fr hne hne2
    obtain ⟨⟨a0, a1, a2, a3⟩, ⟨c0, c1, c2, c3⟩, fs, fr, hne, hne2⟩ := H4.out.cells
    cases bb
    · obtain ⟨d0, d1, d2, d3, hcf, hof⟩ := H4.out.fin
      have Hf := Lib.hid (And.intro hcf hof)
      clear hcf hof
      go_wp2_with fail
      refine bodyPost_ret (by simp [results, Try.results28, go_sem, d0, d1, d2, d3]; try rfl) rfl ?_
      exact ⟨⟨3, x, y, 0, 0⟩, ok123 (by omega) Hx.out.1.1 Hx.out.1.2, Hx.out.2, rfl, Hf.out.1, Hf.out.2⟩
    · have H5 := Lib.hid (H4.out.set1 7598952565167317594 16822324602022093402)
      obtain ⟨⟨b0, b1, b2, b3⟩, ⟨e0, e1, e2, e3⟩, gs, gr, _, _⟩ := H5.out.cells
      obtain ⟨d0, d1, d2, d3, hcf, hof⟩ := H5.out.fin
      have Hf := Lib.hid (And.intro hcf hof)
      clear hcf hof
      go_wp2_with fail
      refine bodyPost_ret (by simp [results, Try.results28, go_sem, d0, d1, d2, d3]; try rfl) rfl ?_
      exact ⟨⟨3, 7598952565167317594, 16822324602022093402, 0, 0⟩, ok123 (by omega) bigF.1 bigF.2, bigW, rfl, Hf.out.1, Hf.out.2⟩
  · have HS := Lib.hid (St.start (base := base) 4 hc hc1 ho1)
    clear hc hc1 ho1 r0 r2
    obtain ⟨⟨a0, a1, a2, a3⟩, ⟨c0, c1, c2, c3⟩, fs, fr, hne, hne2⟩ := HS.out.cells
    go_wp2_with fail
    refine (mildZ_any base B _ HS.out.c).mono ?_
    rintro e w2 ⟨x, y, ⟨⟨wx, fx⟩, wy, fy⟩, rfl, hc2, ho2⟩
    have H2 := Lib.hid (HS.out.call hc2 ho2)
    clear hc2 ho2 a0 a1 a2 a3 c0 c1 c2 c3 fs fr hne hne2
    obtain ⟨⟨a0, a1, a2, a3⟩, ⟨c0, c1, c2, c3⟩, fs, fr, hne, hne2⟩ := H2.out.cells
    have H3 := Lib.hid (H2.out.set1 x y)
    have Hx := Lib.hid (And.intro (And.intro fx fy) (And.intro wx wy))
    clear fx fy wx wy
    go_wp2_with fail
    refine (once_any' base B 8 _ H3.out.c (by omega)).mono ?_
    rintro e w3 ⟨bb, rfl, hc3, ho3⟩
    have H4 := Lib.hid (H3.out.call hc3 ho3)
    clear hc3 ho3 a0 a1 a2 a3 c0 c1 c2 c3 fs fr hne hne2
    obtain ⟨⟨a0, a1, a2, a3⟩, ⟨c0, c1, c2, c3⟩, fs, fr, hne, hne2⟩ := H4.out.cells
    cases bb
    · have kz := fun W => run_ceq (P := Try.prog) 25 x y 0 0 W
      rw [show (eqW Ieee.double x 0 && eqW Ieee.double y 0) = isZ x y from rfl] at kz
      cases hz : isZ x y
      · rw [hz] at kz
        have Hz := Lib.hid hz
        clear hz
        obtain ⟨d0, d1, d2, d3, hcf, hof⟩ := H4.out.fin
        have Hf := Lib.hid (And.intro hcf hof)
        clear hcf hof
        go_wp2_with fail
        refine bodyPost_ret (by simp [results, Try.results28, go_sem, d0, d1, d2, d3]; try rfl) rfl ?_
        exact ⟨⟨4, x, y, 0, 0⟩, ok4 Hx.out.1.1 Hx.out.1.2 Hz.out, Hx.out.2, rfl, Hf.out.1, Hf.out.2⟩
      · rw [hz] at kz
        clear hz
        have H5 := Lib.hid (H4.out.set1 4611686018427387904 0)
        obtain ⟨⟨b0, b1, b2, b3⟩, ⟨e0, e1, e2, e3⟩, gs, gr, _, _⟩ := H5.out.cells
        obtain ⟨d0, d1, d2, d3, hcf, hof⟩ := H5.out.fin
        have Hf := Lib.hid (And.intro hcf hof)
        clear hcf hof
        go_wp2_with fail
        refine bodyPost_ret (by simp [results, Try.results28, go_sem, d0, d1, d2, d3]; try rfl) rfl ?_
        exact ⟨⟨4, 4611686018427387904, 0, 0, 0⟩, ok4 twoF.1 twoF.2 twoZ, twoW, rfl, Hf.out.1, Hf.out.2⟩
    · have kz := fun W => run_ceq (P := Try.prog) 25 7598952565167317594 16822324602022093402 0 0 W
      rw [show (eqW Ieee.double 7598952565167317594 0 && eqW Ieee.double 16822324602022093402 0) = isZ 7598952565167317594 16822324602022093402 from rfl, bigZ] at kz
      have H5 := Lib.hid (H4.out.set1 7598952565167317594 16822324602022093402)
      obtain ⟨⟨b0, b1, b2, b3⟩, ⟨e0, e1, e2, e3⟩, gs, gr, _, _⟩ := H5.out.cells
      obtain ⟨d0, d1, d2, d3, hcf, hof⟩ := H5.out.fin
      have Hf := Lib.hid (And.intro hcf hof)
      clear hcf hof
      go_wp2_with fail
      refine bodyPost_ret (by simp [results, Try.results28, go_sem, d0, d1, d2, d3]; try rfl) rfl ?_
      exact ⟨⟨4, 7598952565167317594, 16822324602022093402, 0, 0⟩, ok4 bigF.1 bigF.2 bigZ, bigW, rfl, Hf.out.1, Hf.out.2⟩
  · have HS := Lib.hid (St.start (base := base) 5 hc hc1 ho1)
    clear hc hc1 ho1 r0 r2
    obtain ⟨⟨a0, a1, a2, a3⟩, ⟨c0, c1, c2, c3⟩, fs, fr, hne, hne2⟩ := HS.out.cells
    obtain ⟨d0, d1, d2, d3, hcf, hof⟩ := HS.out.fin
    have Hf := Lib.hid (And.intro hcf hof)
    clear hcf hof
    go_wp2_with fail
    refine bodyPost_ret (by simp [results, Try.results28, go_sem, d0, d1, d2, d3]; try rfl) rfl ?_
    exact ⟨⟨5, 0, 0, 0, 0⟩, by decide +kernel, ⟨by decide, by decide⟩, rfl, Hf.out.1, Hf.out.2⟩
  · have HS := Lib.hid (St.start (base := base) 6 hc hc1 ho1)
    clear hc hc1 ho1 r0 r2
    obtain ⟨⟨a0, a1, a2, a3⟩, ⟨c0, c1, c2, c3⟩, fs, fr, hne, hne2⟩ := HS.out.cells
    obtain ⟨d0, d1, d2, d3, hcf, hof⟩ := HS.out.fin
    have Hf := Lib.hid (And.intro hcf hof)
    clear hcf hof
    go_wp2_with fail
    refine bodyPost_ret (by simp [results, Try.results28, go_sem, d0, d1, d2, d3]; try rfl) rfl ?_
    exact ⟨⟨6, 0, 0, 0, 0⟩, by decide +kernel, ⟨by decide, by decide⟩, rfl, Hf.out.1, Hf.out.2⟩
  · have HS := Lib.hid (St.start (base := base) 7 hc hc1 ho1)
    clear hc hc1 ho1 r0 r2
    obtain ⟨⟨a0, a1, a2, a3⟩, ⟨c0, c1, c2, c3⟩, fs, fr, hne, hne2⟩ := HS.out.cells
    go_wp2_with fail
    refine (turn_any base B _ HS.out.c).mono ?_
    rintro e w2 ⟨q, p, hq, rfl, hc2, ho2⟩
    have H2 := Lib.hid (HS.out.call hc2 ho2)
    have Hq := Lib.hid (ok7 hq)
    clear hc2 ho2 hq a0 a1 a2 a3 c0 c1 c2 c3 fs fr hne hne2
    obtain ⟨⟨a0, a1, a2, a3⟩, ⟨c0, c1, c2, c3⟩, fs, fr, hne, hne2⟩ := H2.out.cells
    have H3 := Lib.hid (H2.out.setT q p)
    obtain ⟨⟨b0, b1, b2, b3⟩, ⟨e0, e1, e2, e3⟩, gs, gr, _, _⟩ := H3.out.cells
    obtain ⟨d0, d1, d2, d3, hcf, hof⟩ := H3.out.fin
    have Hf := Lib.hid (And.intro hcf hof)
    clear hcf hof
    go_wp2_with fail
    refine bodyPost_ret (by simp [results, Try.results28, go_sem, d0, d1, d2, d3]; try rfl) rfl ?_
    exact ⟨⟨7, 0, 0, q, p⟩, Hq.out, zeroW, rfl, Hf.out.1, Hf.out.2⟩
end Go.Proofs.Ytpemmmnohlimmaa.Drw
