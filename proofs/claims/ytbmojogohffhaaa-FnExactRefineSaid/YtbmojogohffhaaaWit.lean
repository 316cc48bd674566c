/- withPoint: a point at its place. -/
import Derived.Test.YtbmojogohffhaaaCpy
import Derived.Test.YtbmojogohffhaaaSegI
import Derived.Test.YtbmojogohffhaaaSclI
namespace Go.Proofs.Ytbmojogohffhaaa.Pnt
open Go.ChangeShapes Go.WideShapes Go.ChangeAt Go.RowKit Go.Deep Go.Proofs.Ytbmojogohffhaaa Go.Proofs.Ytbmojogohffhaaa.Flt Go.Proofs.Ytbmojogohffhaaa.Mth
open Ieee (single double)
set_option linter.unusedVariables false
/-- the place of a new point -/
def insAt (n : Nat) (Z : Nat → Nat) (x : Nat) : Nat := fstN n Z (fun a _ => geB a x)
/-- there is a point already -/
def insH (n : Nat) (Z : Nat → Nat) (x : Nat) : Bool := decide (insAt n Z x < n) && eqB (Z (insAt n Z x * 2)) x
def insN (n : Nat) (Z : Nat → Nat) (x : Nat) : Nat := if insH n Z x = true then n else n + 1
/-- the cells with a new point at place 'p' -/
def insC (Z : Nat → Nat) (p x y : Nat) (j : Nat) : Nat := if j < p * 2 then Z j else if j = p * 2 then x else if j = p * 2 + 1 then y else Z (j - 2)
def insX (n : Nat) (Z : Nat → Nat) (x y : Nat) : Nat → Nat := if insH n Z x = true then Z else insC Z (insAt n Z x) x y
theorem insAt_le (n : Nat) (Z : Nat → Nat) (x : Nat) : insAt n Z x ≤ n := (fstN_spec n Z _).1
theorem enter_at (args : Array Value) (w : World) : (callFunc 71 args).run Try.prog w = .ok (.enter 71 args) w := run_enter ⟨_, _, Try.func71, by kernel_rfl, rfl⟩ args w
theorem atp_any (C x0 y0 x y : Nat) (w : World) (hb : w.heap[C]? = some (.cells #[.float .f32 x0, .float .f32 y0] 32 (0, 0))) :
    Calls Try.prog 71 #[.agg #[.float .f32 x, .float .f32 y], .pointer (some ⟨C, 0, none⟩)] w fun e w' => e = .returned (.bool (geB x x0)) ∧ Below w.heap.size w w' := by
  have hlt : C < w.heap.size := (Array.getElem?_eq_some_iff.1 hb).1
  have hc : w.cell? ⟨C, 0, none⟩ = some (.float .f32 x0) := cell_of_row w C 0 #[.float .f32 x0, .float .f32 y0] 32 (0, 0) hb
  have hbel := (Below.refl w.heap.size w).alloc (Nat.le_refl _) (.cells #[.float .f32 x, .float .f32 y] 32)
  have HB := Lib.hid hbel
  have hc' : (w.alloc (.cells #[.float .f32 x, .float .f32 y] 32)).cell? ⟨C, 0, none⟩ = some (.float .f32 x0) := (hbel.cell (p := ⟨C, 0, none⟩) hlt).trans hc
  obtain ⟨c, h1⟩ : ∃ c, geB x x0 = c := ⟨_, rfl⟩
  rw [h1]
  unfold geB at h1
  clear hbel hb
  go_enter Try.func71, Try.ntmps71
  go_wp2
  go_ret
  exact ⟨rfl, HB.out⟩
theorem addr_add (g o j : Nat) : (⟨g, o, none⟩ : Addr).add j = ⟨g, o + j, none⟩ := by unfold Addr.add; split <;> simp_all
theorem cell_add {w : World} {g n : Nat} {Z : Nat → Nat} (h : Cells w g 0 n Z) (o j : Nat) (hj : o + j < n * 2) : w.cell? ((⟨g, o, none⟩ : Addr).add j) = some (.float .f32 (Z (o + j))) := by
  rw [addr_add]
  obtain ⟨c0, c1⟩ := h ((o + j) / 2) (by omega)
  rw [Nat.zero_add] at c0 c1
  rcases Nat.mod_two_eq_zero_or_one (o + j) with e | e
  · rw [show (o + j) / 2 * 2 = o + j by omega] at c0; exact c0
  · rw [show (o + j) / 2 * 2 + 1 = o + j by omega] at c1; exact c1
theorem spl_eq (Z : Nat → Nat) (o : Nat) (Y : Nat → Nat) (L j : Nat) : spl Z o Y L j = if o ≤ j ∧ j < o + L then Y (j - o) else Z j := rfl
theorem upd_eq (Z : Nat → Nat) (i x j : Nat) : upd Z i x j = if j = i then x else Z j := rfl
/-- what the three writings leave -/
theorem ins_made (Z : Nat → Nat) (n p x y : Nat) (hp : p ≤ n) : ∀ j, j < (n + 1) * 2 → spl (upd (upd (spl (fun _ => 0) 0 Z (p * 2)) (p * 2) x) (p * 2 + 1) y) ((p + 1) * 2) (fun j => Z (p * 2 + j)) ((n - p) * 2) j = insC Z p x y j := fun j hj => by
  unfold insC
  by_cases h1 : j < p * 2
  · rw [spl_eq, if_neg (by omega), upd_eq, if_neg (by omega), upd_eq, if_neg (by omega), spl_eq, if_pos (by omega), if_pos h1]; rfl
  · rw [if_neg h1]
    by_cases h2 : j = p * 2
    · rw [spl_eq, if_neg (by omega), upd_eq, if_neg (by omega), upd_eq, if_pos h2, if_pos h2]
    · rw [if_neg h2]
      by_cases h3 : j = p * 2 + 1
      · rw [spl_eq, if_neg (by omega), upd_eq, if_pos h3, if_pos h3]
      · rw [if_neg h3, spl_eq, if_pos (by omega)]
        show Z (p * 2 + (j - (p + 1) * 2)) = Z (j - 2)
        congr 1
        omega
set_option maxRecDepth 100000 in
set_option maxHeartbeats 3200000 in
theorem with_any (base g0 n cap : Nat) (Z : Nat → Nat) (x y : Nat) (w : World) (hn : 1 ≤ n) (hn2 : n ≤ 1000) (hbase : base ≤ w.heap.size) (h : OwnQ base w (.slice (some ⟨g0, 0, none⟩) n cap) n Z) :
    Calls Try.prog 56 #[.slice (some ⟨g0, 0, none⟩) n cap, .agg #[.float .f32 x, .float .f32 y]] w fun e w' => ∃ g cap', e = .returned (.slice (some ⟨g, 0, none⟩) (insN n Z x) cap') ∧ OwnQ base w' (.slice (some ⟨g, 0, none⟩) (insN n Z x) cap') (insN n Z x) (insX n Z x y) ∧ Below w.heap.size w w' := by
  obtain ⟨a0, c0, hv, h0 | ⟨g', ha, hbg, hglt, hcells⟩⟩ := OwnQ.form h
  · omega
  cases hv
  cases ha
  have hbx : (w.alloc (.cells #[.float .f32 x, .float .f32 y] 32)).heap[w.heap.size]? = some (.cells #[.float .f32 x, .float .f32 y] 32 (0, 0)) := block_new w _
  have hB0 := (Below.refl w.heap.size w).alloc (Nat.le_refl _) (.cells #[.float .f32 x, .float .f32 y] 32)
  have hsz0 : (w.alloc (.cells #[.float .f32 x, .float .f32 y] 32)).heap.size = w.heap.size + 1 := sz_alloc _ _
  have HOwn := Lib.hid (show OwnQ base (w.alloc (.cells #[.float .f32 x, .float .f32 y] 32)) (.slice (some ⟨g0, 0, none⟩) n cap) n Z from World.ownsRow.alloc h _)
  have HC := Lib.hid (hcells.keep hglt hB0)
  generalize hW : w.alloc (.cells #[.float .f32 x, .float .f32 y] 32) = W at hbx hB0 hsz0 HC HOwn
  have HB0 := Lib.hid hB0
  have Hbx := Lib.hid hbx
  have hblt : w.heap.size < W.heap.size := by omega
  clear h hB0 hbx hcells
  have hx0 : W.cell? ⟨w.heap.size, 0, none⟩ = some (.float .f32 x) := cell_of_row W w.heap.size 0 #[.float .f32 x, .float .f32 y] 32 (0, 0) Hbx.out
  obtain ⟨p, hp⟩ : ∃ p, insAt n Z x = p := ⟨_, rfl⟩
  have hpn := insAt_le n Z x
  rw [hp] at hpn
  have Hp := Lib.hid hp
  clear hp
  go_enter Try.func56, Try.ntmps56
  go_wp2_with fail
  refine (fstP _ (.pointer (some ⟨w.heap.size, 0, none⟩)) (fun a _ => geB a x) enter_at g0 0 n cap Z W (fun y' z W2 hW2 => atp_any _ _ _ _ _ _ ((hW2.block _ hblt).trans Hbx.out)) (by omega) (by omega) HC.out).mono ?_
  rintro e w1 ⟨rfl, hb1⟩
  rw [show fstN n Z (fun a _ => geB a x) = p from Hp.out]
  have hx1 := (hb1.cell (p := ⟨w.heap.size, 0, none⟩) hblt).trans hx0
  have H1 := Lib.hid (And.intro (HC.out.keep (by omega) hb1) (And.intro (HB0.out.trans (hb1.mono (by omega))) (show OwnQ base w1 (.slice (some ⟨g0, 0, none⟩) n cap) n Z from own_below HOwn.out (Nat.le_refl _) hb1)))
  have hy1 := (hb1.block _ hblt).trans Hbx.out
  have hs1 := hb1.size
  have Hy1 := Lib.hid hy1
  clear hb1 hy1
  by_cases hpl : p < n
  · have hpl' : (p : Int) < (n : Int) := by omega
    obtain ⟨z0, z1⟩ := H1.out.1 p hpl
    rw [Nat.zero_add] at z0 z1
    obtain ⟨c, hc⟩ : ∃ c, eqB (Z (p * 2)) x = c := ⟨_, rfl⟩
    have Hc := Lib.hid hc
    unfold eqB at hc
    cases c
    · have Hh := Lib.hid (show insH n Z x = false by unfold insH; rw [Hp.out, decide_eq_true hpl, Hc.out]; rfl)
      have Hr := Lib.hid (show insN n Z x = n + 1 ∧ insX n Z x y = insC Z p x y by unfold insN insX; rw [Hh.out, Hp.out]; exact ⟨rfl, rfl⟩)
      have hmk : ∀ w, (Instr.makeSlice 24 (.int .i64 ((n : Int) + 1)) (.int .i64 ((n : Int) + 1))).run Try.prog w = .ok (.slice (some ⟨w.heap.size, 0, none⟩) (n + 1) (n + 1)) (w.alloc (.cells (madeCells #[.float .f32 0, .float .f32 0] ((n + 1) * 2)) 32)) := make_any (n + 1) (by omega)
      go_wp2_with fail
      go_quiet (fail)
      obtain ⟨w2, hw2⟩ : ∃ w2, w1.drewN nq = w2 := ⟨_, rfl⟩
      have H2 := Lib.hid (show Cells w2 g0 0 n Z ∧ Below w.heap.size w w2 ∧ OwnQ base w2 (.slice (some ⟨g0, 0, none⟩) n cap) n Z ∧ w2.heap[w.heap.size]? = some (.cells #[.float .f32 x, .float .f32 y] 32 (0, 0)) from by
        rw [← hw2]; exact ⟨H1.out.1.drewN nq, below_drewN H1.out.2.1 nq, H1.out.2.2, Hy1.out⟩)
      have hs2 : W.heap.size ≤ w2.heap.size := by rw [← hw2]; exact hs1
      rw [hw2]
      clear hx1 z0 z1 hw2
      have hFull := Full.made (n + 1) w2
      have hb3 := H2.out.2.1.alloc (by omega) (.cells (madeCells #[.float .f32 0, .float .f32 0] ((n + 1) * 2)) 32)
      obtain ⟨w3, hw3⟩ : ∃ w3, w2.alloc (.cells (madeCells #[.float .f32 0, .float .f32 0] ((n + 1) * 2)) 32) = w3 := ⟨_, rfl⟩
      have hs3 : w3.heap.size = w2.heap.size + 1 := by rw [← hw3]; exact sz_alloc _ _
      have hb23 := (Below.refl w2.heap.size w2).alloc (Nat.le_refl _) (.cells (madeCells #[.float .f32 0, .float .f32 0] ((n + 1) * 2)) 32)
      rw [hw3] at hFull hb3 hb23
      have H3 := Lib.hid (And.intro hFull (And.intro hb3 (And.intro hb23 (And.intro (H2.out.1.keep (by omega) hb23) ((hb23.block w.heap.size (by omega)).trans H2.out.2.2.2)))))
      clear hFull hb3 hb23
      have hcap : n ≤ cap := by
        rcases H2.out.2.2.1.2 with ⟨e, _⟩ | ⟨g, c1, cur, e, _, _, hh, _⟩
        · cases e
        · cases e; exact hh
      have hpc : p ≤ cap := by omega
      have hpc' : (p : Int) ≤ (cap : Int) := by omega
      have hne1 : ¬ (cap = p) := by omega
      have hne2 : ¬ (n = p) := by omega
      have Hk1 := Lib.hid (show p = Nat.min p (n + 1) by show p = min p (n + 1); omega)
      have Hsrc1 := Lib.hid (show 0 < p → some (⟨w2.heap.size, 0, none⟩ : Addr) = some ⟨w2.heap.size, 0, none⟩ ∧ ∃ ad, some (⟨g0, 0, none⟩ : Addr) = some ad ∧ ∀ j, j < p * 2 → w3.cell? (ad.add j) = some (.float .f32 (Z j)) from fun _ => ⟨rfl, _, rfl, fun j hj => by
        have := cell_add H3.out.2.2.2.1 0 j (by omega)
        rw [Nat.zero_add] at this; exact this⟩)
      have hbsz : w.heap.size < w2.heap.size := by omega
      obtain ⟨S1, hS1⟩ : ∃ S1, spl (fun _ => 0) 0 Z (p * 2) = S1 := ⟨_, rfl⟩
      have HS1 := Lib.hid hS1
      clear hS1
      obtain ⟨w4, kcopy, hF4, hb4⟩ := copyQ_run (w := w3) (w0 := w2) (g := w2.heap.size) (m := n + 1) (off := 0) (k := p) (dLen := n + 1) (dCap := n + 1) (sLen := p) (sCap := cap) (B := w2.heap.size) (ad := ⟨g0, 0, none⟩) (Y := Z) H3.out.1 Hk1.out
        (fun j hj => by
          have := cell_add H3.out.2.2.2.1 0 j (by omega)
          rw [Nat.zero_add] at this; exact this) (by omega) H3.out.2.2.1 (Nat.le_refl _)
      rw [HS1.out] at hF4
      have hP4 := (hb4.block w.heap.size hbsz).trans H2.out.2.2.2
      have hp0 : w4.cell? ⟨w.heap.size, 0, none⟩ = some (.float .f32 x) := cell_of_row w4 w.heap.size 0 #[.float .f32 x, .float .f32 y] 32 (0, 0) hP4
      have hp1 : w4.cell? ⟨w.heap.size, 1, none⟩ = some (.float .f32 y) := cell_of_row w4 w.heap.size 1 #[.float .f32 x, .float .f32 y] 32 (0, 0) hP4
      have t0 := hF4.cell (i := p * 2) (by omega)
      have t1 := hF4.cell (i := p * 2 + 1) (by omega)
      have u0 := hF4.free (i := p * 2)
      have u1 := hF4.free (i := p * 2 + 1)
      have hF6 := (hF4.store (i := p * 2) (x := x)).store (i := p * 2 + 1) (x := y)
      have hb6 := (hb4.setCell (p := ⟨w2.heap.size, p * 2, none⟩) (Nat.le_refl _) (.float .f32 x)).setCell (p := ⟨w2.heap.size, p * 2 + 1, none⟩) (Nat.le_refl _) (.float .f32 y)
      obtain ⟨w6, hw6⟩ : ∃ w6, (w4.setCell ⟨w2.heap.size, p * 2, none⟩ (.float .f32 x)).setCell ⟨w2.heap.size, p * 2 + 1, none⟩ (.float .f32 y) = w6 := ⟨_, rfl⟩
      rw [hw6] at hF6 hb6
      have hC6 := H2.out.1.keep (by omega) hb6
      obtain ⟨w7, kcopy7, hF7, hb7⟩ := copyQ_run (w := w6.drew) (w0 := w2) (g := w2.heap.size) (m := n + 1) (off := (p + 1) * 2) (k := n - p) (dLen := n - p) (dCap := n - p) (sLen := n - p) (sCap := cap - p) (B := w2.heap.size) (ad := ⟨g0, p * 2, none⟩) (Y := fun j => Z (p * 2 + j)) hF6 (by show n - p = min (n - p) (n - p); omega)
        (fun j hj => cell_add (w := w6.drew) hC6 (p * 2) j (by omega)) (by omega) (below_drewN hb6 1) (Nat.le_refl _)
      have hown7 := OwnQ.congr (Y := insC Z p x y) (hF7.own (base := base) (by omega) (by omega)) (fun j hj => by rw [← HS1.out]; exact ins_made Z n p x y (by omega) j hj)
      have H7 := Lib.hid (And.intro hown7 (H2.out.2.1.trans (hb7.mono (Nat.le_of_lt hbsz))))
      generalize S1 (p * 2) = v0 at t0
      generalize S1 (p * 2 + 1) = v1 at t1
      clear hF4 hb4 hP4 hF6 hb6 hC6 hF7 hb7 hown7 Hsrc1
      go_wp2_with fail
      have hp1n : (p : Int) + 1 ≤ (n : Int) + 1 := by omega
      have hp2n : (p : Int) ≤ (n : Int) := by omega
      have hwp : IntKind.i64.wrap ((p : Int) + 1) = ((p + 1 : Nat) : Int) := by rw [IntKind.wrap_i64]; omega
      go_region_with fail
      all_goals
        go_wp2_with fail
        go_ret
        exact ⟨w2.heap.size, n + 1, by rw [Hr.out.1]; rfl, by rw [Hr.out.1, Hr.out.2]; exact H7.out.1, H7.out.2⟩
    · have Hh := Lib.hid (show insH n Z x = true by unfold insH; rw [Hp.out, decide_eq_true hpl, Hc.out]; rfl)
      have Hr := Lib.hid (show insN n Z x = n ∧ insX n Z x y = Z by unfold insN insX; rw [Hh.out]; exact ⟨rfl, rfl⟩)
      go_wp2_with fail
      go_quiet (fail)
      go_wp2_with fail
      go_ret
      exact ⟨g0, cap, by rw [Hr.out.1]; rfl, by rw [Hr.out.1, Hr.out.2]; exact H1.out.2.2, below_drewN H1.out.2.1 _⟩
  · obtain rfl : p = n := by omega
    have hpl' : ¬ (p : Int) < (p : Int) := by omega
    have Hh := Lib.hid (show insH p Z x = false by unfold insH; rw [Hp.out, decide_eq_false hpl]; rfl)
    have Hr := Lib.hid (show insN p Z x = p + 1 ∧ insX p Z x y = insC Z p x y by unfold insN insX; rw [Hh.out, Hp.out]; exact ⟨rfl, rfl⟩)
    have hmk : ∀ w, (Instr.makeSlice 24 (.int .i64 ((p : Int) + 1)) (.int .i64 ((p : Int) + 1))).run Try.prog w = .ok (.slice (some ⟨w.heap.size, 0, none⟩) (p + 1) (p + 1)) (w.alloc (.cells (madeCells #[.float .f32 0, .float .f32 0] ((p + 1) * 2)) 32)) := make_any (p + 1) (by omega)
    go_wp2_with fail
    go_quiet (fail)
    obtain ⟨w2, hw2⟩ : ∃ w2, w1.drewN nq = w2 := ⟨_, rfl⟩
    have H2 := Lib.hid (show Cells w2 g0 0 p Z ∧ Below w.heap.size w w2 ∧ OwnQ base w2 (.slice (some ⟨g0, 0, none⟩) p cap) p Z ∧ w2.heap[w.heap.size]? = some (.cells #[.float .f32 x, .float .f32 y] 32 (0, 0)) from by
      rw [← hw2]; exact ⟨H1.out.1.drewN nq, below_drewN H1.out.2.1 nq, H1.out.2.2, Hy1.out⟩)
    have hs2 : W.heap.size ≤ w2.heap.size := by rw [← hw2]; exact hs1
    rw [hw2]
    clear hx1 hw2
    have hFull := Full.made (p + 1) w2
    have hb3 := H2.out.2.1.alloc (by omega) (.cells (madeCells #[.float .f32 0, .float .f32 0] ((p + 1) * 2)) 32)
    obtain ⟨w3, hw3⟩ : ∃ w3, w2.alloc (.cells (madeCells #[.float .f32 0, .float .f32 0] ((p + 1) * 2)) 32) = w3 := ⟨_, rfl⟩
    have hs3 : w3.heap.size = w2.heap.size + 1 := by rw [← hw3]; exact sz_alloc _ _
    have hb23 := (Below.refl w2.heap.size w2).alloc (Nat.le_refl _) (.cells (madeCells #[.float .f32 0, .float .f32 0] ((p + 1) * 2)) 32)
    rw [hw3] at hFull hb3 hb23
    have H3 := Lib.hid (And.intro hFull (And.intro hb3 (And.intro hb23 (And.intro (H2.out.1.keep (by omega) hb23) ((hb23.block w.heap.size (by omega)).trans H2.out.2.2.2)))))
    clear hFull hb3 hb23
    have hcap : p ≤ cap := by
      rcases H2.out.2.2.1.2 with ⟨e, _⟩ | ⟨g, c1, cur, e, _, _, hh, _⟩
      · cases e
      · cases e; exact hh
    have hpc' : (p : Int) ≤ (cap : Int) := by omega
    have Hk1 := Lib.hid (show p = Nat.min p (p + 1) by show p = min p (p + 1); omega)
    have hbsz : w.heap.size < w2.heap.size := by omega
    obtain ⟨S1, hS1⟩ : ∃ S1, spl (fun _ => 0) 0 Z (p * 2) = S1 := ⟨_, rfl⟩
    have HS1 := Lib.hid hS1
    clear hS1
    obtain ⟨w4, kcopy, hF4, hb4⟩ := copyQ_run (w := w3) (w0 := w2) (g := w2.heap.size) (m := p + 1) (off := 0) (k := p) (dLen := p + 1) (dCap := p + 1) (sLen := p) (sCap := cap) (B := w2.heap.size) (ad := ⟨g0, 0, none⟩) (Y := Z) H3.out.1 Hk1.out
      (fun j hj => by
        have := cell_add H3.out.2.2.2.1 0 j (by omega)
        rw [Nat.zero_add] at this; exact this) (by omega) H3.out.2.2.1 (Nat.le_refl _)
    rw [HS1.out] at hF4
    have hP4 := (hb4.block w.heap.size hbsz).trans H2.out.2.2.2
    have hp0 : w4.cell? ⟨w.heap.size, 0, none⟩ = some (.float .f32 x) := cell_of_row w4 w.heap.size 0 #[.float .f32 x, .float .f32 y] 32 (0, 0) hP4
    have hp1 : w4.cell? ⟨w.heap.size, 1, none⟩ = some (.float .f32 y) := cell_of_row w4 w.heap.size 1 #[.float .f32 x, .float .f32 y] 32 (0, 0) hP4
    have t0 := hF4.cell (i := p * 2) (by omega)
    have t1 := hF4.cell (i := p * 2 + 1) (by omega)
    have u0 := hF4.free (i := p * 2)
    have u1 := hF4.free (i := p * 2 + 1)
    have hF6 := (hF4.store (i := p * 2) (x := x)).store (i := p * 2 + 1) (x := y)
    have hb6 := (hb4.setCell (p := ⟨w2.heap.size, p * 2, none⟩) (Nat.le_refl _) (.float .f32 x)).setCell (p := ⟨w2.heap.size, p * 2 + 1, none⟩) (Nat.le_refl _) (.float .f32 y)
    obtain ⟨w6, hw6⟩ : ∃ w6, (w4.setCell ⟨w2.heap.size, p * 2, none⟩ (.float .f32 x)).setCell ⟨w2.heap.size, p * 2 + 1, none⟩ (.float .f32 y) = w6 := ⟨_, rfl⟩
    rw [hw6] at hF6 hb6
    have kcopy7 := fun (dp sp : Option Addr) (dc sc : Nat) (W : World) => copyQ_none (w := W) (dp := dp) (sp := sp) (dLen := 0) (dCap := dc) (sLen := 0) (sCap := sc) rfl
    have hown7 := OwnQ.congr (Y := insC Z p x y) (hF6.own (base := base) (by omega) (by omega)) (fun j hj => by
      have := ins_made Z p p x y (Nat.le_refl _) j hj
      rw [spl_eq, if_neg (by omega)] at this
      rw [← HS1.out]; exact this)
    have H7 := Lib.hid (And.intro hown7 (H2.out.2.1.trans (hb6.mono (Nat.le_of_lt hbsz))))
    generalize S1 (p * 2) = v0 at t0
    generalize S1 (p * 2 + 1) = v1 at t1
    clear hF4 hb4 hP4 hF6 hb6 hown7
    have hp1n : (p : Int) + 1 ≤ (p : Int) + 1 := by omega
    have hwp : IntKind.i64.wrap ((p : Int) + 1) = ((p + 1 : Nat) : Int) := by rw [IntKind.wrap_i64]; omega
    by_cases hcp : cap = p
    · subst hcp
      go_wp2_with fail
      go_region_with fail
      all_goals
        go_wp2_with fail
        go_ret
        exact ⟨w2.heap.size, _, by rw [Hr.out.1]; rfl, by rw [Hr.out.1, Hr.out.2]; exact H7.out.1, below_drewN H7.out.2 1⟩
    · go_wp2_with fail
      go_region_with fail
      all_goals
        go_wp2_with fail
        go_ret
        exact ⟨w2.heap.size, _, by rw [Hr.out.1]; rfl, by rw [Hr.out.1, Hr.out.2]; exact H7.out.1, below_drewN H7.out.2 1⟩
end Go.Proofs.Ytbmojogohffhaaa.Pnt
