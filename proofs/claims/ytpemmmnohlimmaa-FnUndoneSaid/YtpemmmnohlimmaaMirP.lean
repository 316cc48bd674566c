/- MirrorSteps in the program. -/
import Derived.Test.YtpemmmnohlimmaaCorM
import Derived.Test.YtpemmmnohlimmaaStpG
namespace Go.Proofs.Ytpemmmnohlimmaa.Stp
open Go.ChangeShapes Go.WideShapes Go.ChangeAt Go.RowKit Go.Proofs.Ytpemmmnohlimmaa Go.Proofs.Ytpemmmnohlimmaa.Flt Go.Proofs.Ytpemmmnohlimmaa.Mth Go.Proofs.Ytpemmmnohlimmaa.Cpx Go.Proofs.Ytpemmmnohlimmaa.Trn Go.Proofs.Ytpemmmnohlimmaa.Drw
set_option linter.unusedVariables false
/-- the first r steps stand in the cells -/
def MA (xs : List Stp) (r : Nat) (arr : Array Value) : Prop := ∀ (i : Nat) (s : Stp), i < r → xs[i]? = some s → ∀ j, j < 4 → arr[i * 4 + j]? = (Stp.l s)[j]?
def put4 (arr : Array Value) (o : Nat) (s : Stp) : Array Value := (((arr.setIfInBounds o (.int .i64 s.k)).setIfInBounds (o + 1) (.complex .f64 s.x s.y)).setIfInBounds (o + 2) (.int .i64 s.q)).setIfInBounds (o + 3) (.int .i64 s.p)
theorem put4_size (arr : Array Value) (o : Nat) (s : Stp) : (put4 arr o s).size = arr.size := by simp [put4]
theorem put4_at {arr : Array Value} {o : Nat} {s : Stp} (h : o + 4 ≤ arr.size) {j : Nat} (hj : j < 4) : (put4 arr o s)[o + j]? = (Stp.l s)[j]? := by
  unfold put4
  obtain rfl | rfl | rfl | rfl : j = 0 ∨ j = 1 ∨ j = 2 ∨ j = 3 := by omega
  all_goals
    simp only [Array.getElem?_setIfInBounds, Array.size_setIfInBounds, Nat.add_zero]
    simp [Stp.l]
    try omega
theorem put4_off {arr : Array Value} {o : Nat} {s : Stp} {i : Nat} (h : i < o ∨ o + 4 ≤ i) : (put4 arr o s)[i]? = arr[i]? := by
  unfold put4
  rw [Array.getElem?_setIfInBounds_ne (by omega), Array.getElem?_setIfInBounds_ne (by omega), Array.getElem?_setIfInBounds_ne (by omega), Array.getElem?_setIfInBounds_ne (by omega)]
theorem MA.step {xs : List Stp} {r : Nat} {arr : Array Value} {s : Stp} (h : MA xs r arr) (hs : xs[r]? = some s) (hz : r * 4 + 4 ≤ arr.size) : MA xs (r + 1) (put4 arr (r * 4) s) := fun i t hi ht j hj => by
  by_cases e : i = r
  · subst e
    rw [hs] at ht
    cases ht
    exact put4_at hz hj
  · rw [put4_off (by omega)]
    exact h i t (by omega) ht j hj
theorem MA.cells {xs : List Stp} {arr : Array Value} {W : World} {G : Nat} (h : MA xs xs.length arr) (hb : W.heap[G]? = some (.cells arr 45 (0, 0))) : CellsS W G 0 xs := fun i s hs => by
  have hi : i < xs.length := by
    rcases Nat.lt_or_ge i xs.length with h1 | h1
    · exact h1
    · rw [List.getElem?_eq_none h1] at hs; cases hs
  have e : ∀ j, j < 4 → W.cell? ⟨G, 0 + i * 4 + j, none⟩ = (Stp.l s)[j]? := fun j hj => by
    rw [Nat.zero_add, blk_cell hb]
    exact h i s hi hs j hj
  exact ⟨e 0 (by omega), e 1 (by omega), e 2 (by omega), e 3 (by omega)⟩
theorem blk_four {W : World} {G o : Nat} {arr : Array Value} {T : TypeId} (h : W.heap[G]? = some (.cells arr T (0, 0))) (ho : o + 4 ≤ arr.size) :
    (∃ v, W.cell? ⟨G, o, none⟩ = some v) ∧ (∃ v, W.cell? ⟨G, o + 1, none⟩ = some v) ∧ (∃ v, W.cell? ⟨G, o + 2, none⟩ = some v) ∧ (∃ v, W.cell? ⟨G, o + 3, none⟩ = some v) ∧
    W.frozen? ⟨G, o, none⟩ = false ∧ W.frozen? ⟨G, o + 1, none⟩ = false ∧ W.frozen? ⟨G, o + 2, none⟩ = false ∧ W.frozen? ⟨G, o + 3, none⟩ = false := by
  have e : ∀ j, j < arr.size → ∃ v, W.cell? ⟨G, j, none⟩ = some v := fun j hj => ⟨arr[j], by rw [blk_cell h, Array.getElem?_eq_getElem hj]⟩
  exact ⟨e _ (by omega), e _ (by omega), e _ (by omega), e _ (by omega), blk_free h _, blk_free h _, blk_free h _, blk_free h _⟩
theorem put_four {w W : World} {G o : Nat} {arr : Array Value} {T : TypeId} {s : Stp} (h : W.heap[G]? = some (.cells arr T (0, 0))) (hb : Below w.heap.size w W) (hG : w.heap.size ≤ G) :
    ((((W.setCell ⟨G, o, none⟩ (.int .i64 s.k)).setCell ⟨G, o + 1, none⟩ (.complex .f64 s.x s.y)).setCell ⟨G, o + 2, none⟩ (.int .i64 s.q)).setCell ⟨G, o + 3, none⟩ (.int .i64 s.p)).heap[G]? = some (.cells (put4 arr o s) T (0, 0)) ∧
    Below w.heap.size w ((((W.setCell ⟨G, o, none⟩ (.int .i64 s.k)).setCell ⟨G, o + 1, none⟩ (.complex .f64 s.x s.y)).setCell ⟨G, o + 2, none⟩ (.int .i64 s.q)).setCell ⟨G, o + 3, none⟩ (.int .i64 s.p)) :=
  ⟨block_setCell (block_setCell (block_setCell (block_setCell h _) _) _) _, (((hb.setCell hG _).setCell hG _).setCell hG _).setCell hG _⟩
theorem makeS_any (n : Nat) (hn : n ≤ 1048576) (w : World) :
    (Instr.makeSlice 24 (.int .i64 (n : Int)) (.int .i64 (n : Int))).run Try.prog w = .ok (.slice (some ⟨w.heap.size, 0, none⟩) n n) (w.alloc (.cells (madeCells #[.int .i64 0, .complex .f64 0 0, .int .i64 0, .int .i64 0] (n * 4)) 45)) := by
  obtain ⟨i, hi, hz, hs, hb⟩ := info_partsS
  have h := run_make (P := Try.prog) w 24 45 i _ Try.underlying24 hi hz .i64 .i64 n n (by omega) (by omega) (by rw [hb]; omega) (by omega)
  rw [hs] at h
  rw [show (Value.agg #[.int .i64 0, .complex .f64 0 0, .int .i64 0, .int .i64 0]).cells = #[.int .i64 0, .complex .f64 0 0, .int .i64 0, .int .i64 0] from rfl] at h
  exact h
theorem ok_q {s : Stp} (h : s.ok = true) : 0 ≤ s.q ∧ s.q ≤ 3 := by
  have hn : ∀ q p, noT q p = true → 0 ≤ q ∧ q ≤ 3 := fun q p e => by
    unfold noT at e
    simp only [Bool.and_eq_true, decide_eq_true_eq] at e
    omega
  unfold Stp.ok at h
  split at h
  · rw [Bool.and_eq_true] at h; exact hn _ _ h.2
  · split at h
    · rw [Bool.and_eq_true] at h; exact hn _ _ h.2
    · split at h
      · rw [Bool.and_eq_true] at h; exact hn _ _ h.2
      · split at h
        · rw [Bool.and_eq_true] at h
          exact (okT_iff.1 h.2).1
        · cases h
theorem okS_at {xs : List Stp} (h : okS xs = true) : ∀ s ∈ xs, s.ok = true := by
  unfold okS at h
  rw [Bool.and_eq_true, List.all_eq_true] at h
  exact h.2
set_option maxHeartbeats 1600000 in
theorem mirror_any (g off cap : Nat) (xs : List Stp) (w : World) (hg : g < w.heap.size) (hwf : wfS xs) (h : CellsS w g off xs) (hok : okS xs = true) :
    Calls Try.prog 16 #[.slice (some ⟨g, off, none⟩) xs.length cap] w fun e w' => ∃ G, e = .returned (.tuple #[.slice (some ⟨G, 0, none⟩) xs.length xs.length, .bool true]) ∧ CellsS w' G 0 (xs.map mirS) ∧ G < w'.heap.size ∧ Below w.heap.size w w' := by
  have cS := stepsOk_any g off cap xs w hg hwf h
  rw [hok] at cS
  have H := Lib.hid (And.intro hwf (And.intro h (okS_at hok)))
  have hl : xs.length ≤ 20 := by
    unfold okS at hok
    rw [Bool.and_eq_true] at hok
    exact of_decide_eq_true hok.1
  obtain ⟨n, hn⟩ : ∃ n, xs.length = n := ⟨_, rfl⟩
  rw [hn] at cS hl ⊢
  clear h hwf hok
  have hmk := makeS_any n (by omega)
  go_enter Try.func16, Try.ntmps16
  go_wp2_with fail
  refine cS.mono ?_
  rintro e w1 ⟨rfl, hb⟩
  have hsz1 := hb.size
  have Hst := Lib.hid (show ∃ arr : Array Value, (w1.alloc (.cells (madeCells #[.int .i64 0, .complex .f64 0 0, .int .i64 0, .int .i64 0] (n * 4)) 45)).heap[w1.heap.size]? = some (.cells arr 45 (0, 0)) ∧ arr.size = n * 4 ∧ MA (xs.map mirS) 0 arr from ⟨_, block_new w1 _, size_madeCells _ _, fun i s hi => absurd hi (Nat.not_lt_zero _)⟩)
  have Hb := Lib.hid (show Below w.heap.size w (w1.alloc (.cells (madeCells #[.int .i64 0, .complex .f64 0 0, .int .i64 0, .int .i64 0] (n * 4)) 45)) from hb.alloc hsz1 _)
  obtain ⟨G, hG⟩ : ∃ G, w1.heap.size = G := ⟨_, rfl⟩
  clear hb cS
  go_wp2_with fail
  rw [hG] at Hst
  go_loopw [15] (fun iv wr => ∃ r : Nat, iv = .int .i64 (r : Int) ∧ r ≤ n ∧ Below w.heap.size w wr ∧ Hid (∃ arr : Array Value, wr.heap[G]? = some (.cells arr 45 (0, 0)) ∧ arr.size = n * 4 ∧ MA (xs.map mirS) r arr))
    (fun iv _ => n - (intOf iv).toNat)
  case atStart => exact ⟨0, rfl, Nat.zero_le _, Hb.out, Hst⟩
  case round =>
    obtain ⟨r, rfl, hr, hbel, harr⟩ := hrel
    have hsz := hbel.size
    obtain ⟨arr, hblk, hasz, hma⟩ := harr.out
    by_cases hrl : r < n
    · have hrl' : (r : Int) < (n : Int) := by omega
      obtain ⟨s, hs⟩ : ∃ s, xs[r]? = some s := ⟨_, List.getElem?_eq_getElem (by rw [hn]; exact hrl)⟩
      have hw := H.out.1 s (List.mem_of_getElem? hs)
      have hsq := ok_q (H.out.2.2 s (List.mem_of_getElem? hs))
      obtain ⟨a0, a1, a2, a3⟩ := (H.out.2.1.keep hg hbel) r s hs
      have hGlt := lt_of_block hblk
      obtain ⟨sk, sx, sy, sq, sp⟩ := s
      simp only at a0 a1 a2 a3 hsq hw
      have Hs := Lib.hid hs
      have Hbl := Lib.hid (And.intro hbel (And.intro hblk (And.intro hasz hma)))
      obtain ⟨P, hP⟩ : ∃ P, wr.alloc (.cells #[.int .i64 sk, .complex .f64 sx (Op.negFloat .f64 sy), .int .i64 (-sq % 4), .int .i64 sp] 45) = P := ⟨_, rfl⟩
      have hPb : P.heap[G]? = some (.cells arr 45 (0, 0)) := by rw [← hP]; exact (((Below.refl wr.heap.size wr).alloc (Nat.le_refl _) _).block G hGlt).trans hblk
      have hPB : Below w.heap.size w P := by rw [← hP]; exact hbel.alloc hsz _
      have hps : ∀ j, P.cell? ⟨wr.heap.size, j, none⟩ = (#[Value.int .i64 sk, .complex .f64 sx (Op.negFloat .f64 sy), .int .i64 (-sq % 4), .int .i64 sp])[j]? := fun j => by rw [← hP]; exact blk_cell (block_new wr _) j
      have p0 : P.cell? ⟨wr.heap.size, 0, none⟩ = some (.int .i64 sk) := hps 0
      have p1 : P.cell? ⟨wr.heap.size, 1, none⟩ = some (.complex .f64 sx (Op.negFloat .f64 sy)) := hps 1
      have p2 : P.cell? ⟨wr.heap.size, 2, none⟩ = some (.int .i64 (-sq % 4)) := hps 2
      have p3 : P.cell? ⟨wr.heap.size, 3, none⟩ = some (.int .i64 sp) := hps 3
      clear hps
      have hz4 : r * 4 + 4 ≤ arr.size := by omega
      obtain ⟨q0, q1, q2, q3, f0, f1, f2, f3⟩ := blk_four hPb hz4
      have Hfin := Lib.hid (put_four (o := r * 4) (s := ⟨sk, sx, Op.negFloat .f64 sy, -sq % 4, sp⟩) hPb hPB (show w.heap.size ≤ G by omega))
      have Hma := Lib.hid (hma.step (s := ⟨sk, sx, Op.negFloat .f64 sy, -sq % 4, sp⟩) (by
        rw [List.getElem?_map, hs]
        show some (mirS ⟨sk, sx, sy, sq, sp⟩) = _
        unfold mirS
        simp only
        rw [show (4 - sq) % 4 = -sq % 4 by omega]) hz4)
      have Hsz := Lib.hid hasz
      obtain ⟨v0, hv0⟩ := q0
      obtain ⟨v1, hv1⟩ := q1
      obtain ⟨v2, hv2⟩ := q2
      obtain ⟨v3, hv3⟩ := q3
      clear hs hbel hblk hasz hma harr hPb hPB
      go_wp2_with (go_at_call 26; refine (conj_any _ _ _).mono ?_; rintro e w9 ⟨rfl, rfl⟩)
      go_roundw
      case rel => exact ⟨r + 1, by go_num, hrl, Hfin.out.2, Lib.hid ⟨_, Hfin.out.1, by rw [put4_size]; exact Hsz.out, Hma.out⟩⟩
      case measure => simp [intOf]; omega
    · obtain rfl : r = n := by omega
      have hrl' : ¬ (r : Int) < (r : Int) := by omega
      have Hf := Lib.hid (show CellsS wr G 0 (xs.map mirS) ∧ G < wr.heap.size ∧ Below w.heap.size w wr from ⟨MA.cells (by rw [List.length_map, hn]; exact hma) hblk, lt_of_block hblk, hbel⟩)
      clear hbel hblk hasz hma harr
      go_wp2_with fail
      go_ret2
      exact ⟨G, rfl, Hf.out.1, Hf.out.2.1, Hf.out.2.2⟩
end Go.Proofs.Ytpemmmnohlimmaa.Stp
