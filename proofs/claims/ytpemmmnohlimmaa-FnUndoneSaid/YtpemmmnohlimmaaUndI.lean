/- UndoSteps and ExactSteps in the program, of steps that only turn signs and places. -/
import Derived.Test.YtpemmmnohlimmaaUnd
import Derived.Test.YtpemmmnohlimmaaMirP
namespace Go.Proofs.Ytpemmmnohlimmaa.Stp
open Go.ChangeShapes Go.WideShapes Go.ChangeAt Go.RowKit Go.Proofs.Ytpemmmnohlimmaa Go.Proofs.Ytpemmmnohlimmaa.Flt Go.Proofs.Ytpemmmnohlimmaa.Mth Go.Proofs.Ytpemmmnohlimmaa.Cpx Go.Proofs.Ytpemmmnohlimmaa.Trn Go.Proofs.Ytpemmmnohlimmaa.Drw
set_option linter.unusedVariables false
theorem exOk {xs : List Stp} (hl : xs.length ≤ 5) (h : ∀ s ∈ xs, exS s) : okS xs = true := okS_all (by omega) fun i s hs => ex_ok (h s (List.mem_of_getElem? hs))
set_option maxHeartbeats 1600000 in
theorem exact_any' (g off cap : Nat) (xs : List Stp) (w : World) (hg : g < w.heap.size) (h : CellsS w g off xs) (hl : xs.length ≤ 5) (hx : ∀ s ∈ xs, exS s) :
    Calls Try.prog 15 #[.slice (some ⟨g, off, none⟩) xs.length cap] w fun e w' => e = .returned (.bool true) ∧ Below w.heap.size w w' := by
  have cS := stepsOk_any g off cap xs w hg (ex_wf hx) h
  rw [exOk hl hx] at cS
  have H := Lib.hid (And.intro hx h)
  obtain ⟨n, hn⟩ : ∃ n, xs.length = n := ⟨_, rfl⟩
  rw [hn] at cS hl ⊢
  clear h hx
  go_enter Try.func15, Try.ntmps15
  go_wp2_with fail
  refine cS.mono ?_
  rintro e w1 ⟨rfl, hb⟩
  have Hb := Lib.hid hb
  clear hb cS
  go_wp2_with fail
  go_loopw [12] (fun iv wr => ∃ r : Nat, iv = .int .i64 (r : Int) ∧ r ≤ n ∧ Below w.heap.size w wr)
    (fun iv _ => n - (intOf iv).toNat)
  case atStart => exact ⟨0, rfl, Nat.zero_le _, Hb.out⟩
  case round =>
    obtain ⟨r, rfl, hr, hbel⟩ := hrel
    have hsz := hbel.size
    by_cases hrl : r < n
    · have hrl' : (r : Int) < (n : Int) := by omega
      obtain ⟨s, hs⟩ : ∃ s, xs[r]? = some s := ⟨_, List.getElem?_eq_getElem (by rw [hn]; exact hrl)⟩
      have hex := H.out.1 s (List.mem_of_getElem? hs)
      obtain ⟨a0, a1, a2, a3⟩ := (H.out.2.keep hg hbel) r s hs
      have Hbel := Lib.hid hbel
      clear hs hbel
      rcases hex with rfl | rfl | ⟨q, hq, rfl⟩
      · go_wp2_with fail
        refine (kind_any _ _).mono ?_
        rintro e w2 ⟨rfl, hb⟩
        have hbb := below_on (B := wr.heap.size) hb (show Below wr.heap.size wr _ by go_grown) (by simp)
        have H2 := Lib.hid (Hbel.out.trans (hbb.mono hsz))
        obtain ⟨c0, c1, c2, c3⟩ := cells4 _ _ _ _ _ _ _ _ hb
        rw [show kv 5 = .iface 69 (.agg #[]) from rfl, show isK 5 = true from rfl]
        clear hb hbb
        go_wp2_with fail
        refine (exact_f ⟨5, 0, 0, 0, 0⟩ _).mono ?_
        rintro e w3 ⟨rfl, hb⟩
        have H3 := Lib.hid (H2.out.trans (hb.mono H2.out.size))
        clear hb c0 c1 c2 c3
        go_wp2_with fail
        go_roundw
        case rel => exact ⟨r + 1, by go_num, hrl, H3.out⟩
        case measure => simp [intOf]; omega
      · go_wp2_with fail
        refine (kind_any _ _).mono ?_
        rintro e w2 ⟨rfl, hb⟩
        have hbb := below_on (B := wr.heap.size) hb (show Below wr.heap.size wr _ by go_grown) (by simp)
        have H2 := Lib.hid (Hbel.out.trans (hbb.mono hsz))
        obtain ⟨c0, c1, c2, c3⟩ := cells4 _ _ _ _ _ _ _ _ hb
        rw [show kv 6 = .iface 69 (.agg #[]) from rfl, show isK 6 = true from rfl]
        clear hb hbb
        go_wp2_with fail
        refine (exact_f ⟨6, 0, 0, 0, 0⟩ _).mono ?_
        rintro e w3 ⟨rfl, hb⟩
        have H3 := Lib.hid (H2.out.trans (hb.mono H2.out.size))
        clear hb c0 c1 c2 c3
        go_wp2_with fail
        go_roundw
        case rel => exact ⟨r + 1, by go_num, hrl, H3.out⟩
        case measure => simp [intOf]; omega
      · go_wp2_with fail
        refine (kind_any _ _).mono ?_
        rintro e w2 ⟨rfl, hb⟩
        have hbb := below_on (B := wr.heap.size) hb (show Below wr.heap.size wr _ by go_grown) (by simp)
        have H2 := Lib.hid (Hbel.out.trans (hbb.mono hsz))
        obtain ⟨c0, c1, c2, c3⟩ := cells4 _ _ _ _ _ _ _ _ hb
        rw [show kv 7 = .iface 70 (.agg #[]) from rfl, show isK 7 = true from rfl]
        clear hb hbb
        go_wp2_with fail
        refine (exact_t 7 0 0 q _).mono ?_
        rintro e w3 ⟨rfl, hb⟩
        have H3 := Lib.hid (H2.out.trans (hb.mono H2.out.size))
        clear hb c0 c1 c2 c3
        go_wp2_with fail
        go_roundw
        case rel => exact ⟨r + 1, by go_num, hrl, H3.out⟩
        case measure => simp [intOf]; omega
    · obtain rfl : r = n := by omega
      have hrl' : ¬ (r : Int) < (r : Int) := by omega
      have Hbel := Lib.hid hbel
      clear hbel
      go_wp2_with fail
      go_ret
      exact ⟨rfl, Hbel.out⟩
theorem undo_fk (k : Int) (w : World) : Calls Try.prog 83 #[.agg #[], .agg #[.int .i64 k, .complex .f64 0 0, .int .i64 0, .int .i64 0]] w fun e w' => e = .returned (.agg #[.int .i64 k, .complex .f64 0 0, .int .i64 0, .int .i64 0]) ∧ Below w.heap.size w w' := undo_f ⟨k, 0, 0, 0, 0⟩ w
theorem undo_t7 (q : Int) (hq : 0 ≤ q ∧ q ≤ 3) (w : World) : Calls Try.prog 86 #[.agg #[], .agg #[.int .i64 7, .complex .f64 0 0, .int .i64 q, .int .i64 0]] w fun e w' => e = .returned (.agg #[.int .i64 7, .complex .f64 0 0, .int .i64 (-q % 4), .int .i64 0]) ∧ Below w.heap.size w w' := by
  have h := undo_t q 0 7 0 0 w
  rw [inv_yes (okT_iff.2 (by omega))] at h
  exact h
/-- the last steps stand in the cells -/
def MB (ys : List Stp) (m : Nat) (arr : Array Value) : Prop := ∀ (i : Nat) (s : Stp), m ≤ i → ys[i]? = some s → ∀ j, j < 4 → arr[i * 4 + j]? = (Stp.l s)[j]?
theorem MB.step {ys : List Stp} {m : Nat} {arr : Array Value} {s : Stp} (h : MB ys (m + 1) arr) (hs : ys[m]? = some s) (hz : m * 4 + 4 ≤ arr.size) : MB ys m (put4 arr (m * 4) s) := fun i t hi ht j hj => by
  by_cases e : i = m
  · subst e
    rw [hs] at ht
    cases ht
    exact put4_at hz hj
  · rw [put4_off (by omega)]
    exact h i t (by omega) ht j hj
theorem un_at {xs : List Stp} {n r : Nat} {s : Stp} (hn : xs.length = n) (hr : r < n) (hs : xs[r]? = some s) : ((xs.map unS).reverse)[n - 1 - r]? = some (unS s) := by
  rw [List.getElem?_reverse (by rw [List.length_map]; omega), List.length_map, hn, show n - 1 - (n - 1 - r) = r by omega, List.getElem?_map, hs]; rfl
set_option maxHeartbeats 1600000 in
theorem undo_any (g off cap : Nat) (xs : List Stp) (w : World) (hg : g < w.heap.size) (h : CellsS w g off xs) (hl : xs.length ≤ 5) (hx : ∀ s ∈ xs, exS s) :
    Calls Try.prog 14 #[.slice (some ⟨g, off, none⟩) xs.length cap] w fun e w' => ∃ G, e = .returned (.tuple #[.slice (some ⟨G, 0, none⟩) xs.length xs.length, .bool true]) ∧ CellsS w' G 0 (xs.map unS).reverse ∧ G < w'.heap.size ∧ Below w.heap.size w w' := by
  have cS := stepsOk_any g off cap xs w hg (ex_wf hx) h
  rw [exOk hl hx] at cS
  have H := Lib.hid (And.intro hx h)
  obtain ⟨n, hn⟩ : ∃ n, xs.length = n := ⟨_, rfl⟩
  rw [hn] at cS hl ⊢
  have hmk := makeS_any n (by omega)
  clear h hx
  go_enter Try.func14, Try.ntmps14
  go_wp2_with fail
  refine cS.mono ?_
  rintro e w1 ⟨rfl, hb⟩
  have hsz1 := hb.size
  have Hst := Lib.hid (show ∃ arr : Array Value, (w1.alloc (.cells (madeCells #[.int .i64 0, .complex .f64 0 0, .int .i64 0, .int .i64 0] (n * 4)) 45)).heap[w1.heap.size]? = some (.cells arr 45 (0, 0)) ∧ arr.size = n * 4 ∧ MB (xs.map unS).reverse n arr from ⟨_, block_new w1 _, size_madeCells _ _, fun i s hi hs => by
    rw [List.getElem?_eq_none (by rw [List.length_reverse, List.length_map]; omega)] at hs; cases hs⟩)
  have Hb := Lib.hid (show Below w.heap.size w (w1.alloc (.cells (madeCells #[.int .i64 0, .complex .f64 0 0, .int .i64 0, .int .i64 0] (n * 4)) 45)) from hb.alloc hsz1 _)
  obtain ⟨G, hG⟩ : ∃ G, w1.heap.size = G := ⟨_, rfl⟩
  clear hb cS
  go_wp2_with fail
  rw [hG] at Hst
  go_loopw [17] (fun iv wr => ∃ r : Nat, iv = .int .i64 (r : Int) ∧ r ≤ n ∧ Below w.heap.size w wr ∧ Hid (∃ arr : Array Value, wr.heap[G]? = some (.cells arr 45 (0, 0)) ∧ arr.size = n * 4 ∧ MB (xs.map unS).reverse (n - r) arr))
    (fun iv _ => n - (intOf iv).toNat)
  case atStart => exact ⟨0, rfl, Nat.zero_le _, Hb.out, Hst⟩
  case round =>
    obtain ⟨r, rfl, hr, hbel, harr⟩ := hrel
    have hsz := hbel.size
    obtain ⟨arr, hblk, hasz, hma⟩ := harr.out
    by_cases hrl : r < n
    · have hrl' : (r : Int) < (n : Int) := by omega
      obtain ⟨s, hs⟩ : ∃ s, xs[r]? = some s := ⟨_, List.getElem?_eq_getElem (by rw [hn]; exact hrl)⟩
      have hex := H.out.1 s (List.mem_of_getElem? hs)
      obtain ⟨a0, a1, a2, a3⟩ := (H.out.2.keep hg hbel) r s hs
      have hGlt := lt_of_block hblk
      obtain ⟨m, hm⟩ : ∃ m, n - 1 - r = m := ⟨_, rfl⟩
      have hm2 : (n : Int) - 1 - (r : Int) = (m : Int) := by omega
      have hm3 : n - (r + 1) = m := by omega
      have hm4 : n - r = m + 1 := by omega
      have hmn : m < n := by omega
      rw [hm4] at hma
      have hun := un_at hn hrl hs
      rw [hm] at hun
      have Hun := Lib.hid hun
      have Hbl := Lib.hid (And.intro hbel (And.intro hblk (And.intro hasz hma)))
      have Hsz := Lib.hid hasz
      have hz4 : m * 4 + 4 ≤ arr.size := by omega
      clear hs hbel hblk hasz hma harr hun hm hm4
      rcases hex with rfl | rfl | ⟨q, hq, rfl⟩
      · go_wp2_with fail
        refine (kind_any _ _).mono ?_
        rintro e w2 ⟨rfl, hb⟩
        have hbb := below_on (B := wr.heap.size) hb (show Below wr.heap.size wr _ by go_grown) (by simp)
        have H2 := Lib.hid hbb
        obtain ⟨c0, c1, c2, c3⟩ := cells4 _ _ _ _ _ _ _ _ hb
        rw [show kv 5 = .iface 69 (.agg #[]) from rfl, show isK 5 = true from rfl]
        clear hb hbb
        go_wp2_with fail
        refine (undo_fk 5 _).mono ?_
        rintro e w3 ⟨rfl, hb⟩
        have hbb := H2.out.trans (hb.mono H2.out.size)
        have hPb := (hbb.block G hGlt).trans Hbl.out.2.1
        obtain ⟨q0, q1, q2, q3, f0, f1, f2, f3⟩ := blk_four hPb hz4
        have Hfin := Lib.hid (put_four (o := m * 4) (s := ⟨5, 0, 0, 0, 0⟩) hPb (Hbl.out.1.trans (hbb.mono hsz)) (show w.heap.size ≤ G by omega))
        have Hma := Lib.hid (Hbl.out.2.2.2.step (s := ⟨5, 0, 0, 0, 0⟩) Hun.out hz4)
        obtain ⟨v0, hv0⟩ := q0
        obtain ⟨v1, hv1⟩ := q1
        obtain ⟨v2, hv2⟩ := q2
        obtain ⟨v3, hv3⟩ := q3
        clear hb hbb hPb c0 c1 c2 c3
        go_wp2_with fail
        go_roundw
        case rel => exact ⟨r + 1, by go_num, hrl, Hfin.out.2, Lib.hid ⟨_, Hfin.out.1, by rw [put4_size]; exact Hsz.out, by rw [hm3]; exact Hma.out⟩⟩
        case measure => simp [intOf]; omega
      · go_wp2_with fail
        refine (kind_any _ _).mono ?_
        rintro e w2 ⟨rfl, hb⟩
        have hbb := below_on (B := wr.heap.size) hb (show Below wr.heap.size wr _ by go_grown) (by simp)
        have H2 := Lib.hid hbb
        obtain ⟨c0, c1, c2, c3⟩ := cells4 _ _ _ _ _ _ _ _ hb
        rw [show kv 6 = .iface 69 (.agg #[]) from rfl, show isK 6 = true from rfl]
        clear hb hbb
        go_wp2_with fail
        refine (undo_fk 6 _).mono ?_
        rintro e w3 ⟨rfl, hb⟩
        have hbb := H2.out.trans (hb.mono H2.out.size)
        have hPb := (hbb.block G hGlt).trans Hbl.out.2.1
        obtain ⟨q0, q1, q2, q3, f0, f1, f2, f3⟩ := blk_four hPb hz4
        have Hfin := Lib.hid (put_four (o := m * 4) (s := ⟨6, 0, 0, 0, 0⟩) hPb (Hbl.out.1.trans (hbb.mono hsz)) (show w.heap.size ≤ G by omega))
        have Hma := Lib.hid (Hbl.out.2.2.2.step (s := ⟨6, 0, 0, 0, 0⟩) Hun.out hz4)
        obtain ⟨v0, hv0⟩ := q0
        obtain ⟨v1, hv1⟩ := q1
        obtain ⟨v2, hv2⟩ := q2
        obtain ⟨v3, hv3⟩ := q3
        clear hb hbb hPb c0 c1 c2 c3
        go_wp2_with fail
        go_roundw
        case rel => exact ⟨r + 1, by go_num, hrl, Hfin.out.2, Lib.hid ⟨_, Hfin.out.1, by rw [put4_size]; exact Hsz.out, by rw [hm3]; exact Hma.out⟩⟩
        case measure => simp [intOf]; omega
      · go_wp2_with fail
        refine (kind_any _ _).mono ?_
        rintro e w2 ⟨rfl, hb⟩
        have hbb := below_on (B := wr.heap.size) hb (show Below wr.heap.size wr _ by go_grown) (by simp)
        have H2 := Lib.hid hbb
        obtain ⟨c0, c1, c2, c3⟩ := cells4 _ _ _ _ _ _ _ _ hb
        rw [show kv 7 = .iface 70 (.agg #[]) from rfl, show isK 7 = true from rfl]
        clear hb hbb
        go_wp2_with fail
        refine (undo_t7 q hq _).mono ?_
        rintro e w3 ⟨rfl, hb⟩
        have hbb := H2.out.trans (hb.mono H2.out.size)
        have hPb := (hbb.block G hGlt).trans Hbl.out.2.1
        obtain ⟨q0, q1, q2, q3, f0, f1, f2, f3⟩ := blk_four hPb hz4
        have Hfin := Lib.hid (put_four (o := m * 4) (s := ⟨7, 0, 0, -q % 4, 0⟩) hPb (Hbl.out.1.trans (hbb.mono hsz)) (show w.heap.size ≤ G by omega))
        have Hma := Lib.hid (Hbl.out.2.2.2.step (s := ⟨7, 0, 0, -q % 4, 0⟩) Hun.out hz4)
        obtain ⟨v0, hv0⟩ := q0
        obtain ⟨v1, hv1⟩ := q1
        obtain ⟨v2, hv2⟩ := q2
        obtain ⟨v3, hv3⟩ := q3
        clear hb hbb hPb c0 c1 c2 c3
        go_wp2_with fail
        go_roundw
        case rel => exact ⟨r + 1, by go_num, hrl, Hfin.out.2, Lib.hid ⟨_, Hfin.out.1, by rw [put4_size]; exact Hsz.out, by rw [hm3]; exact Hma.out⟩⟩
        case measure => simp [intOf]; omega
    · obtain rfl : r = n := by omega
      have hrl' : ¬ (r : Int) < (r : Int) := by omega
      rw [Nat.sub_self] at hma
      have hlr : (xs.map unS).reverse.length = r := by rw [List.length_reverse, List.length_map, hn]
      have hcG : CellsS wr G 0 (xs.map unS).reverse := fun i s hs => by
        have e : ∀ j, j < 4 → wr.cell? ⟨G, 0 + i * 4 + j, none⟩ = (Stp.l s)[j]? := fun j hj => by
          rw [Nat.zero_add, blk_cell hblk]
          exact hma i s (Nat.zero_le _) hs j hj
        exact ⟨e 0 (by omega), e 1 (by omega), e 2 (by omega), e 3 (by omega)⟩
      have hGl := lt_of_block hblk
      have cS2 := stepsOk_any G 0 r (xs.map unS).reverse wr hGl (ex_wf (mem_un H.out.1)) hcG
      rw [hlr, exOk (by rw [hlr]; exact hl) (mem_un H.out.1)] at cS2
      have Hf := Lib.hid (And.intro hcG (And.intro hGl hbel))
      clear hbel hblk hasz hma harr hcG
      go_wp2_with fail
      refine cS2.mono ?_
      rintro e w4 ⟨rfl, hb⟩
      have Hf2 := Lib.hid (show CellsS w4 G 0 (xs.map unS).reverse ∧ G < w4.heap.size ∧ Below w.heap.size w w4 from ⟨Hf.out.1.keep Hf.out.2.1 hb, Nat.lt_of_lt_of_le Hf.out.2.1 hb.size, Hf.out.2.2.trans (hb.mono hsz)⟩)
      clear hb cS2
      go_wp2_with fail
      go_ret2
      exact ⟨G, rfl, Hf2.out.1, Hf2.out.2.1, Hf2.out.2.2⟩
end Go.Proofs.Ytpemmmnohlimmaa.Stp
