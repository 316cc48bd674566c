/- Lists of nodes and lists of complex numbers in memory. -/
import Derived.Test.YtlngplohnknhjaaGreatDoorPkA
import Derived.Test.YtlngplohnknhjaaGreatDoorPkB
import Derived.Test.YtlngplohnknhjaaGreatDoorKPickQ
import Derived.Laws.OwnMore
import Derived.OwnWalk
import Derived.Deep.AppendLies
namespace Go.Proofs.YtlngplohnknhjaaGreatDoor.Ex
open Go.ChangeShapes Go.WideShapes Go.ChangeAt Go.RowKit Go.Proofs.YtlngplohnknhjaaGreatDoor Go.Proofs.YtlngplohnknhjaaGreatDoor.Flt Go.Proofs.YtlngplohnknhjaaGreatDoor.Cpx Go.Proofs.YtlngplohnknhjaaGreatDoor.Drw
set_option linter.unusedVariables false
/-! nodes -/
def Nd.l (n : Nd) : List Value := [.int .i64 n.k, .int .i64 n.s, .complex .f64 n.x n.y]
def cN (xs : List Nd) : List Value := xs.flatMap Nd.l
theorem cN_len : ∀ xs : List Nd, (cN xs).length = xs.length * 3
  | [] => rfl
  | s :: r => by
    have := cN_len r
    unfold cN at this ⊢
    simp only [List.flatMap_cons, List.length_append, List.length_cons, this]
    show 3 + r.length * 3 = _
    omega
theorem cN_snoc (xs : List Nd) (s : Nd) : cN xs ++ Nd.l s = cN (xs ++ [s]) := by unfold cN; simp
theorem cN_app (xs ys : List Nd) : cN xs ++ cN ys = cN (xs ++ ys) := by unfold cN; simp
theorem cN_at : ∀ (xs : List Nd) (i j : Nat) (s : Nd), xs[i]? = some s → j < 3 → (cN xs)[i * 3 + j]? = (Nd.l s)[j]?
  | [], i, j, s, h, _ => by simp at h
  | t :: r, 0, j, s, h, hj => by
    obtain rfl : t = s := by simpa using h
    show (Nd.l t ++ cN r)[0 * 3 + j]? = _
    rw [Nat.zero_mul, Nat.zero_add, List.getElem?_append_left (show j < (Nd.l t).length from hj)]
  | t :: r, i + 1, j, s, h, hj => by
    have ih := cN_at r i j s (by simpa using h) hj
    show (Nd.l t ++ cN r)[(i + 1) * 3 + j]? = _
    rw [List.getElem?_append_right (show (Nd.l t).length ≤ _ by show 3 ≤ _; omega), show (Nd.l t).length = 3 from rfl, show (i + 1) * 3 + j - 3 = i * 3 + j by omega, ih]
/-- the cells of a list of nodes -/
def CellsN (w : World) (g off : Nat) (xs : List Nd) : Prop := ∀ (i : Nat) (s : Nd), xs[i]? = some s →
  w.cell? ⟨g, off + i * 3, none⟩ = some (.int .i64 s.k) ∧ w.cell? ⟨g, off + i * 3 + 1, none⟩ = some (.int .i64 s.s) ∧ w.cell? ⟨g, off + i * 3 + 2, none⟩ = some (.complex .f64 s.x s.y)
theorem CellsN.keep {w w' : World} {g off B : Nat} {xs : List Nd} (h : CellsN w g off xs) (hg : g < B) (hb : Below B w w') : CellsN w' g off xs := fun i s hs => by
  obtain ⟨a, b, c⟩ := h i s hs
  exact ⟨(hb.cell (by exact hg)).trans a, (hb.cell (by exact hg)).trans b, (hb.cell (by exact hg)).trans c⟩
theorem CellsN.only {w w' : World} {g off B : Nat} {xs : List Nd} (h : CellsN w g off xs) (hg : g < w.heap.size) (hB : g ≠ B) (hb : Only B w w') : CellsN w' g off xs := fun i s hs => by
  obtain ⟨a, b, c⟩ := h i s hs
  exact ⟨(hb.cell (by exact hg) (by exact hB)).trans a, (hb.cell (by exact hg) (by exact hB)).trans b, (hb.cell (by exact hg) (by exact hB)).trans c⟩
/-- the cells, one after the other -/
theorem CellsN.flat {w : World} {g : Nat} {xs : List Nd} (h : CellsN w g 0 xs) : ∀ j u, (cN xs)[j]? = some u → w.cell? ((⟨g, 0, none⟩ : Addr).add j) = some u := fun j u hu => by
  have e : (⟨g, 0, none⟩ : Addr).add j = ⟨g, j, none⟩ := by unfold Addr.add; split <;> simp_all
  rw [e]
  have hj : j < xs.length * 3 := by
    rcases Nat.lt_or_ge j (cN xs).length with h1 | h1
    · rw [cN_len] at h1; exact h1
    · rw [List.getElem?_eq_none h1] at hu; cases hu
  have hi : j / 3 < xs.length := by omega
  obtain ⟨s, hs⟩ : ∃ s, xs[j / 3]? = some s := ⟨_, List.getElem?_eq_getElem hi⟩
  have hjj : j / 3 * 3 + j % 3 = j := by omega
  have e2 := cN_at xs (j / 3) (j % 3) s hs (by omega)
  rw [hjj, hu] at e2
  obtain ⟨a, b, c⟩ := h _ s hs
  have h3 : j % 3 = 0 ∨ j % 3 = 1 ∨ j % 3 = 2 := by omega
  rcases h3 with h3 | h3 | h3
  · rw [h3] at e2; rw [show 0 + j / 3 * 3 = j by omega] at a; rw [a]; exact e2.symm
  · rw [h3] at e2; rw [show 0 + j / 3 * 3 + 1 = j by omega] at b; rw [b]; exact e2.symm
  · rw [h3] at e2; rw [show 0 + j / 3 * 3 + 2 = j by omega] at c; rw [c]; exact e2.symm
/-- a list of nodes of the call's own -/
def OwnN (base : Nat) (w : World) (v : Value) (n : Nat) (xs : List Nd) : Prop := w.ownsRow base 44 3 v n (cN xs)
theorem OwnN.cells {base : Nat} {w : World} {g n cap : Nat} {xs : List Nd} (h : OwnN base w (.slice (some ⟨g, 0, none⟩) n cap) n xs) (hn : xs.length = n) : CellsN w g 0 xs ∧ g < w.heap.size ∧ base ≤ g := by
  have h' := h
  unfold OwnN at h'
  refine ⟨fun i s hs => ?_, ?_⟩
  · have hi : i < n := by
      rcases Nat.lt_or_ge i xs.length with h1 | h1
      · omega
      · rw [List.getElem?_eq_none h1] at hs; cases hs
    have e : ∀ j, j < 3 → w.cell? ⟨g, 0 + i * 3 + j, none⟩ = (Nd.l s)[j]? := fun j hj => by
      rw [← cN_at xs i j s hs hj, Nat.zero_add]
      exact World.ownsRow.cellAt h' (i * 3 + j) (by omega)
    exact ⟨e 0 (by omega), e 1 (by omega), e 2 (by omega)⟩
  · obtain ⟨h1, h2⟩ := World.ownsRow.lt h' g rfl
    exact ⟨h2, h1⟩
theorem infoN : (Tryz.prog.info? 44).map (fun i => (i.zero, i.size, i.bytes)) = some (some (.agg #[.int .i64 0, .int .i64 0, .complex .f64 0 0]), 3, 32) := by kernel_rfl
theorem info_partsN : ∃ i, Tryz.prog.info? 44 = some i ∧ i.zero = some (.agg #[.int .i64 0, .int .i64 0, .complex .f64 0 0]) ∧ i.size = 3 ∧ i.bytes = 32 := by
  have h := infoN
  cases hi : Tryz.prog.info? 44 with
  | none => rw [hi] at h; cases h
  | some i =>
    rw [hi] at h
    simp only [Option.map_some, Option.some.injEq, Prod.mk.injEq] at h
    exact ⟨i, rfl, h.1, h.2.1, h.2.2⟩
theorem litN0 (w : World) : OwnN w.heap.size (w.alloc (.cells #[] 44)) (.slice (some ⟨w.heap.size, 0, none⟩) 0 0) 0 [] :=
  World.ownsRow_lit (base := w.heap.size) (e := 44) (size := 3) w #[] 0 (Nat.le_refl _) (Nat.zero_le _) rfl
theorem litN1 (w : World) (base : Nat) (hb : base ≤ w.heap.size) (n : Nd) : OwnN base (w.alloc (.cells n.c 44)) (.slice (some ⟨w.heap.size, 0, none⟩) 1 1) 1 [n] :=
  World.ownsRow_lit (base := base) (e := 44) (size := 3) w n.c 1 hb (by decide) rfl
theorem one_cellN (wr : World) (s : Nd) : ∀ j u, (Nd.l s)[j]? = some u → (wr.alloc (.cells #[.int .i64 s.k, .int .i64 s.s, .complex .f64 s.x s.y] 44)).cell? ((⟨wr.heap.size, 0, none⟩ : Addr).add j) = some u := by
  intro j u hj
  have e : (⟨wr.heap.size, 0, none⟩ : Addr).add j = ⟨wr.heap.size, j, none⟩ := by unfold Addr.add; split <;> simp_all
  rw [e, cell_of_row _ wr.heap.size j _ 44 (0, 0) (block_new wr _)]
  unfold Nd.l at hj
  simpa using hj
theorem one_oneN (s : Nd) : ∀ u ∈ Nd.l s, u.oneCell' = true := by
  intro u hu
  unfold Nd.l at hu
  simp at hu
  rcases hu with rfl | rfl | rfl <;> rfl
theorem all_oneN (xs : List Nd) : ∀ u ∈ cN xs, u.oneCell' = true := by
  intro u hu
  unfold cN at hu
  obtain ⟨s, _, hs⟩ := List.mem_flatMap.1 hu
  exact one_oneN s u hs
/-! complex numbers -/
theorem infoZ : (Tryz.prog.info? 42).map (fun i => (i.zero, i.size, i.bytes)) = some (some (.complex .f64 0 0), 1, 16) := by kernel_rfl
theorem info_partsZ : ∃ i, Tryz.prog.info? 42 = some i ∧ i.zero = some (.complex .f64 0 0) ∧ i.size = 1 ∧ i.bytes = 16 := by
  have h := infoZ
  cases hi : Tryz.prog.info? 42 with
  | none => rw [hi] at h; cases h
  | some i =>
    rw [hi] at h
    simp only [Option.map_some, Option.some.injEq, Prod.mk.injEq] at h
    exact ⟨i, rfl, h.1, h.2.1, h.2.2⟩
def cZ (xs : List (Nat × Nat)) : List Value := xs.map fun p => Value.complex .f64 p.1 p.2
/-- a list of complex numbers of the call's own -/
def OwnZ (base : Nat) (w : World) (v : Value) (n : Nat) (xs : List (Nat × Nat)) : Prop := w.ownsRow base 42 1 v n (cZ xs)
theorem nilZ (base : Nat) (w : World) : OwnZ base w (.slice none 0 0) 0 [] := ⟨rfl, .inl ⟨rfl, rfl⟩⟩
theorem litZ0 (w : World) : OwnZ w.heap.size (w.alloc (.cells #[] 42)) (.slice (some ⟨w.heap.size, 0, none⟩) 0 0) 0 [] :=
  World.ownsRow_lit (base := w.heap.size) (e := 42) (size := 1) w #[] 0 (Nat.le_refl _) (Nat.zero_le _) rfl
theorem one_cellZ (wr : World) (x y : Nat) : ∀ j u, [Value.complex .f64 x y][j]? = some u → (wr.alloc (.cells #[.complex .f64 x y] 42)).cell? ((⟨wr.heap.size, 0, none⟩ : Addr).add j) = some u := by
  intro j u hj
  have e : (⟨wr.heap.size, 0, none⟩ : Addr).add j = ⟨wr.heap.size, j, none⟩ := by unfold Addr.add; split <;> simp_all
  rw [e, cell_of_row _ wr.heap.size j #[.complex .f64 x y] 42 (0, 0) (block_new wr _)]
  simpa using hj
theorem one_oneZ (x y : Nat) : ∀ u ∈ [Value.complex .f64 x y], u.oneCell' = true := by
  intro u hu
  simp at hu
  subst hu
  rfl
theorem cZ_snoc (xs : List (Nat × Nat)) (x y : Nat) : cZ xs ++ [.complex .f64 x y] = cZ (xs ++ [(x, y)]) := by unfold cZ; simp
/-- the cells of a list of complex numbers -/
def CellsZ (w : World) (g off : Nat) (xs : List (Nat × Nat)) : Prop := ∀ (i : Nat) (p : Nat × Nat), xs[i]? = some p → w.cell? ⟨g, off + i, none⟩ = some (.complex .f64 p.1 p.2)
theorem CellsZ.keep {w w' : World} {g off B : Nat} {xs : List (Nat × Nat)} (h : CellsZ w g off xs) (hg : g < B) (hb : Below B w w') : CellsZ w' g off xs := fun i s hs => (hb.cell (by exact hg)).trans (h i s hs)
theorem OwnZ.cells {base : Nat} {w : World} {g n cap : Nat} {xs : List (Nat × Nat)} (h : OwnZ base w (.slice (some ⟨g, 0, none⟩) n cap) n xs) (hn : xs.length = n) : CellsZ w g 0 xs ∧ g < w.heap.size ∧ base ≤ g := by
  have h' := h
  unfold OwnZ at h'
  refine ⟨fun i s hs => ?_, ?_⟩
  · have hi : i < n := by
      rcases Nat.lt_or_ge i xs.length with h1 | h1
      · omega
      · rw [List.getElem?_eq_none h1] at hs; cases hs
    have e := World.ownsRow.cellAt h' i (by omega)
    rw [Nat.zero_add, e]
    unfold cZ
    rw [List.getElem?_map, hs]; rfl
  · obtain ⟨h1, h2⟩ := World.ownsRow.lt h' g rfl
    exact ⟨h2, h1⟩
/-! rows -/
theorem only_grown {B : Nat} {a w w' : World} {row : Option Nat} (h : Only B a w) (hg : w.grownBy w' row) (hr : ∀ k, row = some k → a.heap.size ≤ k) : Only B a w' :=
  ⟨hg.os.trans h.os, hg.tape.trans h.tape, hg.output.trans h.output, Nat.le_trans h.size hg.size, fun k hk hn => (hg.block k (Nat.lt_of_lt_of_le hk h.size) (fun e => by have := hr k e.symm; omega)).trans (h.block k hk hn)⟩
theorem owns_only {B : Nat} {w w' : World} {base e size n : Nat} {v : Value} {xs : List Value} (h : w.ownsRow base e size v n xs) (ho : Only B w w') (hB : B < base) : w'.ownsRow base e size v n xs := by
  refine ⟨h.1, ?_⟩
  rcases h.2 with hn | ⟨g, cap, cur, rfl, hb, hg, rest⟩
  · exact .inl hn
  · exact .inr ⟨g, cap, cur, rfl, hb, (ho.block g (lt_of_block hg) (by omega)).trans hg, rest⟩
theorem cur_grown {base B : Nat} {w w' : World} {row : Option Nat} (hc : Cur base w B) (hg : w.grownBy w' row) (hr : ∀ k, row = some k → B < k) : Cur base w' B := by
  have hB := hc.1
  have hlt := hc.lt
  obtain ⟨_, a, len, cap, zs, i, h, hb, h0, h1, hr', ha⟩ := hc
  exact Cur.mk' hB hr' ha ((Below.refl base w).grown hg (by omega) (fun k hk => by have := hr k hk; omega)) h0 h1 ((hg.block B hlt (fun e => by have := hr B e.symm; omega)).trans hb)
theorem own_below {base e size n B : Nat} {w w' : World} {v : Value} {xs : List Value} (h : w.ownsRow base e size v n xs) (hB : w.heap.size ≤ B) (hb : Below B w w') : w'.ownsRow base e size v n xs := by
  refine ⟨h.1, ?_⟩
  rcases h.2 with hn | ⟨g, cap, cur, rfl, hbg, hg, rest⟩
  · exact .inl hn
  · exact .inr ⟨g, cap, cur, rfl, hbg, (hb.block g (Nat.lt_of_lt_of_le (lt_of_block hg) hB)).trans hg, rest⟩
theorem own_mono {base b e size n : Nat} {w : World} {v : Value} {xs : List Value} (h : w.ownsRow b e size v n xs) (hb : base ≤ b) : w.ownsRow base e size v n xs := by
  refine ⟨h.1, ?_⟩
  rcases h.2 with hn | ⟨g, cap, cur, e', hb', rest⟩
  · exact .inl hn
  · exact .inr ⟨g, cap, cur, e', Nat.le_trans hb hb', rest⟩
theorem owns_cap {w : World} {base e size k cp g : Nat} {xs : List Value} (h : w.ownsRow base e size (.slice (some ⟨g, 0, none⟩) k cp) k xs) : k ≤ cp := by
  rcases h.2 with ⟨h', _⟩ | ⟨g', cap', cur, h', _, hg, h3, h4⟩
  · simp at h'
  · simp only [Value.slice.injEq] at h'
    obtain ⟨_, _, rfl⟩ := h'
    exact h3
/-- the first elements of a row -/
theorem own_take {w : World} {base e size n cp g k : Nat} {xs : List Value} (h : w.ownsRow base e size (.slice (some ⟨g, 0, none⟩) n cp) n xs) (hk : k ≤ n) : w.ownsRow base e size (.slice (some ⟨g, 0, none⟩) k cp) k (xs.take (k * size)) := by
  have hks : k * size ≤ n * size := Nat.mul_le_mul_right _ hk
  refine ⟨by rw [List.length_take, h.1]; exact Nat.min_eq_left hks, ?_⟩
  rcases h.2 with ⟨h', _⟩ | ⟨g', cap', cur, h', hb, hg, h3, h4, h5, h6⟩
  · simp at h'
  · simp only [Value.slice.injEq] at h'
    obtain ⟨e1, _, rfl⟩ := h'
    cases e1
    refine .inr ⟨g, cp, cur, rfl, hb, hg, by omega, h4, h5, ?_⟩
    rw [← h6, List.take_take, Nat.min_eq_left hks]
end Go.Proofs.YtlngplohnknhjaaGreatDoor.Ex
