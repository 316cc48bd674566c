/- copy of points (two cells each) into a row that is known whole. -/
import Derived.Test.YtbmojogohffhaaaMirS
import Derived.Laws.CopyRow
import Derived.Laws.IdiomCopy
import Derived.Tactics
import Derived.Below
import Derived.Deep.RegionLaw
namespace Go.Proofs.Ytbmojogohffhaaa.Pnt
open Go.ChangeShapes Go.WideShapes Go.ChangeAt Go.RowKit Go.Deep Go.Proofs.Ytbmojogohffhaaa Go.Proofs.Ytbmojogohffhaaa.Flt Go.Proofs.Ytbmojogohffhaaa.Mth
set_option linter.unusedVariables false
section
variable {P : Program}
theorem run_copy2 (w : World) (dT sT ty elem : TypeId) (g o dLen dCap : Nat) (a : Addr) (sLen sCap : Nat) (cur : Array Value) (t : TypeId) (cs : List Value)
    (hu : P.underlying dT = some (.slice elem)) (hs : (P.info? elem).map (·.size) = some 2)
    (hg : w.heap[g]? = some (.cells cur t (0, 0))) (hn : cs.length = Nat.min sLen dLen * 2)
    (hsrc : ∀ j v, cs[j]? = some v → w.cell? (a.add j) = some v) (hfit : o + cs.length ≤ cur.size) (h1 : ∀ v ∈ cs, v.oneCell' = true) :
    (Builtin.copy_ #[dT, sT] ty #[.slice (some ⟨g, o, none⟩) dLen dCap, .slice (some a) sLen sCap]).run P w =
      .ok (goInt (Nat.min sLen dLen)) (w.setRow g (cur.toList.take o ++ cs ++ cur.toList.drop (o + cs.length)).toArray) := by
  have hl := run_loadCells_list (P := P) w a cs hsrc
  have hst := run_storeCells_at P g o t cs 0 cur w hg (by simpa using hfit) h1
  cases hq : P.info? elem with
  | none => simp [hq] at hs
  | some i =>
    have hi : i.size = 2 := by simpa [hq] using hs
    simp [Builtin.copy_, run_underlying hu, Builtin.lenOf, Builtin.firstCells, sizeOf, typeInfo, hq, hi, ← hn, hl, hst]
theorem run_copy2_none (w : World) (dT sT ty elem : TypeId) (d a : Option Addr) (dLen dCap sLen sCap : Nat) (hu : P.underlying dT = some (.slice elem)) (hs : (P.info? elem).map (·.size) = some 2) (hn : Nat.min sLen dLen = 0) :
    (Builtin.copy_ #[dT, sT] ty #[.slice d dLen dCap, .slice a sLen sCap]).run P w = .ok (goInt 0) w := by
  cases hq : P.info? elem with
  | none => simp [hq] at hs
  | some i =>
    have hl : ∀ (x : Addr), (loadCells x 0).run P w = .ok #[] w := fun x => by simpa using run_loadCells_list (P := P) w x [] (by simp)
    cases d <;> cases a <;> simp [Builtin.copy_, run_underlying hu, Builtin.lenOf, Builtin.firstCells, sizeOf, typeInfo, hq, hn, storeCells, hl]
end
/-- 'Y' laid over 'Z' from cell 'o' on, 'L' cells -/
def spl (Z : Nat → Nat) (o : Nat) (Y : Nat → Nat) (L : Nat) : Nat → Nat := fun j => if o ≤ j ∧ j < o + L then Y (j - o) else Z j
theorem spl_flat (Z Y : Nat → Nat) (o L M : Nat) (h : o + L ≤ M) : (flat Z M).take o ++ flat Y L ++ (flat Z M).drop (o + L) = flat (spl Z o Y L) M := by
  apply List.ext_getElem?
  intro j
  have ht : ((flat Z M).take o).length = o := by rw [List.length_take, flat_len]; omega
  by_cases hj : j < M
  · rw [flat_at hj]
    unfold spl
    by_cases h1 : j < o
    · rw [if_neg (by omega), List.getElem?_append_left (by rw [List.length_append, ht, flat_len]; omega), List.getElem?_append_left (by rw [ht]; exact h1), List.getElem?_take, if_pos h1, flat_at hj]
    · by_cases h2 : j < o + L
      · rw [if_pos ⟨by omega, h2⟩, List.getElem?_append_left (by rw [List.length_append, ht, flat_len]; omega), List.getElem?_append_right (by rw [ht]; omega), ht, flat_at (by omega)]
      · rw [if_neg (by omega), List.getElem?_append_right (by rw [List.length_append, ht, flat_len]; omega), List.getElem?_drop, List.length_append, ht, flat_len, show o + L + (j - (o + L)) = j by omega, flat_at hj]
  · rw [List.getElem?_eq_none (by rw [List.length_append, List.length_append, ht, flat_len, List.length_drop, flat_len]; omega), List.getElem?_eq_none (by rw [flat_len]; omega)]
/-- block 'g' is just the row of 'm' points -/
def Full (w : World) (g m : Nat) (Z : Nat → Nat) : Prop := w.heap[g]? = some (.cells (flat Z (m * 2)).toArray 32 (0, 0))
theorem Full.own {w : World} {g m base : Nat} {Z : Nat → Nat} (h : Full w g m Z) (hb : base ≤ g) (hm : m ≤ 1048576) : OwnQ base w (.slice (some ⟨g, 0, none⟩) m m) m Z :=
  ⟨flat_len _ _, .inr ⟨g, m, _, rfl, hb, h, Nat.le_refl _, by unfold maxLen; omega, by simp [flat_len], by simp [flat_len, List.take_of_length_le]⟩⟩
theorem Full.keep {w w' : World} {g m B : Nat} {Z : Nat → Nat} (h : Full w g m Z) (hB : g < B) (hb : Below B w w') : Full w' g m Z := (hb.block g hB).trans h
theorem Full.store {w : World} {g m i x : Nat} {Z : Nat → Nat} (h : Full w g m Z) : Full (w.setCell ⟨g, i, none⟩ (.float .f32 x)) g m (upd Z i x) := by
  unfold Full at h ⊢
  rw [block_setCell h, ← flat_set, List.setIfInBounds_toArray]
theorem Full.cell {w : World} {g m i : Nat} {Z : Nat → Nat} (h : Full w g m Z) (hi : i < m * 2) : w.cell? ⟨g, i, none⟩ = some (.float .f32 (Z i)) := by
  rw [cell_of_row w g i _ _ _ h]
  simp [flat_at hi]
theorem Full.free {w : World} {g m i : Nat} {Z : Nat → Nat} (h : Full w g m Z) : w.frozen? ⟨g, i, none⟩ = false := by
  unfold Full at h
  simp [World.frozen?, h]
theorem Full.made (m : Nat) (w : World) : Full (w.alloc (.cells (madeCells #[.float .f32 0, .float .f32 0] (m * 2)) 32)) w.heap.size m (fun _ => 0) := by
  unfold Full
  rw [block_new]
  congr 2
  apply Array.ext
  · simp [size_madeCells, flat_len]
  · intro i h1 h2
    have hi : i < m * 2 := by rw [size_madeCells] at h1; exact h1
    have h3 : i % 2 = 0 ∨ i % 2 = 1 := by omega
    rcases h3 with h3 | h3 <;> simp [madeCells, flat, h3]
theorem size2 : (Try.prog.info? 32).map (·.size) = some 2 := by
  obtain ⟨i, hi, _, hs, _⟩ := info_partsP
  rw [hi]; simp [hs]
theorem flat_one (Y : Nat → Nat) (L : Nat) : ∀ v ∈ flat Y L, v.oneCell' = true := by
  intro v hv
  unfold flat at hv
  rw [List.mem_map] at hv
  obtain ⟨j, _, rfl⟩ := hv
  rfl
/-- what a copy leaves -/
theorem copy_leaves {w w0 : World} {g m o L B : Nat} {Z Y : Nat → Nat} (h : Full w g m Z) (hfit : o + L ≤ m * 2) (hb : Below B w0 w) (hBg : B ≤ g) :
    Full (w.setRow g ((flat Z (m * 2)).toArray.toList.take o ++ flat Y L ++ (flat Z (m * 2)).toArray.toList.drop (o + (flat Y L).length)).toArray) g m (spl Z o Y L) ∧ Below B w0 (w.setRow g ((flat Z (m * 2)).toArray.toList.take o ++ flat Y L ++ (flat Z (m * 2)).toArray.toList.drop (o + (flat Y L).length)).toArray) := by
  constructor
  · unfold Full at h ⊢
    rw [setRow_heap w g _ _ _ _ h, flat_len, ← spl_flat Z Y o L (m * 2) hfit]
  · exact hb.trans ⟨rfl, rfl, rfl, by simp [World.setRow], fun k hk => setRow_other w g k _ (by omega)⟩
/-- a copy that is to be run: the world behind it -/
theorem copyQ_run {w w0 : World} {g m off k dLen dCap sLen sCap B : Nat} {ad : Addr} {Z Y : Nat → Nat} (hg : Full w g m Z) (hk : k = Nat.min sLen dLen)
    (hsrc : ∀ j, j < k * 2 → w.cell? (ad.add j) = some (.float .f32 (Y j))) (hfit : off + k * 2 ≤ m * 2) (hb : Below B w0 w) (hBg : B ≤ g) :
    ∃ w', (Builtin.copy_ #[24, 24] 3 #[.slice (some ⟨g, off, none⟩) dLen dCap, .slice (some ad) sLen sCap]).run Try.prog w = .ok (.int .i64 (k : Int)) w' ∧ Full w' g m (spl Z off Y (k * 2)) ∧ Below B w0 w' := by
  have hrun := run_copy2 (P := Try.prog) w 24 24 3 32 g off dLen dCap ad sLen sCap _ _ (flat Y (k * 2)) Try.underlying24 size2 hg (by rw [flat_len, hk])
    (fun j v hv => by
      have hj : j < k * 2 := by
        have := (List.getElem?_eq_some_iff.1 hv).1
        rw [flat_len] at this; exact this
      rw [flat_at hj] at hv
      cases hv
      exact hsrc j hj) (by simp [flat_len]; omega) (flat_one _ _)
  rw [← hk] at hrun
  obtain ⟨l1, l2⟩ := copy_leaves (Y := Y) hg hfit hb hBg
  exact ⟨_, hrun, l1, l2⟩
theorem copyQ_none {w : World} {dp sp : Option Addr} {dLen dCap sLen sCap : Nat} (hk : Nat.min sLen dLen = 0) :
    (Builtin.copy_ #[24, 24] 3 #[.slice dp dLen dCap, .slice sp sLen sCap]).run Try.prog w = .ok (.int .i64 0) w :=
  run_copy2_none (P := Try.prog) w 24 24 3 32 dp sp dLen dCap sLen sCap Try.underlying24 size2 hk
theorem wpList_copyQ {w : World} {ops : Array Oper} {rest : List Oper} {o : Oper} {a : Act} {Q : Exit → Act → World → Prop} (hgd : o.guard = none) (d s : Operand)
    (ho : o.op = .call { callee := .builtin .copy, args := #[d, s], argTypes := #[24, 24] })
    (dp sp : Option Addr) (dLen dCap sLen sCap : Nat) (hd : a.eval d = .slice dp dLen dCap) (hs : a.eval s = .slice sp sLen sCap)
    (g m off k : Nat) (Z Y : Nat → Nat) (hg : Full w g m Z) (hk : k = Nat.min sLen dLen)
    (hpos : 0 < k → dp = some ⟨g, off, none⟩ ∧ ∃ ad, sp = some ad ∧ ∀ j, j < k * 2 → w.cell? (ad.add j) = some (.float .f32 (Y j)))
    (hfit : off + k * 2 ≤ m * 2) (B : Nat) (w0 : World) (hb : Below B w0 w) (hBg : B ≤ g)
    (h : ∀ w', Hid (Full w' g m (spl Z off Y (k * 2))) → Below B w0 w' → wpList Try.prog ops Q rest (a.put o.dst (goInt k)) w') :
    wpList Try.prog ops Q (o :: rest) a w := by
  refine wpList_plain hgd fun K hK => ?_
  by_cases h0 : k = 0
  · subst h0
    have hrun := run_copy2_none (P := Try.prog) w 24 24 o.type 32 dp sp dLen dCap sLen sCap Try.underlying24 size2 hk.symm
    unfold Oper.wp
    simp [execOp, ho, resolve, invoke, builtin, hd, hs, hrun, Result.andThen]
    refine hK _ _ (h w ?_ hb)
    show Full w g m _
    unfold Full at hg ⊢
    rw [hg, flat_congr (Y := spl Z off Y (0 * 2)) (fun j _ => by unfold spl; rw [if_neg (by omega)])]
  · obtain ⟨rfl, ad, rfl, hsrc⟩ := hpos (by omega)
    have hrun := run_copy2 (P := Try.prog) w 24 24 o.type 32 g off dLen dCap ad sLen sCap _ _ (flat Y (k * 2)) Try.underlying24 size2 hg (by rw [flat_len, hk])
      (fun j v hv => by
        have hj : j < k * 2 := by
          have := (List.getElem?_eq_some_iff.1 hv).1
          rw [flat_len] at this; exact this
        rw [flat_at hj] at hv
        cases hv
        exact hsrc j hj) (by simp [flat_len]; omega) (flat_one _ _)
    rw [← hk] at hrun
    obtain ⟨l1, l2⟩ := copy_leaves (Y := Y) hg hfit hb hBg
    unfold Oper.wp
    simp [execOp, ho, resolve, invoke, builtin, hd, hs, hrun, Result.andThen]
    exact hK _ _ (h _ (Lib.hid (by simpa using l1)) (by simpa using l2))
theorem step_copyQ {w : World} {ops : Array Oper} {o : Oper} {a : Act} {K : Act → World → Prop} {Q : Exit → Act → World → Prop} {E : Prop} (hgd : o.guard = none) (d s : Operand)
    (ho : o.op = .call { callee := .builtin .copy, args := #[d, s], argTypes := #[24, 24] })
    (dp sp : Option Addr) (dLen dCap sLen sCap : Nat) (hd : a.eval d = .slice dp dLen dCap) (hs : a.eval s = .slice sp sLen sCap)
    (g m off k : Nat) (Z Y : Nat → Nat) (hg : Full w g m Z) (hk : k = Nat.min sLen dLen)
    (hpos : 0 < k → dp = some ⟨g, off, none⟩ ∧ ∃ ad, sp = some ad ∧ ∀ j, j < k * 2 → w.cell? (ad.add j) = some (.float .f32 (Y j)))
    (hfit : off + k * 2 ≤ m * 2) (B : Nat) (w0 : World) (hb : Below B w0 w) (hBg : B ≤ g)
    (h : ∀ w', Hid (Full w' g m (spl Z off Y (k * 2))) → Below B w0 w' → K (a.put o.dst (goInt k)) w') :
    if Region.wanted o (yielded ops a.tmps) = true then Oper.wp Try.prog o a w K Q else E := by
  have hw : Region.wanted o (yielded ops a.tmps) = true := by simp [Region.wanted, hgd]
  rw [if_pos hw]
  by_cases h0 : k = 0
  · subst h0
    have hrun := run_copy2_none (P := Try.prog) w 24 24 o.type 32 dp sp dLen dCap sLen sCap Try.underlying24 size2 hk.symm
    unfold Oper.wp
    simp [execOp, ho, resolve, invoke, builtin, hd, hs, hrun, Result.andThen]
    refine (h w ?_ hb)
    show Full w g m _
    unfold Full at hg ⊢
    rw [hg, flat_congr (Y := spl Z off Y (0 * 2)) (fun j _ => by unfold spl; rw [if_neg (by omega)])]
  · obtain ⟨rfl, ad, rfl, hsrc⟩ := hpos (by omega)
    have hrun := run_copy2 (P := Try.prog) w 24 24 o.type 32 g off dLen dCap ad sLen sCap _ _ (flat Y (k * 2)) Try.underlying24 size2 hg (by rw [flat_len, hk])
      (fun j v hv => by
        have hj : j < k * 2 := by
          have := (List.getElem?_eq_some_iff.1 hv).1
          rw [flat_len] at this; exact this
        rw [flat_at hj] at hv
        cases hv
        exact hsrc j hj) (by simp [flat_len]; omega) (flat_one _ _)
    rw [← hk] at hrun
    obtain ⟨l1, l2⟩ := copy_leaves (Y := Y) hg hfit hb hBg
    unfold Oper.wp
    simp [execOp, ho, resolve, invoke, builtin, hd, hs, hrun, Result.andThen]
    exact (h _ (Lib.hid (by simpa using l1)) (by simpa using l2))
end Go.Proofs.Ytbmojogohffhaaa.Pnt
