/- append of points to a list of the call's own: the run with the world behind it. -/
import Derived.Test.YtbmojogohffhaaaWit
import Derived.Test.YtbmojogohffhaaaItp
namespace Go.Proofs.Ytbmojogohffhaaa.Pnt
open Go.ChangeShapes Go.WideShapes Go.ChangeAt Go.RowKit Go.Deep Go.Proofs.Ytbmojogohffhaaa Go.Proofs.Ytbmojogohffhaaa.Flt Go.Proofs.Ytbmojogohffhaaa.Mth
open Ieee (single double)
set_option linter.unusedVariables false
theorem flat_app (Z Y : Nat → Nat) (a b : Nat) : flat Z a ++ flat Y b = flat (spl Z a Y b) (a + b) := by
  apply List.ext_getElem?
  intro j
  by_cases h1 : j < a
  · rw [List.getElem?_append_left (by rw [flat_len]; exact h1), flat_at h1, flat_at (by omega), spl_eq, if_neg (by omega)]
  · by_cases h2 : j < a + b
    · rw [List.getElem?_append_right (by rw [flat_len]; omega), flat_len, flat_at (by omega), flat_at h2, spl_eq, if_pos (by omega)]
    · rw [List.getElem?_eq_none (by rw [List.length_append, flat_len, flat_len]; omega), List.getElem?_eq_none (by rw [flat_len]; omega)]
section
variable {P : Program}
theorem run_append_zero (w : World) (t ty e : TypeId) (i : TypeInfo) (ht : P.underlying t = some (.slice e)) (hi : P.info? e = some i) (b : Addr) (n cap : Nat) (a : Option Addr) (c : Nat) (h : n ≤ cap) :
    (Builtin.append_ #[t, t] ty #[.slice (some b) n cap, .slice a 0 c]).run P w = .ok (.slice (some b) n cap) w := by
  have hl : ∀ (x : Addr), (loadCells x 0).run P w = .ok #[] w := fun x => by simpa using run_loadCells_list (P := P) w x [] (by simp)
  have hlt : ¬ (n + 0 > cap) := by omega
  cases a <;> simp [Builtin.append_, run_underlying ht, sizeOf, typeInfo, hi, Builtin.lenOf, Builtin.firstCells, h, hl, storeCells]
end
theorem appQ {base n cap m c g : Nat} {Z Y : Nat → Nat} {ad : Addr} {w : World} (h : OwnQ base w (.slice (some ⟨g, 0, none⟩) n cap) n Z)
    (hsrc : ∀ j, j < m * 2 → w.cell? (ad.add j) = some (.float .f32 (Y j))) (hn : n + m ≤ 3000000) (hbase : base ≤ w.heap.size) :
    ∃ g' cap' w', (Builtin.append_ #[24, 24] 24 #[.slice (some ⟨g, 0, none⟩) n cap, .slice (some ad) m c]).run Try.prog w = .ok (.slice (some ⟨g', 0, none⟩) (n + m) cap') w' ∧
      OwnQ base w' (.slice (some ⟨g', 0, none⟩) (n + m) cap') (n + m) (spl Z (n * 2) Y (m * 2)) ∧ Below base w w' := by
  obtain ⟨i, hi, hz, hs, hby⟩ := info_partsP
  obtain ⟨v', w', hr, h2, h3, h4⟩ := run_append_own (P := Try.prog) w base 24 24 32 i (pv 0 0) 2 8 Try.underlying24 hi hz hs hby rfl (by decide)
    (.slice (some ⟨g, 0, none⟩) n cap) n (flat Z (n * 2)) h ad m c (flat Y (m * 2)) (flat_len _ _)
    (fun j u hu => by
      have hj : j < m * 2 := by
        have := (List.getElem?_eq_some_iff.1 hu).1
        rw [flat_len] at this; exact this
      rw [flat_at hj] at hu
      cases hu
      exact hsrc j hj) (flat_one _ _) (by unfold maxLen; omega) (by omega) hbase
  rw [flat_app, show n * 2 + m * 2 = (n + m) * 2 by omega] at h2
  have hbel : Below base w w' := (Below.refl base w).grown h3 hbase (fun j hj => (World.ownsRow.lt h j hj).1)
  rcases h2.2 with ⟨e, _⟩ | ⟨g', cap', cur, e, _⟩
  · have := (h4.1 e).1
    cases this
  · subst e
    exact ⟨g', cap', w', hr, h2, hbel⟩
theorem appQ0 {n cap g c : Nat} {a : Option Addr} {w : World} (h : n ≤ cap) :
    (Builtin.append_ #[24, 24] 24 #[.slice (some ⟨g, 0, none⟩) n cap, .slice a 0 c]).run Try.prog w = .ok (.slice (some ⟨g, 0, none⟩) n cap) w := by
  obtain ⟨i, hi, _⟩ := info_partsP
  exact run_append_zero w _ _ _ i Try.underlying24 hi _ _ _ _ _ h
/-- a list that lies anywhere is appended to an empty one -/
theorem appL {base cap m c g : Nat} {Z Y : Nat → Nat} {a : Option Addr} {w : World} (h : OwnQ base w (.slice (some ⟨g, 0, none⟩) 0 cap) 0 Z) (hL : Lst w a m Y) (hn : m ≤ 1048576) (hbase : base ≤ w.heap.size) :
    ∃ g' cap' w', (Builtin.append_ #[24, 24] 24 #[.slice (some ⟨g, 0, none⟩) 0 cap, .slice a m c]).run Try.prog w = .ok (.slice (some ⟨g', 0, none⟩) m cap') w' ∧
      OwnQ base w' (.slice (some ⟨g', 0, none⟩) m cap') m Y ∧ Below base w w' := by
  obtain ⟨hw, h0 | ⟨b, off, rfl, hlt, hc⟩⟩ := hL
  · subst h0
    exact ⟨g, cap, w, appQ0 (Nat.zero_le _), h.zero, Below.refl _ _⟩
  · obtain ⟨g', cap', w', hr, ho, hb⟩ := appQ (m := m) (c := c) (ad := ⟨b, off, none⟩) (Y := Y) h (fun j hj => by
      rw [addr_add]
      obtain ⟨c0, c1⟩ := hc (j / 2) (by omega)
      rcases Nat.mod_two_eq_zero_or_one j with e | e
      · rw [show off + j / 2 * 2 = off + j by omega, show j / 2 * 2 = j by omega] at c0; exact c0
      · rw [show off + j / 2 * 2 + 1 = off + j by omega, show j / 2 * 2 + 1 = j by omega] at c1; exact c1) (by omega) hbase
    rw [Nat.zero_add] at hr ho
    exact ⟨g', cap', w', hr, OwnQ.congr ho (fun j hj => by rw [spl_eq, if_pos (by omega)]; rfl), hb⟩
/-- numbers: not less is at least -/
theorem ge_lt {x y : Nat} (hx : isNaN single x = false) (hy : isNaN single y = false) : geB x y = !ltB x y := by
  have h := geB_sv hx hy
  have e : ltB x y = decide (sv single x < sv single y) := by
    unfold ltB
    rw [lt32]
    unfold ltW
    rw [hx, hy]; rfl
  rw [h, e]
  by_cases hh : sv single y ≤ sv single x
  · rw [decide_eq_true hh, decide_eq_false (by omega)]; rfl
  · rw [decide_eq_false hh, decide_eq_true (by omega)]; rfl
section
variable {P : Program} {w : World}
/-- append, at the operation, by its run -/
theorem wp_append_run {o : Oper} {a : Act} {K : Act → World → Prop} {Q : Exit → Act → World → Prop} (s x : Operand) (t : TypeId)
    (ho : o.op = .call { callee := .builtin .append, args := #[s, x], argTypes := #[t, t] }) {vs vx v : Value} {w' : World} (hs : a.eval s = vs) (hx : a.eval x = vx)
    (hr : (Builtin.append_ #[t, t] o.type #[vs, vx]).run P w = .ok v w') (h : K (a.put o.dst v) w') : o.wp P a w K Q := by
  unfold Oper.wp execOp
  simp only [ho, resolve, invoke, builtin, Sem.run_bind, Sem.run_pure, Result.andThen_ok, List.map_toArray, List.map_cons, List.map_nil, hs, hx, hr]
  exact h
theorem wpList_append_run {ops : Array Oper} {rest : List Oper} {o : Oper} {a : Act} {Q : Exit → Act → World → Prop} (hgd : o.guard = none) (s x : Operand) (t : TypeId)
    (ho : o.op = .call { callee := .builtin .append, args := #[s, x], argTypes := #[t, t] }) {vs vx v : Value} {w' : World} (hs : a.eval s = vs) (hx : a.eval x = vx)
    (hr : (Builtin.append_ #[t, t] o.type #[vs, vx]).run P w = .ok v w') (h : wpList P ops Q rest (a.put o.dst v) w') : wpList P ops Q (o :: rest) a w :=
  wpList_plain hgd fun _ hK => wp_append_run s x t ho hs hx hr (hK _ _ h)
theorem step_append_run {ops : Array Oper} {o : Oper} {a : Act} {K : Act → World → Prop} {Q : Exit → Act → World → Prop} {E : Prop} (hgd : o.guard = none) (s x : Operand) (t : TypeId)
    (ho : o.op = .call { callee := .builtin .append, args := #[s, x], argTypes := #[t, t] }) {vs vx v : Value} {w' : World} (hs : a.eval s = vs) (hx : a.eval x = vx)
    (hr : (Builtin.append_ #[t, t] o.type #[vs, vx]).run P w = .ok v w') (h : K (a.put o.dst v) w') : if Region.wanted o (yielded ops a.tmps) = true then Oper.wp P o a w K Q else E := by
  have hw : Region.wanted o (yielded ops a.tmps) = true := by simp [Region.wanted, hgd]
  rw [if_pos hw]
  exact wp_append_run s x t ho hs hx hr h
end
/-- what the three appends leave -/
theorem ins_app (Z0 Z : Nat → Nat) (q p x y : Nat) (hp : p ≤ q) : ∀ j, j < (q + 1) * 2 → spl (spl (spl Z0 (0 * 2) Z (p * 2)) (p * 2) (fun j => if j = 0 then x else y) (1 * 2)) ((p + 1) * 2) (fun j => Z (p * 2 + j)) ((q - p) * 2) j = insC Z p x y j := fun j hj => by
  unfold insC
  by_cases h1 : j < p * 2
  · rw [spl_eq, if_neg (by omega), spl_eq, if_neg (by omega), spl_eq, if_pos (by omega), if_pos h1]; rfl
  · rw [if_neg h1]
    by_cases h2 : j = p * 2
    · rw [spl_eq, if_neg (by omega), spl_eq, if_pos (by omega), if_pos h2, if_pos (by omega)]
    · rw [if_neg h2]
      by_cases h3 : j = p * 2 + 1
      · rw [spl_eq, if_neg (by omega), spl_eq, if_pos (by omega), if_pos h3, if_neg (by omega)]
      · rw [if_neg h3, spl_eq, if_pos (by omega)]
        show Z (p * 2 + (j - (p + 1) * 2)) = Z (j - 2)
        congr 1
        omega
theorem app3 {g p q cp x y : Nat} {Z : Nat → Nat} {w w6 : World} (hpn : p < q) (hq1 : 1 ≤ q) (hq2 : q ≤ 1000) (hown : OwnQ w.heap.size w6 (.slice (some ⟨g, 0, none⟩) q cp) q Z) (hbel : Below w.heap.size w w6) :
    q ≤ cp ∧ ∃ gA cA wA gC cC wC gD cD wD, (Builtin.append_ #[24, 24] 24 #[.slice (some ⟨w6.heap.size, 0, none⟩) 0 0, .slice (some ⟨g, 0, none⟩) p cp]).run Try.prog (w6.alloc (.cells #[] 32)) = .ok (.slice (some ⟨gA, 0, none⟩) p cA) wA ∧
      (Builtin.append_ #[24, 24] 24 #[.slice (some ⟨gA, 0, none⟩) p cA, .slice (some ⟨wA.heap.size, 0, none⟩) 1 1]).run Try.prog (wA.alloc (.cells #[.float .f32 x, .float .f32 y] 32)) = .ok (.slice (some ⟨gC, 0, none⟩) (p + 1) cC) wC ∧
      (Builtin.append_ #[24, 24] 24 #[.slice (some ⟨gC, 0, none⟩) (p + 1) cC, .slice (some ⟨g, p * 2, none⟩) (q - p) (cp - p)]).run Try.prog (wC) = .ok (.slice (some ⟨gD, 0, none⟩) (q + 1) cD) wD ∧
      Below w.heap.size w wA ∧ OwnQ w.heap.size wD (.slice (some ⟨gD, 0, none⟩) (q + 1) cD) (q + 1) (insC Z p x y) ∧ Below w.heap.size w wD := by
  have W6s := hbel.size
  have hbA := (Below.refl w6.heap.size w6).alloc (Nat.le_refl _) (.cells #[] 32)
  have hC6 : Cells w6 g 0 q Z := by
    obtain ⟨_, _, e, h0 | ⟨_, e2, _, _, hc⟩⟩ := OwnQ.form hown
    · omega
    · cases e; cases e2; exact hc
  have hg6 : g < w6.heap.size := by
    obtain ⟨_, _, e, h0 | ⟨_, e2, _, hh, hc⟩⟩ := OwnQ.form hown
    · omega
    · cases e; cases e2; exact hh
  have hcap : q ≤ cp := by
    rcases hown.2 with ⟨e, _⟩ | ⟨_, _, cur, e, _, _, hh, _⟩
    · cases e
    · cases e; exact hh
  obtain ⟨gA, cA, wA, krunA, hownA, hbelA⟩ := appQ (base := w6.heap.size) (n := 0) (cap := 0) (m := p) (c := cp) (g := w6.heap.size) (ad := ⟨g, 0, none⟩) (Y := Z) (litP w6) (fun j hj => by
    have := cell_add (hC6.keep hg6 hbA) 0 j (by omega)
    rw [Nat.zero_add] at this; exact this) (by omega) hbA.size
  rw [Nat.zero_add] at krunA hownA
  have hb6A := hbA.trans hbelA
  have hsA := hb6A.size
  have hbB := hb6A.alloc hsA (.cells #[.float .f32 x, .float .f32 y] 32)
  obtain ⟨gC, cC, wC, krunC, hownC, hbelC⟩ := appQ (base := w6.heap.size) (w := wA.alloc (.cells #[.float .f32 x, .float .f32 y] 32)) (n := p) (cap := cA) (m := 1) (c := 1) (g := gA) (ad := ⟨wA.heap.size, 0, none⟩) (Y := fun j => if j = 0 then x else y) (World.ownsRow.alloc hownA _) (fun j hj => by
    have hn : (wA.alloc (.cells #[.float .f32 x, .float .f32 y] 32)).heap[wA.heap.size]? = some (.cells #[.float .f32 x, .float .f32 y] 32 (0, 0)) := block_new wA _
    rw [addr_add, Nat.zero_add, cell_of_row _ wA.heap.size j _ _ _ hn]
    rcases (show j = 0 ∨ j = 1 by omega) with rfl | rfl <;> rfl) (by omega) hbB.size
  have hb6C := hbB.trans hbelC
  have hsC := hb6C.size
  obtain ⟨gD, cD, wD, krunD, hownD, hbelD⟩ := appQ (base := w6.heap.size) (w := wC) (n := p + 1) (cap := cC) (m := q - p) (c := cp - p) (g := gC) (ad := ⟨g, p * 2, none⟩) (Y := fun j => Z (p * 2 + j)) hownC (fun j hj => cell_add (hC6.keep hg6 hb6C) (p * 2) j (by omega)) (by omega) hsC
  rw [show p + 1 + (q - p) = q + 1 by omega] at krunD hownD
  have hownD' := OwnQ.congr hownD (ins_app _ Z q p x y (by omega))
  have H9 := (show OwnQ w.heap.size wD (.slice (some ⟨gD, 0, none⟩) (q + 1) cD) (q + 1) (insC Z p x y) ∧ Below w.heap.size w wD from ⟨OwnQ.mono hownD' W6s, hbel.trans ((hb6C.trans hbelD).mono W6s)⟩)
  have hpc : (p : Int) ≤ (cp : Int) := by omega
  have hpc2 : p ≤ cp := by omega
  exact ⟨hcap, gA, cA, wA, gC, cC, wC, gD, cD, wD, krunA, krunC, krunD, hbel.trans (hb6A.mono W6s), H9⟩
theorem app3e {g p cp x y : Nat} {Z : Nat → Nat} {w w6 : World} (hpn : p ≤ p) (hq1 : 1 ≤ p) (hq2 : p ≤ 1000) (hown : OwnQ w.heap.size w6 (.slice (some ⟨g, 0, none⟩) p cp) p Z) (hbel : Below w.heap.size w w6) :
    p ≤ cp ∧ ∃ gA cA wA gC cC wC gD cD wD, (Builtin.append_ #[24, 24] 24 #[.slice (some ⟨w6.heap.size, 0, none⟩) 0 0, .slice (some ⟨g, 0, none⟩) p cp]).run Try.prog (w6.alloc (.cells #[] 32)) = .ok (.slice (some ⟨gA, 0, none⟩) p cA) wA ∧
      (Builtin.append_ #[24, 24] 24 #[.slice (some ⟨gA, 0, none⟩) p cA, .slice (some ⟨wA.heap.size, 0, none⟩) 1 1]).run Try.prog (wA.alloc (.cells #[.float .f32 x, .float .f32 y] 32)) = .ok (.slice (some ⟨gC, 0, none⟩) (p + 1) cC) wC ∧
      (∀ (sp : Option Addr) (sc : Nat), (Builtin.append_ #[24, 24] 24 #[.slice (some ⟨gC, 0, none⟩) (p + 1) cC, .slice sp 0 sc]).run Try.prog (wC) = .ok (.slice (some ⟨gC, 0, none⟩) (p + 1) cC) wC) ∧ gD = gC ∧ cD = cC ∧ wD = wC ∧
      Below w.heap.size w wA ∧ OwnQ w.heap.size wD (.slice (some ⟨gD, 0, none⟩) (p + 1) cD) (p + 1) (insC Z p x y) ∧ Below w.heap.size w wD := by
  have W6s := hbel.size
  have hbA := (Below.refl w6.heap.size w6).alloc (Nat.le_refl _) (.cells #[] 32)
  have hC6 : Cells w6 g 0 p Z := by
    obtain ⟨_, _, e, h0 | ⟨_, e2, _, _, hc⟩⟩ := OwnQ.form hown
    · omega
    · cases e; cases e2; exact hc
  have hg6 : g < w6.heap.size := by
    obtain ⟨_, _, e, h0 | ⟨_, e2, _, hh, hc⟩⟩ := OwnQ.form hown
    · omega
    · cases e; cases e2; exact hh
  have hcap : p ≤ cp := by
    rcases hown.2 with ⟨e, _⟩ | ⟨_, _, cur, e, _, _, hh, _⟩
    · cases e
    · cases e; exact hh
  obtain ⟨gA, cA, wA, krunA, hownA, hbelA⟩ := appQ (base := w6.heap.size) (n := 0) (cap := 0) (m := p) (c := cp) (g := w6.heap.size) (ad := ⟨g, 0, none⟩) (Y := Z) (litP w6) (fun j hj => by
    have := cell_add (hC6.keep hg6 hbA) 0 j (by omega)
    rw [Nat.zero_add] at this; exact this) (by omega) hbA.size
  rw [Nat.zero_add] at krunA hownA
  have hb6A := hbA.trans hbelA
  have hsA := hb6A.size
  have hbB := hb6A.alloc hsA (.cells #[.float .f32 x, .float .f32 y] 32)
  obtain ⟨gC, cC, wC, krunC, hownC, hbelC⟩ := appQ (base := w6.heap.size) (w := wA.alloc (.cells #[.float .f32 x, .float .f32 y] 32)) (n := p) (cap := cA) (m := 1) (c := 1) (g := gA) (ad := ⟨wA.heap.size, 0, none⟩) (Y := fun j => if j = 0 then x else y) (World.ownsRow.alloc hownA _) (fun j hj => by
    have hn : (wA.alloc (.cells #[.float .f32 x, .float .f32 y] 32)).heap[wA.heap.size]? = some (.cells #[.float .f32 x, .float .f32 y] 32 (0, 0)) := block_new wA _
    rw [addr_add, Nat.zero_add, cell_of_row _ wA.heap.size j _ _ _ hn]
    rcases (show j = 0 ∨ j = 1 by omega) with rfl | rfl <;> rfl) (by omega) hbB.size
  have hb6C := hbB.trans hbelC
  have hsC := hb6C.size
  have hcapC : p + 1 ≤ cC := by
    rcases hownC.2 with ⟨e, _⟩ | ⟨_, _, cur, e, _, _, hh, _⟩
    · cases e
    · cases e; exact hh
  have krunD := fun (sp : Option Addr) (sc : Nat) => appQ0 (w := wC) (n := p + 1) (cap := cC) (g := gC) (c := sc) (a := sp) hcapC
  have hownD' := OwnQ.congr (Y := insC Z p x y) hownC (fun j hj => by
    have := ins_app (fun _ => 0) Z p p x y hpn j hj
    rw [spl_eq, if_neg (by omega)] at this
    exact this)
  have H9 := (show OwnQ w.heap.size wC (.slice (some ⟨gC, 0, none⟩) (p + 1) cC) (p + 1) (insC Z p x y) ∧ Below w.heap.size w wC from ⟨OwnQ.mono hownD' W6s, hbel.trans (hb6C.mono W6s)⟩)
  have hpc : (p : Int) ≤ (cp : Int) := by omega
  have hpc2 : p ≤ cp := by omega
  exact ⟨hcap, gA, cA, wA, gC, cC, wC, gC, cC, wC, krunA, krunC, krunD, rfl, rfl, rfl, hbel.trans (hb6A.mono W6s), H9⟩
end Go.Proofs.Ytbmojogohffhaaa.Pnt
