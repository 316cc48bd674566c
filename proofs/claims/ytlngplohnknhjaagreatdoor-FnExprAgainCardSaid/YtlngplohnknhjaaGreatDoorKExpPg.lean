/- The program's stack of pieces of text. -/
import Derived.Test.YtlngplohnknhjaaGreatDoorKExpPf
namespace Go.Proofs.YtlngplohnknhjaaGreatDoor.Px
open Go.ChangeShapes Go.WideShapes Go.ChangeAt Go.RowKit Go.Proofs.YtlngplohnknhjaaGreatDoor Go.Proofs.YtlngplohnknhjaaGreatDoor.Flt Go.Proofs.YtlngplohnknhjaaGreatDoor.Ex Go.Proofs.YtlngplohnknhjaaGreatDoor.Cpx Go.Proofs.YtlngplohnknhjaaGreatDoor.Sng
set_option linter.unusedVariables false
set_option linter.unusedSimpArgs false
/-- a text of its strength -/
abbrev Pc := ByteArray × Int
def pl (p : Pc) : List Value := [.string p.1, .int .i64 p.2]
def pV (p : Pc) : Value := .agg #[.string p.1, .int .i64 p.2]
def cPc (xs : List Pc) : List Value := xs.flatMap pl
theorem cPc_snoc (xs : List Pc) (s : Pc) : cPc xs ++ pl s = cPc (xs ++ [s]) := by unfold cPc; simp
theorem cPc_len : ∀ xs : List Pc, (cPc xs).length = xs.length * 2
  | [] => rfl
  | s :: r => by
    have := cPc_len r
    unfold cPc at this ⊢
    simp only [List.flatMap_cons, List.length_append, List.length_cons, this]
    show 2 + r.length * 2 = _
    omega
def OwnPc (base : Nat) (w : World) (v : Value) (n : Nat) (xs : List Pc) : Prop := w.ownsRow base 47 2 v n (cPc xs)
theorem infoPc : (Tryz.prog.info? 47).map (fun i => (i.zero, i.size, i.bytes)) = some (some (.agg #[.string ⟨#[]⟩, .int .i64 0]), 2, 24) := by kernel_rfl
theorem info_partsPc : ∃ i, Tryz.prog.info? 47 = some i ∧ i.zero = some (.agg #[.string ⟨#[]⟩, .int .i64 0]) ∧ i.size = 2 ∧ i.bytes = 24 := by
  have h := infoPc
  cases hi : Tryz.prog.info? 47 with
  | none => rw [hi] at h; cases h
  | some i =>
    rw [hi] at h
    simp only [Option.map_some, Option.some.injEq, Prod.mk.injEq] at h
    exact ⟨i, rfl, h.1, h.2.1, h.2.2⟩
theorem one_cellPc (wr : World) (s : Pc) : ∀ j u, (pl s)[j]? = some u → (wr.alloc (.cells #[.string s.1, .int .i64 s.2] 47)).cell? ((⟨wr.heap.size, 0, none⟩ : Addr).add j) = some u := by
  intro j u hj
  have e : (⟨wr.heap.size, 0, none⟩ : Addr).add j = ⟨wr.heap.size, j, none⟩ := by unfold Addr.add; split <;> simp_all
  rw [e, cell_of_row _ wr.heap.size j _ 47 (0, 0) (block_new wr _)]
  unfold pl at hj
  simpa using hj
theorem one_onePc (s : Pc) : ∀ u ∈ pl s, u.oneCell' = true := by
  intro u hu
  unfold pl at hu
  simp at hu
  rcases hu with rfl | rfl <;> rfl
/-- the stack in block B: the pieces that wait, the last one ahead -/
structure Sk (w0 : World) (B : Nat) (st : List Pc) (w : World) : Prop where
  only : Only B w0 w
  r : ∃ v, w.heap[B]? = some (.cells #[v] 41 (0, 0)) ∧ OwnPc w0.heap.size w v st.length st.reverse
  lt : B < w0.heap.size
  len : st.length ≤ 60
theorem Sk.below {w0 : World} {B : Nat} {st : List Pc} {w w' : World} (h : Sk w0 B st w) (hb : Below w.heap.size w w') : Sk w0 B st w' := by
  obtain ⟨v, hr, ho⟩ := h.r
  exact ⟨h.only.trans (Only.of_below hb), ⟨v, (hb.block B (lt_of_block hr)).trans hr, own_below ho (Nat.le_refl _) hb⟩, h.lt, h.len⟩
theorem Sk.alloc {w0 : World} {B : Nat} {st : List Pc} {w : World} (h : Sk w0 B st w) (o : Obj) : Sk w0 B st (w.alloc o) := h.below ((Below.refl _ _).alloc (Nat.le_refl _) o)
theorem Sk.drewN {w0 : World} {B : Nat} {st : List Pc} {w : World} (h : Sk w0 B st w) (n : Nat) : Sk w0 B st (w.drewN n) := h.below (below_drewN (Below.refl _ _) n)
set_option maxRecDepth 20000 in
set_option maxHeartbeats 1600000 in
theorem sput_any (w0 : World) (B : Nat) (st : List Pc) (n : Pc) (w : World) (h : Sk w0 B st w) (hx : st.length < 60) :
    Calls Tryz.prog 18 #[.pointer (some ⟨B, 0, none⟩), pV n] w fun e w' => e = .returned (.tuple #[]) ∧ Sk w0 B (n :: st) w' := by
  obtain ⟨v, hr, ho⟩ := h.r
  obtain ⟨i0, hi, hz0, hz1, hz2⟩ := info_partsPc
  have Hi := Lib.hid (And.intro hi (And.intro hz0 (And.intro hz1 hz2)))
  obtain ⟨m, hm⟩ : ∃ m, st.length = m := ⟨_, rfl⟩
  rw [hm] at ho hx
  obtain ⟨p0, cap0, rfl⟩ := owns_form ho
  obtain ⟨t, s⟩ := n
  have hn63 : m + 1 ≤ maxLen := by unfold maxLen; omega
  have hnby : (m + 1) * 24 ≤ 140737488355328 := Nat.le_trans (Nat.mul_le_mul_right 24 (show m + 1 ≤ 61 by omega)) (by decide)
  have hBw : B < w.heap.size := lt_of_block hr
  have H := Lib.hid (h.alloc (.cells #[.string t, .int .i64 s] 47))
  obtain ⟨v1, hr1, ho1⟩ := H.out.r
  have hrq : (w.alloc (.cells #[.string t, .int .i64 s] 47)).heap[B]? = w.heap[B]? := ((Below.refl w.heap.size w).alloc (Nat.le_refl _) _).block B hBw
  rw [hrq, hr] at hr1
  obtain rfl : Value.slice p0 m cap0 = v1 := by simpa using hr1
  clear hr1 h
  rw [hm] at ho1
  obtain ⟨w1, hw1⟩ : ∃ w1, w.alloc (.cells #[.string t, .int .i64 s] 47) = w1 := ⟨_, rfl⟩
  have cell0 : w1.cell? ⟨w.heap.size, 0, none⟩ = some (.string t) := by rw [← hw1, cell_of_row _ w.heap.size 0 _ _ (0, 0) (block_new w _)]; rfl
  have cA : w1.cell? ⟨w.heap.size, 1, none⟩ = some (.int .i64 s) := by rw [← hw1, cell_of_row _ w.heap.size 1 _ _ (0, 0) (block_new w _)]; rfl
  have Hr := Lib.hid (hrq.trans hr)
  rw [hw1] at ho1 Hr H
  have c1 : w1.cell? ⟨B, 0, none⟩ = some (.slice p0 m cap0) := by simp only [World.cell?, Hr.out]; rfl
  have hsz := H.out.only.size
  have hbs : w0.heap.size ≤ ((w1.alloc (.cells #[.string t, .int .i64 s] 47)).drew).heap.size := by
    have e : ((w1.alloc (.cells #[.string t, .int .i64 s] 47)).drew).heap.size = w1.heap.size + 1 := World.size_alloc _ _
    rw [e]; omega
  have Hown := Lib.hid (show ((w1.alloc (.cells #[.string t, .int .i64 s] 47)).drew).ownsRow w0.heap.size 47 2 _ _ _ from World.ownsRow.alloc ho1 (.cells #[.string t, .int .i64 s] 47))
  have Hnews := Lib.hid (show ∀ j u, (pl (t, s))[j]? = some u → ((w1.alloc (.cells #[.string t, .int .i64 s] 47)).drew).cell? ((⟨w1.heap.size, 0, none⟩ : Addr).add j) = some u from one_cellPc w1 (t, s))
  have Hone := Lib.hid (one_onePc (t, s))
  have hrX : (w1.alloc (.cells #[.string t, .int .i64 s] 47)).heap[B]? = some (.cells #[.slice p0 m cap0] 41 (0, 0)) := (((Below.refl w1.heap.size w1).alloc (Nat.le_refl _) _).block B (lt_of_block Hr.out)).trans Hr.out
  have cX : (w1.alloc (.cells #[.string t, .int .i64 s] 47)).cell? ⟨B, 0, none⟩ = some (.slice p0 m cap0) := by simp only [World.cell?, hrX]; rfl
  have HrX := Lib.hid hrX
  have HW := Lib.hid hw1
  have Hm := Lib.hid hm
  clear hrq hr ho ho1 hrX hi hz0 hz1 hz2 hm hw1 hsz
  show Calls Tryz.prog 18 #[.pointer (some ⟨B, 0, none⟩), .agg #[.string t, .int .i64 s]] w _
  go_enter Tryz.func18, Tryz.ntmps18
  go_wp2_with fail
  rw [HW.out]
  go_region_law (first
    | (refine step_append_lies _ rfl (.tmp 7) (.tmp 9) 41 rfl w0.heap.size 47 i0 (.agg #[.string ⟨#[]⟩, .int .i64 0]) 2 24 Tryz.underlying41 Hi.out.1 Hi.out.2.1 Hi.out.2.2.1 Hi.out.2.2.2 rfl (by decide) (.slice p0 m cap0) m (cPc st.reverse) (by simp [Act.eval]) Hown.out ⟨w1.heap.size, 0, none⟩ 1 1 (pl (t, s)) (by simp [Act.eval]) rfl Hnews.out Hone.out (by omega) hn63 hnby hbs _ rfl ?_
       intro g cap1 w6 hown1 hgrow1 hat1 hlt1
       have hR6 : w6.heap[B]? = some (.cells #[.slice p0 m cap0] 41 (0, 0)) := (hgrow1.block B (lt_of_block HrX.out) (fun e => by have := (Hown.out.lt B e.symm).1; have := H.out.lt; omega)).trans HrX.out
       have f0 : w6.frozen? ⟨B, 0, none⟩ = false := (by simp [World.frozen?, hR6])
       have c6 : w6.cell? ⟨B, 0, none⟩ = some (.slice p0 m cap0) := (by simp [World.cell?, hR6])))
  all_goals
    have H6 := Lib.hid (show Sk w0 B ((t, s) :: st) (w6.setCell ⟨B, 0, none⟩ (.slice (some ⟨g, 0, none⟩) (m + 1) cap1)) from by
      have hg : w0.heap.size ≤ g := (hown1.lt g rfl).1
      have hlt := H.out.lt
      refine ⟨(only_grown (only_drew (H.out.only.alloc _)) hgrow1 (fun k hk => (Hown.out.lt k hk).1)).setCell _ _, ⟨_, block_setCell hR6 _, ?_⟩, hlt, by rw [List.length_cons, Hm.out]; omega⟩
      rw [List.length_cons, Hm.out, List.reverse_cons]
      unfold OwnPc
      rw [← cPc_snoc]
      exact ownsRow_setCell_other (a := ⟨B, 0, none⟩) hown1 (by simp only [Value.ownBlock, ne_eq, Option.some.injEq]; omega) _)
    clear hown1 hgrow1 hat1 hlt1 hR6 f0 c6
    go_wp2_with fail
    exact bodyPost_end (v := .tuple #[]) (by simp [results, Tryz.results18]) rfl ⟨rfl, H6.out⟩
theorem slice_pc (g n cp k : Nat) (h : k ≤ cp) (w : World) :
    (Instr.slice 41 (.slice (some ⟨g, 0, none⟩) n cp) none (some (.int .i64 (k : Int))) none).run Tryz.prog w = .ok (.slice (some ⟨g, 0, none⟩) k cp) w := by
  obtain ⟨i0, hi, hz0, hz1, hz2⟩ := info_partsPc
  have h0 : (0 : Int) ≤ k := by omega
  have h1 : (k : Int) ≤ cp := by omega
  simp [Instr.slice, run_underlying Tryz.underlying41, Instr.sliceBounds, run_sliceBound, sizeOf, typeInfo, hi, h0, h1, Addr.add]
theorem cell_al {w : World} {a : Addr} {v : Value} (o : Obj) (h : w.cell? a = some v) : (w.alloc o).cell? a = some v := by
  have hl : a.block < w.heap.size := by
    rcases Nat.lt_or_ge a.block w.heap.size with h1 | h1
    · exact h1
    · rw [World.cell?, Array.getElem?_eq_none h1] at h; cases h
  exact (((Below.refl w.heap.size w).alloc (Nat.le_refl _) o).cell hl).trans h
/-- the stack, its row in block g -/
structure Sg (w0 : World) (B g cap : Nat) (st : List Pc) (w : World) : Prop where
  only : Only B w0 w
  hB : w.heap[B]? = some (.cells #[.slice (some ⟨g, 0, none⟩) st.length cap] 41 (0, 0))
  own : OwnPc w0.heap.size w (.slice (some ⟨g, 0, none⟩) st.length cap) st.length st.reverse
  lt : B < w0.heap.size
  len : st.length ≤ 60
  gl : w0.heap.size ≤ g ∧ g < w.heap.size
theorem Sg.sk {w0 : World} {B g cap : Nat} {st : List Pc} {w : World} (h : Sg w0 B g cap st w) : Sk w0 B st w := ⟨h.only, ⟨_, h.hB, h.own⟩, h.lt, h.len⟩
theorem Sk.sg {w0 : World} {B : Nat} {p : Pc} {st : List Pc} {w : World} (h : Sk w0 B (p :: st) w) : ∃ g cap, Sg w0 B g cap (p :: st) w := by
  obtain ⟨v, hr, ho⟩ := h.r
  obtain ⟨g, cap, rfl, hg, hgl⟩ := World.ownsRow.form ho (by rw [List.length_cons]; omega)
  exact ⟨g, cap, h.only, hr, ho, h.lt, h.len, hg, hgl⟩
theorem Sg.alloc {w0 : World} {B g cap : Nat} {st : List Pc} {w : World} (h : Sg w0 B g cap st w) (o : Obj) : Sg w0 B g cap st (w.alloc o) := by
  have hb : Below w.heap.size w (w.alloc o) := (Below.refl _ _).alloc (Nat.le_refl _) o
  exact ⟨h.only.alloc o, (hb.block B (lt_of_block h.hB)).trans h.hB, own_below h.own (Nat.le_refl _) hb, h.lt, h.len, h.gl.1, Nat.lt_of_lt_of_le h.gl.2 hb.size⟩
theorem Sg.drew {w0 : World} {B g cap : Nat} {st : List Pc} {w : World} (h : Sg w0 B g cap st w) : Sg w0 B g cap st w.drew := ⟨only_drew h.only, h.hB, h.own, h.lt, h.len, h.gl⟩
/-- a cell of another new block is set -/
theorem Sg.set {w0 : World} {B g cap : Nat} {st : List Pc} {w : World} (h : Sg w0 B g cap st w) (q o : Nat) (u : Value) (hq : w0.heap.size ≤ q) (hg : q ≠ g) : Sg w0 B g cap st (w.setCell ⟨q, o, none⟩ u) := by
  have hqB : q ≠ B := by have := h.lt; omega
  refine ⟨⟨h.only.os, h.only.tape, h.only.output, ?_, fun k hk hn => ?_⟩, ?_, ownsRow_setCell_other (a := ⟨q, o, none⟩) h.own (by simp only [Value.ownBlock, ne_eq, Option.some.injEq]; omega) _, h.lt, h.len, h.gl.1, ?_⟩
  · rw [World.size_setCell]; exact h.only.size
  · exact (Below.heap_setCell _ _ _ _ (show k ≠ q by omega)).trans (h.only.block k hk hn)
  · exact (Below.heap_setCell _ _ _ _ (show B ≠ q from fun e => hqB e.symm)).trans h.hB
  · rw [World.size_setCell]; exact h.gl.2
set_option maxRecDepth 20000 in
set_option maxHeartbeats 1600000 in
theorem stake_any (w0 : World) (B g cap : Nat) (t : ByteArray) (s : Int) (st : List Pc) (w : World) (h : Sg w0 B g cap ((t, s) :: st) w) :
    Calls Tryz.prog 20 #[.pointer (some ⟨B, 0, none⟩)] w fun e w' => e = .returned (.agg #[.string t, .int .i64 s]) ∧ Sg w0 B g cap st w' ∧ Only B w w' := by
  have hr := h.hB
  have ho := h.own
  obtain ⟨hg, hgl⟩ := h.gl
  obtain ⟨k, hk⟩ : ∃ k, st.length = k := ⟨_, rfl⟩
  have hlen : ((t, s) :: st).length = k + 1 := by rw [List.length_cons, hk]
  rw [hlen] at ho hr
  have hcap := owns_cap ho
  have hat : ∀ j, j < 2 → w.cell? ⟨g, k * 2 + j, none⟩ = (pl (t, s))[j]? := fun j hj => by
    have e := World.ownsRow.cellAt ho (k * 2 + j) (by omega)
    rw [e, List.reverse_cons, ← cPc_snoc, List.getElem?_append_right (by rw [cPc_len, List.length_reverse, hk]; omega), cPc_len, List.length_reverse, hk]
    congr 1
    omega
  have g0 : w.cell? ⟨g, k * 2, none⟩ = some (.string t) := hat 0 (by omega)
  have g1 : w.cell? ⟨g, k * 2 + 1, none⟩ = some (.int .i64 s) := hat 1 (by omega)
  have hR : B < g := Nat.lt_of_lt_of_le h.lt hg
  have c0 : w.cell? ⟨B, 0, none⟩ = some (.slice (some ⟨g, 0, none⟩) (k + 1) cap) := by simp [World.cell?, hr]
  have f0 : w.frozen? ⟨B, 0, none⟩ = false := by simp [World.frozen?, hr]
  have hkl60 : k < 60 := by have := h.len; rw [hlen] at this; omega
  have hw1 : IntKind.i64.wrap (((k + 1 : Nat) : Int) - 1) = (k : Int) := by rw [IntKind.wrap_i64]; omega
  have hw2 : wrap64 (k : Int) = (k : Int) := by unfold wrap64; omega
  have hkl : (k : Int) < ((k + 1 : Nat) : Int) := by omega
  have hBw : B < w.heap.size := lt_of_block hr
  have hB0 : ¬ B = w.heap.size := by omega
  have hB1 : ¬ B = w.heap.size + 1 := by omega
  have hG0 : ¬ g = w.heap.size := by omega
  have hG1 : ¬ g = w.heap.size + 1 := by omega
  have ks := slice_pc g (k + 1) cap k (by omega)
  have H := Lib.hid h
  have Ho := Lib.hid ho
  have Hr := Lib.hid hr
  have c0a := cell_al (.cells #[.string ⟨#[]⟩, .int .i64 0] 47) c0
  have g0a := cell_al (.cells #[.string ⟨#[]⟩, .int .i64 0] 47) g0
  have g1a := cell_al (.cells #[.string ⟨#[]⟩, .int .i64 0] 47) g1
  have Hkk := Lib.hid (And.intro hk hlen)
  clear h ho hr hat hk hlen
  go_enter Tryz.func20, Tryz.ntmps20
  go_wp2_with fail
  have HS := Lib.hid (show Sg w0 B g cap st (w.setCell ⟨B, 0, none⟩ (.slice (some ⟨g, 0, none⟩) k cap)) from by
    have ht := own_take Ho.out (show k ≤ k + 1 by omega)
    rw [show (cPc ((t, s) :: st).reverse).take (k * 2) = cPc st.reverse from by
      rw [List.reverse_cons, ← cPc_snoc, List.take_append_of_le_length (by rw [cPc_len, List.length_reverse, Hkk.out.1]; exact Nat.le_refl _), List.take_of_length_le (by rw [cPc_len, List.length_reverse, Hkk.out.1]; exact Nat.le_refl _)]] at ht
    refine ⟨H.out.only.setCell _ _, by rw [Hkk.out.1]; exact block_setCell Hr.out _, by rw [Hkk.out.1]; exact ownsRow_setCell_other (a := ⟨B, 0, none⟩) ht (by simp only [Value.ownBlock, ne_eq, Option.some.injEq]; omega) _, H.out.lt, by rw [Hkk.out.1]; omega, hg, by rw [World.size_setCell]; exact hgl⟩)
  refine bodyPost_ret (v := .agg #[.string t, .int .i64 s]) ?_ rfl ⟨rfl, (HS.out.alloc _).alloc _, (((Only.refl B w).setCell _ _).alloc _).alloc _⟩
  simp [results, Tryz.results20, go_sem]
theorem zero_cells {B : Nat} {w w1 : World} (h : Only B w w1) {n o : Nat} {v : Value} (hn : n < w.heap.size) (hB : n ≠ B) (hc : w.cell? ⟨n, o, none⟩ = some v) (hf : w.frozen? ⟨n, o, none⟩ = false) : w1.cell? ⟨n, o, none⟩ = some v ∧ w1.frozen? ⟨n, o, none⟩ = false := by
  have hb := h.block n hn hB
  exact ⟨(h.cell (by exact hn) (by exact hB)).trans hc, by
    have : w1.frozen? ⟨n, o, none⟩ = w.frozen? ⟨n, o, none⟩ := by simp only [World.frozen?, hb]
    exact this.trans hf⟩
theorem only_set {B : Nat} {a w : World} (h : Only B a w) (q o : Nat) (u : Value) (hq : a.heap.size ≤ q) : Only B a (w.setCell ⟨q, o, none⟩ u) :=
  ⟨h.os, h.tape, h.output, by rw [World.size_setCell]; exact h.size, fun k hk hn => (Below.heap_setCell _ _ _ _ (show k ≠ q by omega)).trans (h.block k hk hn)⟩
set_option maxRecDepth 20000 in
set_option maxHeartbeats 1600000 in
theorem stwo_any (w0 : World) (B g cap : Nat) (t1 t2 : ByteArray) (s1 s2 : Int) (st : List Pc) (w : World) (h : Sg w0 B g cap ((t2, s2) :: (t1, s1) :: st) w) :
    Calls Tryz.prog 58 #[.pointer (some ⟨B, 0, none⟩)] w fun e w' => e = .returned (.tuple #[.agg #[.string t1, .int .i64 s1], .agg #[.string t2, .int .i64 s2]]) ∧ Sg w0 B g cap st w' ∧ Only B w w' := by
  have H := Lib.hid ((h.alloc (.cells #[.string ⟨#[]⟩, .int .i64 0] 47)).alloc (.cells #[.string ⟨#[]⟩, .int .i64 0] 47))
  have hBw : B < w.heap.size := lt_of_block h.hB
  have hgw := h.gl.2
  have hw0 := h.only.size
  obtain ⟨wA, hwA⟩ : ∃ wA, (w.alloc (.cells #[.string ⟨#[]⟩, .int .i64 0] 47)).alloc (.cells #[.string ⟨#[]⟩, .int .i64 0] 47) = wA := ⟨_, rfl⟩
  have szA : wA.heap.size = w.heap.size + 1 + 1 := by rw [← hwA, World.size_alloc, World.size_alloc]
  have a0 : wA.cell? ⟨w.heap.size, 0, none⟩ = some (.string ⟨#[]⟩) ∧ wA.frozen? ⟨w.heap.size, 0, none⟩ = false := by rw [← hwA]; constructor <;> simp [go_sem]
  have a1 : wA.cell? ⟨w.heap.size, 1, none⟩ = some (.int .i64 0) ∧ wA.frozen? ⟨w.heap.size, 1, none⟩ = false := by rw [← hwA]; constructor <;> simp [go_sem]
  have b0 : wA.cell? ⟨w.heap.size + 1, 0, none⟩ = some (.string ⟨#[]⟩) ∧ wA.frozen? ⟨w.heap.size + 1, 0, none⟩ = false := by rw [← hwA]; constructor <;> simp [go_sem]
  have b1 : wA.cell? ⟨w.heap.size + 1, 1, none⟩ = some (.int .i64 0) ∧ wA.frozen? ⟨w.heap.size + 1, 1, none⟩ = false := by rw [← hwA]; constructor <;> simp [go_sem]
  have OA := Lib.hid (show Only B w wA from hwA ▸ ((Only.refl B w).alloc _).alloc _)
  rw [hwA] at H
  have HA := Lib.hid (And.intro hwA (And.intro szA (And.intro a0 (And.intro a1 (And.intro b0 (And.intro b1 (And.intro hBw (And.intro hgw hw0))))))))
  clear h hBw hgw hw0 hwA szA a0 a1 b0 b1
  go_enter Tryz.func58, Tryz.ntmps58
  go_wp2_with fail
  rw [HA.out.1]
  refine (stake_any w0 B g cap t2 s2 ((t1, s1) :: st) _ H.out).mono ?_
  rintro e w1 ⟨rfl, h1, o1⟩
  obtain ⟨_, szA, a0, a1, b0, b1, hBw, hgw, hw0⟩ := HA.out
  obtain ⟨ca0, fa0⟩ := zero_cells o1 (by omega) (by omega) a0.1 a0.2
  obtain ⟨ca1, fa1⟩ := zero_cells o1 (by omega) (by omega) a1.1 a1.2
  obtain ⟨cb0, fb0⟩ := zero_cells o1 (by omega) (by omega) b0.1 b0.2
  obtain ⟨cb1, fb1⟩ := zero_cells o1 (by omega) (by omega) b1.1 b1.2
  have H1 := Lib.hid ((h1.set (w.heap.size + 1) 0 (.string t2) (by omega) (by omega)).set (w.heap.size + 1) 1 (.int .i64 s2) (by omega) (by omega))
  have ho := o1.size
  have O1 := Lib.hid (only_set (only_set (OA.out.trans o1) (w.heap.size + 1) 0 (.string t2) (by omega)) (w.heap.size + 1) 1 (.int .i64 s2) (by omega))
  clear a0 a1 b0 b1 h1 o1
  go_wp2_with fail
  obtain ⟨ws, hws⟩ : ∃ ws, (w1.setCell ⟨w.heap.size + 1, 0, none⟩ (.string t2)).setCell ⟨w.heap.size + 1, 1, none⟩ (.int .i64 s2) = ws := ⟨_, rfl⟩
  have szs : ws.heap.size = w1.heap.size := by rw [← hws, World.size_setCell, World.size_setCell]
  have da0 : ws.cell? ⟨w.heap.size, 0, none⟩ = some (.string ⟨#[]⟩) ∧ ws.frozen? ⟨w.heap.size, 0, none⟩ = false := by rw [← hws]; constructor <;> simp [go_sem, ca0, fa0]
  have da1 : ws.cell? ⟨w.heap.size, 1, none⟩ = some (.int .i64 0) ∧ ws.frozen? ⟨w.heap.size, 1, none⟩ = false := by rw [← hws]; constructor <;> simp [go_sem, ca1, fa1]
  have db0 : ws.cell? ⟨w.heap.size + 1, 0, none⟩ = some (.string t2) ∧ ws.frozen? ⟨w.heap.size + 1, 0, none⟩ = false := by rw [← hws]; constructor <;> simp [go_sem, cb0, fb0]
  have db1 : ws.cell? ⟨w.heap.size + 1, 1, none⟩ = some (.int .i64 s2) ∧ ws.frozen? ⟨w.heap.size + 1, 1, none⟩ = false := by rw [← hws]; constructor <;> simp [go_sem, cb1, fb1]
  rw [hws] at H1 O1 ⊢
  clear ca0 fa0 ca1 fa1 cb0 fb0 cb1 fb1
  refine (stake_any w0 B g cap t1 s1 st _ H1.out).mono ?_
  rintro e w2 ⟨rfl, h2, o2⟩
  obtain ⟨ca0, fa0⟩ := zero_cells o2 (by omega) (by omega) da0.1 da0.2
  obtain ⟨ca1, fa1⟩ := zero_cells o2 (by omega) (by omega) da1.1 da1.2
  obtain ⟨cb0, fb0⟩ := zero_cells o2 (by omega) (by omega) db0.1 db0.2
  obtain ⟨cb1, fb1⟩ := zero_cells o2 (by omega) (by omega) db1.1 db1.2
  have H2 := Lib.hid ((h2.set w.heap.size 0 (.string t1) (by omega) (by omega)).set w.heap.size 1 (.int .i64 s1) (by omega) (by omega))
  have O2 := Lib.hid (only_set (only_set (O1.out.trans o2) w.heap.size 0 (.string t1) (by omega)) w.heap.size 1 (.int .i64 s1) (by omega))
  clear da0 da1 db0 db1 h2 hws
  go_wp2_with fail
  obtain ⟨wq, hwq⟩ : ∃ wq, (w2.setCell ⟨w.heap.size, 0, none⟩ (.string t1)).setCell ⟨w.heap.size, 1, none⟩ (.int .i64 s1) = wq := ⟨_, rfl⟩
  have da0 : wq.cell? ⟨w.heap.size, 0, none⟩ = some (.string t1) := by rw [← hwq]; simp [go_sem, ca0, fa0]
  have ea0 : wq.frozen? ⟨w.heap.size, 0, none⟩ = false := by rw [← hwq]; simp [go_sem, ca0, fa0]
  have da1 : wq.cell? ⟨w.heap.size, 1, none⟩ = some (.int .i64 s1) := by rw [← hwq]; simp [go_sem, ca1, fa1]
  have ea1 : wq.frozen? ⟨w.heap.size, 1, none⟩ = false := by rw [← hwq]; simp [go_sem, ca1, fa1]
  have db0 : wq.cell? ⟨w.heap.size + 1, 0, none⟩ = some (.string t2) := by rw [← hwq]; simp [go_sem, cb0, fb0]
  have eb0 : wq.frozen? ⟨w.heap.size + 1, 0, none⟩ = false := by rw [← hwq]; simp [go_sem, cb0, fb0]
  have db1 : wq.cell? ⟨w.heap.size + 1, 1, none⟩ = some (.int .i64 s2) := by rw [← hwq]; simp [go_sem, cb1, fb1]
  have eb1 : wq.frozen? ⟨w.heap.size + 1, 1, none⟩ = false := by rw [← hwq]; simp [go_sem, cb1, fb1]
  rw [hwq] at H2 O2 ⊢
  clear ca0 fa0 ca1 fa1 cb0 fb0 cb1 fb1 hwq
  go_region_law (fail)
  all_goals
    have H3 := Lib.hid (((((H2.out.set w.heap.size 0 (.string t1) (by omega) (by omega)).set w.heap.size 1 (.int .i64 s1) (by omega) (by omega)).set (w.heap.size + 1) 0 (.string t2) (by omega) (by omega)).set (w.heap.size + 1) 1 (.int .i64 s2) (by omega) (by omega)).drew)
    have O3 := Lib.hid (only_drew (only_set (only_set (only_set (only_set O2.out w.heap.size 0 (.string t1) (by omega)) w.heap.size 1 (.int .i64 s1) (by omega)) (w.heap.size + 1) 0 (.string t2) (by omega)) (w.heap.size + 1) 1 (.int .i64 s2) (by omega)))
    go_wp2_with fail
    refine bodyPost_ret (v := .tuple #[.agg #[.string t1, .int .i64 s1], .agg #[.string t2, .int .i64 s2]]) ?_ rfl ⟨rfl, H3.out, O3.out⟩
    simp [results, Tryz.results58, go_sem, da0, da1, db0, db1]
end Go.Proofs.YtlngplohnknhjaaGreatDoor.Px
