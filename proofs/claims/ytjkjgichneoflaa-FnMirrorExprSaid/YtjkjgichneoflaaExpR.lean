/- The program's stack of values that wait; its map of operations. -/
import Derived.Test.YtjkjgichneoflaaExpN
import Derived.Test.YtjkjgichneoflaaExpM
import Derived.Maps.Keyed
import Derived.KernelRfl
namespace Go.Proofs.Ytjkjgichneoflaa.Ex
open Go.ChangeMaps Go.ChangeShapes Go.WideShapes Go.ChangeAt Go.RowKit Go.Proofs.Ytjkjgichneoflaa Go.Proofs.Ytjkjgichneoflaa.Flt Go.Proofs.Ytjkjgichneoflaa.Mth Go.Proofs.Ytjkjgichneoflaa.Cpx
set_option linter.unusedVariables false
/-- a finite value -/
def GZ (z : Nat × Nat) : Prop := (isFinD z.1 = true ∧ isFinD z.2 = true) ∧ z.1 < 18446744073709551616 ∧ z.2 < 18446744073709551616
/-- the reckoner in block R: the values that wait, the last one ahead; all that the call has turned since w0 is that block and what is new -/
structure Rk (w0 : World) (R : Nat) (sl : Value) (st : List (Nat × Nat)) (w : World) : Prop where
  only : Only R w0 w
  r : ∃ v, w.heap[R]? = some (.cells #[v, sl] 48 (0, 0)) ∧ OwnZ w0.heap.size w v st.length st.reverse
  lt : R < w0.heap.size
  len : st.length ≤ 60
  ok : ∀ z ∈ st, GZ z
theorem Rk.below {w0 : World} {R : Nat} {sl : Value} {st : List (Nat × Nat)} {w w' : World} (h : Rk w0 R sl st w) (hb : Below w.heap.size w w') : Rk w0 R sl st w' := by
  obtain ⟨v, hr, ho⟩ := h.r
  refine ⟨h.only.trans (Only.of_below hb), ⟨v, (hb.block R (lt_of_block hr)).trans hr, own_below ho (Nat.le_refl _) hb⟩, h.lt, h.len, h.ok⟩
theorem Rk.drewN {w0 : World} {R : Nat} {sl : Value} {st : List (Nat × Nat)} {w : World} (h : Rk w0 R sl st w) (n : Nat) : Rk w0 R sl st (w.drewN n) := h.below (below_drewN (Below.refl _ _) n)
theorem Rk.alloc {w0 : World} {R : Nat} {sl : Value} {st : List (Nat × Nat)} {w : World} (h : Rk w0 R sl st w) (o : Obj) : Rk w0 R sl st (w.alloc o) := h.below ((Below.refl _ _).alloc (Nat.le_refl _) o)
theorem slice_st (g n cp k : Nat) (h : k ≤ cp) (w : World) :
    (Instr.slice 46 (.slice (some ⟨g, 0, none⟩) n cp) none (some (.int .i64 (k : Int))) none).run Try.prog w = .ok (.slice (some ⟨g, 0, none⟩) k cp) w := by
  obtain ⟨i0, hi, hz0, hz1, hz2⟩ := info_partsZ
  have h0 : (0 : Int) ≤ k := by omega
  have h1 : (k : Int) ≤ cp := by omega
  simp [Instr.slice, run_underlying Try.underlying46, Instr.sliceBounds, run_sliceBound, sizeOf, typeInfo, hi, h0, h1, Addr.add]
set_option maxHeartbeats 800000 in
theorem take_any (w0 : World) (R : Nat) (sl : Value) (z : Nat × Nat) (st : List (Nat × Nat)) (w : World) (h : Rk w0 R sl (z :: st) w) :
    Calls Try.prog 24 #[.pointer (some ⟨R, 0, none⟩)] w fun e w' => e = .returned (.complex .f64 z.1 z.2) ∧ Rk w0 R sl st w' := by
  obtain ⟨v, hr, ho⟩ := h.r
  obtain ⟨x, y⟩ := z
  obtain ⟨k, hk⟩ : ∃ k, st.length = k := ⟨_, rfl⟩
  have hlen : ((x, y) :: st).length = k + 1 := by rw [List.length_cons, hk]
  rw [hlen] at ho
  obtain ⟨g, cap, rfl, hg, hgl⟩ := World.ownsRow.form ho (by omega)
  have hcap := owns_cap ho
  have hcell : w.cell? ⟨g, k, none⟩ = some (.complex .f64 x y) := by
    have := (OwnZ.cells ho (by rw [List.length_reverse, hlen])).1 k (x, y) (by rw [List.reverse_cons, List.getElem?_append_right (by rw [List.length_reverse]; omega), List.length_reverse, hk, Nat.sub_self]; rfl)
    rw [Nat.zero_add] at this
    exact this
  have hR : R < g := Nat.lt_of_lt_of_le h.lt hg
  have c0 : w.cell? ⟨R, 0, none⟩ = some (.slice (some ⟨g, 0, none⟩) (k + 1) cap) := by simp [World.cell?, hr]
  have f0 : w.frozen? ⟨R, 0, none⟩ = false := by simp [World.frozen?, hr]
  have hsub : ((k + 1 : Nat) : Int) - 1 = (k : Int) := by omega
  have hw1 : IntKind.i64.wrap (((k + 1 : Nat) : Int) - 1) = (k : Int) := by
    have := h.len
    rw [hlen] at this
    rw [IntKind.wrap_i64]; omega
  have hw2 : wrap64 (k : Int) = (k : Int) := by
    have := h.len
    rw [hlen] at this
    unfold wrap64; omega
  have hkl : (k : Int) < ((k + 1 : Nat) : Int) := by omega
  have ks := slice_st g (k + 1) cap k (by omega)
  have Hf := Lib.hid (show Rk w0 R sl st (w.setCell ⟨R, 0, none⟩ (.slice (some ⟨g, 0, none⟩) k cap)) from by
    refine ⟨h.only.setCell _ _, ⟨.slice (some ⟨g, 0, none⟩) k cap, block_setCell hr _, ?_⟩, h.lt, by have := h.len; rw [hlen] at this; omega, fun z hz => h.ok z (List.mem_cons_of_mem _ hz)⟩
    have ht := own_take ho (show k ≤ k + 1 by omega)
    rw [show (cZ ((x, y) :: st).reverse).take (k * 1) = cZ st.reverse from by
      unfold cZ
      rw [List.reverse_cons, List.map_append, List.take_append_of_le_length (by rw [List.length_map, List.length_reverse]; omega), List.take_of_length_le (by rw [List.length_map, List.length_reverse]; omega)]] at ht
    rw [hk]
    exact ownsRow_setCell_other (a := ⟨R, 0, none⟩) ht (by simp only [Value.ownBlock, ne_eq, Option.some.injEq]; omega) _)
  clear h ho hr hlen hk
  go_enter Try.func24, Try.ntmps24
  go_wp2_with fail
  go_ret
  exact ⟨rfl, Hf.out⟩
set_option maxHeartbeats 800000 in
theorem put_any (w0 : World) (R : Nat) (sl : Value) (x y : Nat) (st : List (Nat × Nat)) (w : World) (h : Rk w0 R sl st w) (hl : st.length < 60) (hz : GZ (x, y)) :
    Calls Try.prog 23 #[.pointer (some ⟨R, 0, none⟩), .complex .f64 x y] w fun e w' => e = .returned (.tuple #[]) ∧ Rk w0 R sl ((x, y) :: st) w' := by
  obtain ⟨v, hr, ho⟩ := h.r
  obtain ⟨i0, hi, hz0, hz1, hz2⟩ := info_partsZ
  have Hi := Lib.hid (And.intro hi (And.intro hz0 (And.intro hz1 hz2)))
  obtain ⟨k, hk⟩ : ∃ k, st.length = k := ⟨_, rfl⟩
  rw [hk] at ho hl
  have c0 : w.cell? ⟨R, 0, none⟩ = some v := by simp [World.cell?, hr]
  have hn63 : k + 1 ≤ maxLen := by unfold maxLen; omega
  have hnby : (k + 1) * 16 ≤ 140737488355328 := by omega
  have hsz := h.only.size
  have hbs : w0.heap.size ≤ (w.alloc (.cells #[.complex .f64 x y] 28)).heap.size := by rw [World.size_alloc]; omega
  have Hr := Lib.hid hr
  have H := Lib.hid h
  have Hown := Lib.hid (show (w.alloc (.cells #[.complex .f64 x y] 28)).ownsRow w0.heap.size 28 1 _ _ _ from World.ownsRow.alloc ho (.cells #[.complex .f64 x y] 28))
  have Hnews := Lib.hid (one_cellZ w x y)
  have Hone := Lib.hid (one_oneZ x y)
  clear hi hz0 hz1 hz2 hr ho h
  go_enter Try.func23, Try.ntmps23
  go_wp2_with (at_builtin; go_loud (refine wpList_append_lies _ rfl (.tmp 7) (.tmp 9) 46 rfl w0.heap.size 28 i0 (.complex .f64 0 0) 1 16 Try.underlying46 Hi.out.1 Hi.out.2.1 Hi.out.2.2.1 Hi.out.2.2.2 rfl (by decide) v k (cZ st.reverse) rfl Hown.out ⟨w.heap.size, 0, none⟩ 1 1 [.complex .f64 x y] rfl rfl Hnews.out Hone.out (by omega) hn63 hnby hbs _ rfl ?_; intro g cap1 w6 hown1 hgrow1 hat1 hlt1; have hR6 : w6.heap[R]? = some (.cells #[v, sl] 48 (0, 0)) := ((hgrow1.block R (by rw [World.size_alloc]; have := H.out.lt; omega) (fun e => by have := (Hown.out.lt R e.symm).1; have := H.out.lt; omega)).trans (((Below.refl w.heap.size w).alloc (Nat.le_refl _) _).block R (by have := H.out.lt; omega))).trans Hr.out; have f0 : w6.frozen? ⟨R, 0, none⟩ = false := (by simp [World.frozen?, hR6]); have c6 : w6.cell? ⟨R, 0, none⟩ = some v := (by simp [World.cell?, hR6])))
  have H6 := Lib.hid (show Rk w0 R sl ((x, y) :: st) (w6.setCell ⟨R, 0, none⟩ (.slice (some ⟨g, 0, none⟩) (k + 1) cap1)) from by
    have hg : w0.heap.size ≤ g := (hown1.lt g rfl).1
    have hlt := H.out.lt
    refine ⟨(only_grown (H.out.only.alloc _) hgrow1 (fun k hk => (Hown.out.lt k hk).1)).setCell _ _, ⟨_, block_setCell hR6 _, ?_⟩, hlt, by rw [List.length_cons, hk]; omega, fun u hu => ?_⟩
    · rw [List.length_cons, hk, List.reverse_cons]
      unfold OwnZ
      rw [← cZ_snoc]
      exact ownsRow_setCell_other (a := ⟨R, 0, none⟩) hown1 (by simp only [Value.ownBlock, ne_eq, Option.some.injEq]; omega) _
    · rcases List.mem_cons.1 hu with rfl | hu
      · exact hz
      · exact H.out.ok u hu)
  clear hown1 hgrow1 hat1 hlt1 hR6 f0 c6
  go_wp2_with fail
  exact bodyPost_end (v := .tuple #[]) (by simp [results, Try.results23]) rfl ⟨rfl, H6.out⟩
theorem two_any (w0 : World) (R : Nat) (sl : Value) (a b : Nat × Nat) (st : List (Nat × Nat)) (w : World) (h : Rk w0 R sl (b :: a :: st) w) :
    Calls Try.prog 61 #[.pointer (some ⟨R, 0, none⟩)] w fun e w' => e = .returned (.tuple #[.complex .f64 a.1 a.2, .complex .f64 b.1 b.2]) ∧ Rk w0 R sl st w' := by
  have H := Lib.hid h
  clear h
  go_enter Try.func61, Try.ntmps61
  go_wp2_with fail
  refine (take_any w0 R sl b (a :: st) _ H.out).mono ?_
  rintro e w1 ⟨rfl, h1⟩
  have H1 := Lib.hid h1
  clear h1
  go_wp2_with fail
  refine (take_any w0 R sl a st _ H1.out).mono ?_
  rintro e w2 ⟨rfl, h2⟩
  have H2 := Lib.hid h2
  clear h2
  go_wp2_with fail
  go_ret2
  exact ⟨rfl, H2.out⟩
/-! the map -/
theorem run_check (b : Bool) (k : Int) (w : World) : (Instr.checkKey b 10000 3 (.int .i64 k)).run Try.prog w = .ok () w := by kernel_rfl
theorem heap_last (w : World) (o : Obj) : (w.alloc o).heap[w.heap.size]? = some o := block_new w o
theorem set_last (w : World) (o o' : Obj) : setBlock (w.alloc o) w.heap.size o' = w.alloc o' := by
  unfold setBlock World.alloc
  congr 1
  apply Array.ext_getElem?
  intro i
  by_cases hi : i = w.heap.size
  · subst hi; simp
  · simp [Array.getElem?_push, hi, Ne.symm hi]
theorem run_ins (es : Array MapEntry) (c : Nat) (k : Int) (v : Value) (w : World) (hf : Instr.findNow (.int .i64) (.int .i64 k) es.toList 0 = some none) :
    (Instr.mapUpdate 49 (.map (some w.heap.size)) (.int .i64 k) v).run Try.prog (w.alloc (.map es c)) = .ok () (w.alloc (.map (es.push ⟨.int .i64 k, v, c⟩) (c + 1))) := by
  have hb := heap_last w (.map es c)
  rw [← set_last w (.map es c) (.map (es.push ⟨.int .i64 k, v, c⟩) (c + 1))]
  have hk : ∀ W, (Instr.findKey 3 (.int .i64 k) es.toList).run Try.prog W = .ok none W := fun W => by
    simp [Instr.findKey, run_underlying Try.underlying3, hf]
  simp [Instr.mapUpdate, run_underlying Try.underlying49, MapKept.run_getObj_map hb, run_check, hk, MapKept.run_setObj_map _ hb, Result.andThen, setBlock]
theorem run_look (es : Array MapEntry) (c M i : Nat) (k : Int) (v : Value) (w : World) (hb : w.heap[M]? = some (.map es c)) (hf : Instr.findNow (.int .i64) (.int .i64 k) es.toList 0 = some (some (i, v))) :
    (Instr.lookup 49 (.map (some M)) (.int .i64 k) false).run Try.prog w = .ok v w := by
  have hk : ∀ W, (Instr.findKey 3 (.int .i64 k) es.toList).run Try.prog W = .ok (some (i, v)) W := fun W => by
    simp [Instr.findKey, run_underlying Try.underlying3, hf]
  simp [Instr.lookup, run_underlying Try.underlying49, MapKept.run_getObj_map hb, run_check, hk]
end Go.Proofs.Ytjkjgichneoflaa.Ex
