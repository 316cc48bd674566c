/- readRecord and ParseRecord of the program. -/
import Derived.Test.YtjkhbjdhfklnaabDoorRcdP
namespace Go.Proofs.YtjkhbjdhfklnaabDoor.Rcd
open Go.ChangeShapes Go.WideShapes Go.ChangeAt Go.RowKit Go.Proofs.YtjkhbjdhfklnaabDoor Go.Proofs.YtjkhbjdhfklnaabDoor.Fld
set_option linter.unusedVariables false
set_option linter.unusedSimpArgs false
/-- what the program finds in package-level variables -/
structure Env (w : World) : Prop where
  tab : Door.Tab w
  asc : Asc w
  sy : ∃ t p, w.cell? ⟨2, 0, none⟩ = some (.iface t p)
  rg : ∃ t p, w.cell? ⟨3, 0, none⟩ = some (.iface t p)
theorem Env.below {w w' : World} (h : Env w) (hb : Below w.heap.size w w') : Env w' := by
  obtain ⟨t1, p1, h1⟩ := h.sy
  obtain ⟨t2, p2, h2⟩ := h.rg
  exact ⟨Door.tab_below h.tab hb, asc_below h.asc hb, ⟨t1, p1, (hb.cell (p := ⟨2, 0, none⟩) (Lib.lt_of_cell h1)).trans h1⟩, ⟨t2, p2, (hb.cell (p := ⟨3, 0, none⟩) (Lib.lt_of_cell h2)).trans h2⟩⟩
def okA (t : ByteArray) : Bool := match Lib.atoiAll t.data.toList with | .ok _ => true | _ => false
def av (t : ByteArray) : Int := match Lib.atoiAll t.data.toList with | .ok v => v | _ => 0
theorem av_itoa {n : Int} (h : -32767 ≤ n ∧ n ≤ 32767) : okA ⟨(Lib.itoa n).toArray⟩ = true ∧ av ⟨(Lib.itoa n).toArray⟩ = n := by
  have e : Lib.atoiAll (⟨(Lib.itoa n).toArray⟩ : ByteArray).data.toList = .ok n := atoi_itoa h
  unfold okA av
  rw [e]
  exact ⟨rfl, rfl⟩
theorem bytes_below (w : World) (T : TypeId) (t : ByteArray) : Below w.heap.size w (Lib.bytesWorld w T t) := Lib.bytesWorld_below _ _ _
theorem atoi_ok (t : ByteArray) (ht : t.size ≤ 1048576) (h : okA t = true) (w : World) : Calls Tryd.prog 24 #[.string t] w fun e w' => e = .returned (.tuple #[.int .i64 (av t), .nilIface]) ∧ Below w.heap.size w w' := by
  unfold okA at h
  unfold av
  cases hc : Lib.atoiAll t.data.toList with
  | ok v =>
    refine (Tryd.strconv_Atoi_ok t (by omega) v hc w).mono fun e w' he => ⟨he.1, ?_⟩
    rcases he.2 with rfl | ⟨T, rfl⟩
    · exact Below.refl _ _
    · exact bytes_below _ _ _
  | «syntax» => rw [hc] at h; cases h
  | range => rw [hc] at h; cases h
theorem atoi_no (t : ByteArray) (ht : t.size ≤ 1048576) (h : okA t = false) (w : World) (hE : Env w) : Calls Tryd.prog 24 #[.string t] w fun e w' => ∃ (x : Int) (T : TypeId) (N : Nat), e = .returned (.tuple #[.int .i64 x, .iface T (.pointer (some ⟨N, 0, none⟩))]) ∧ Below w.heap.size w w' := by
  unfold okA at h
  cases hc : Lib.atoiAll t.data.toList with
  | ok v => rw [hc] at h; cases h
  | «syntax» =>
    obtain ⟨T, p, hv⟩ := hE.sy
    refine (Tryd.strconv_Atoi_syntax t (by omega) hc _ w hv (.inr ⟨T, p, rfl⟩)).mono fun e w' he => ?_
    obtain ⟨N, h1, _, _, h4⟩ := he
    exact ⟨_, _, N, h1, h4⟩
  | range =>
    obtain ⟨T, p, hv⟩ := hE.rg
    refine (Tryd.strconv_Atoi_range t (by omega) hc _ w hv (.inr ⟨T, p, rfl⟩)).mono fun e w' he => ?_
    obtain ⟨N, h1, _, _, h4⟩ := he
    exact ⟨_, _, N, h1, h4⟩
theorem C4.other {w : World} {n q i : Nat} {a b c d v : Value} (h : C4 w n a b c d) (hq : n ≠ q) : C4 (w.setCell ⟨q, i, none⟩ v) n a b c d := by
  have hb := Below.heap_setCell w ⟨q, i, none⟩ v n hq
  have hc : ∀ j, (w.setCell ⟨q, i, none⟩ v).cell? ⟨n, j, none⟩ = w.cell? ⟨n, j, none⟩ := fun j => World.cell?_of_block (w := w) hb
  have hf : ∀ j, (w.setCell ⟨q, i, none⟩ v).frozen? ⟨n, j, none⟩ = w.frozen? ⟨n, j, none⟩ := fun j => by unfold World.frozen?; rw [hb]
  exact ⟨(hc 0).trans h.c0, (hc 1).trans h.c1, (hc 2).trans h.c2, (hc 3).trans h.c3, (hf 0).trans h.f0, (hf 1).trans h.f1, (hf 2).trans h.f2, (hf 3).trans h.f3, by rw [World.size_setCell]; exact h.lt⟩
theorem S4.other {w : World} {n q i : Nat} {a b c d : ByteArray} {v : Value} (h : S4 w n a b c d) (hq : n ≠ q) : S4 (w.setCell ⟨q, i, none⟩ v) n a b c d := by
  have hb := Below.heap_setCell w ⟨q, i, none⟩ v n hq
  have hc : ∀ j, (w.setCell ⟨q, i, none⟩ v).cell? ⟨n, j, none⟩ = w.cell? ⟨n, j, none⟩ := fun j => World.cell?_of_block (w := w) hb
  exact ⟨(hc 0).trans h.c0, (hc 1).trans h.c1, (hc 2).trans h.c2, (hc 3).trans h.c3, by rw [World.size_setCell]; exact h.lt⟩
theorem below_set {B : Nat} {a w : World} {q i : Nat} {v : Value} (h : Below B a w) (hq : B ≤ q) : Below B a (w.setCell ⟨q, i, none⟩ v) := h.setCell hq v
theorem Env.set {w : World} {a : World} {q i : Nat} {v : Value} (h : Env a) (hb : Below a.heap.size a (w.setCell ⟨q, i, none⟩ v)) : Env (w.setCell ⟨q, i, none⟩ v) := h.below hb
theorem C4.set0 {w : World} {n : Nat} {a b c d v : Value} (h : C4 w n a b c d) : C4 (w.setCell ⟨n, 0, none⟩ v) n v b c d := by
  obtain ⟨h0, h1, h2, h3, f0, f1, f2, f3, hl⟩ := h
  constructor <;> simp [go_sem, h0, h1, h2, h3, f0, f1, f2, f3, hl]
theorem C4.set1 {w : World} {n : Nat} {a b c d v : Value} (h : C4 w n a b c d) : C4 (w.setCell ⟨n, 1, none⟩ v) n a v c d := by
  obtain ⟨h0, h1, h2, h3, f0, f1, f2, f3, hl⟩ := h
  constructor <;> simp [go_sem, h0, h1, h2, h3, f0, f1, f2, f3, hl]
theorem C4.set2 {w : World} {n : Nat} {a b c d v : Value} (h : C4 w n a b c d) : C4 (w.setCell ⟨n, 2, none⟩ v) n a b v d := by
  obtain ⟨h0, h1, h2, h3, f0, f1, f2, f3, hl⟩ := h
  constructor <;> simp [go_sem, h0, h1, h2, h3, f0, f1, f2, f3, hl]
theorem C4.set3 {w : World} {n : Nat} {a b c d v : Value} (h : C4 w n a b c d) : C4 (w.setCell ⟨n, 3, none⟩ v) n a b c v := by
  obtain ⟨h0, h1, h2, h3, f0, f1, f2, f3, hl⟩ := h
  constructor <;> simp [go_sem, h0, h1, h2, h3, f0, f1, f2, f3, hl]
theorem rs_size {s : ByteArray} {j : Nat} (h : j < (resF s).length) : ((resF s)[j]).size ≤ s.size := by
  by_cases hk : s.size ≤ 600 ∧ prs s s.size ∧ (fldS s).length ≤ 24
  · have e := (okF_yes hk.1 hk.2.1 hk.2.2).2
    simp only [e] at h ⊢
    exact fld_small h
  · have e := (okF_no hk).2
    rw [e] at h
    exact absurd h (Nat.not_lt_zero _)
set_option maxRecDepth 20000 in
set_option maxHeartbeats 3200000 in
theorem read_ok (s p0 p1 p2 p3 : ByteArray) (hs : s.size ≤ 1048576) (hok : okF s = true) (hf : resF s = [p0, p1, p2, p3]) (h0 : okA p0 = true) (h1 : okA p1 = true) (h2 : okA p2 = true) (h3 : okA p3 = true) (w : World) (hE : Env w) : Calls Tryd.prog 19 #[.string s] w fun e w' => e = .returned (.tuple #[recV (av p0) (av p1) (av p2) (av p3), .bool true]) ∧ Below w.heap.size w w' := by
  have c1 := fun W hW => Fld.impl_any s hs W hW
  unfold Spl at c1
  have z : ∀ i (h : i < (resF s).length), ((resF s)[i]).size ≤ 1048576 := fun i h => Nat.le_trans (rs_size h) hs
  have z0 : p0.size ≤ 1048576 := by have := z 0 (by rw [hf]; show 0 < 4; omega); simpa [hf] using this
  have z1 : p1.size ≤ 1048576 := by have := z 1 (by rw [hf]; show 1 < 4; omega); simpa [hf] using this
  have z2 : p2.size ≤ 1048576 := by have := z 2 (by rw [hf]; show 2 < 4; omega); simpa [hf] using this
  have z3 : p3.size ≤ 1048576 := by have := z 3 (by rw [hf]; show 3 < 4; omega); simpa [hf] using this
  rw [hok, hf] at c1
  have d0 := fun W => atoi_ok p0 z0 h0 W
  have d1 := fun W => atoi_ok p1 z1 h1 W
  have d2 := fun W => atoi_ok p2 z2 h2 W
  have d3 := fun W => atoi_ok p3 z3 h3 W
  obtain ⟨x0, hx0⟩ : ∃ x, av p0 = x := ⟨_, rfl⟩
  rw [hx0] at d0 ⊢
  obtain ⟨x1, hx1⟩ : ∃ x, av p1 = x := ⟨_, rfl⟩
  rw [hx1] at d1 ⊢
  obtain ⟨x2, hx2⟩ : ∃ x, av p2 = x := ⟨_, rfl⟩
  rw [hx2] at d2 ⊢
  obtain ⟨x3, hx3⟩ : ∃ x, av p3 = x := ⟨_, rfl⟩
  rw [hx3] at d3 ⊢
  unfold recV
  have HE := Lib.hid hE
  have HK := Lib.hid (show C4 (w.alloc (.cells #[.int .i64 0, .int .i64 0, .int .i64 0, .int .i64 0] 25)) w.heap.size (.int .i64 0) (.int .i64 0) (.int .i64 0) (.int .i64 0) ∧ Below w.heap.size w (w.alloc (.cells #[.int .i64 0, .int .i64 0, .int .i64 0, .int .i64 0] 25)) from ⟨C4.new w _ _ _ _ _, by go_grown⟩)
  clear hok hf hs z z0 z1 z2 z3 hE h0 h1 h2 h3 hx0 hx1 hx2 hx3
  go_enter Tryd.func19, Tryd.ntmps19
  go_wp2_with fail
  refine (c1 _ (HE.out.below HK.out.2).asc).mono ?_
  rintro e w1 ⟨v, rfl, hown, hb⟩
  obtain ⟨g, cap, rfl, hS⟩ := own_four hown
  have B1 := Lib.hid (HK.out.2.trans (hb.mono HK.out.2.size))
  have ba := below_new1 w1 (.cells #[.int .i64 0, .int .i64 0, .int .i64 0, .int .i64 0] 43)
  have M := Lib.hid (show C4 (w1.alloc (.cells #[.int .i64 0, .int .i64 0, .int .i64 0, .int .i64 0] 43)) w.heap.size (.int .i64 0) (.int .i64 0) (.int .i64 0) (.int .i64 0) ∧ C4 (w1.alloc (.cells #[.int .i64 0, .int .i64 0, .int .i64 0, .int .i64 0] 43)) w1.heap.size (.int .i64 0) (.int .i64 0) (.int .i64 0) (.int .i64 0) ∧ S4 (w1.alloc (.cells #[.int .i64 0, .int .i64 0, .int .i64 0, .int .i64 0] 43)) g p0 p1 p2 p3 ∧ Below w.heap.size w (w1.alloc (.cells #[.int .i64 0, .int .i64 0, .int .i64 0, .int .i64 0] 43)) from
    ⟨(HK.out.1.keep hb (Nat.le_refl _)).keep ba (Nat.le_refl _), C4.new w1 _ _ _ _ _, hS.keep ba (Nat.le_refl _), B1.out.trans (ba.mono B1.out.size)⟩)
  have hgq : g ≠ w1.heap.size := Nat.ne_of_lt hS.lt
  have hwq : w.heap.size ≠ w1.heap.size := by have h1 := HK.out.1.lt; have h2 := hb.size; omega
  have hwl : w.heap.size ≤ w1.heap.size := B1.out.size
  obtain ⟨q, hq⟩ : ∃ q, w1.heap.size = q := ⟨_, rfl⟩
  obtain ⟨W0, hW0⟩ : ∃ W0, w1.alloc (.cells #[.int .i64 0, .int .i64 0, .int .i64 0, .int .i64 0] 43) = W0 := ⟨_, rfl⟩
  rw [hW0, hq] at M
  rw [hq] at hgq hwq hwl
  clear hb hown hS ba
  go_wp2_with fail
  (try rw [hW0])
  (try rw [hq])
  clear hW0 hq B1
  have hq2 := Lib.hid (And.intro hgq (And.intro hwq hwl))
  clear hgq hwq hwl
  refine wp_loop_rounds 6 ?_
  have u0 := M.out.2.2.1.c0
  rw [rounds_succ]
  go_wp2_with fail
  refine (d0 _).mono ?_
  rintro e y0 ⟨rfl, hb⟩
  have N0 := Lib.hid (show C4 y0 w.heap.size (.int .i64 0) (.int .i64 0) (.int .i64 0) (.int .i64 0) ∧ C4 y0 q (.int .i64 0) (.int .i64 0) (.int .i64 0) (.int .i64 0) ∧ S4 y0 g p0 p1 p2 p3 ∧ Below w.heap.size w y0 from ⟨M.out.1.keep hb (Nat.le_refl _), M.out.2.1.keep hb (Nat.le_refl _), M.out.2.2.1.keep hb (Nat.le_refl _), M.out.2.2.2.trans (hb.mono M.out.2.2.2.size)⟩)
  clear hb u0
  obtain ⟨k0, k1, k2, k3, f0', f1', f2', f3', hlt⟩ := N0.out.2.1
  go_wp2_with fail
  clear k0 k1 k2 k3 f0' f1' f2' f3' hlt
  have M0 := Lib.hid (show C4 (y0.setCell ⟨q, 0, none⟩ (.int .i64 x0)) w.heap.size (.int .i64 0) (.int .i64 0) (.int .i64 0) (.int .i64 0) ∧ C4 (y0.setCell ⟨q, 0, none⟩ (.int .i64 x0)) q (.int .i64 x0) (.int .i64 0) (.int .i64 0) (.int .i64 0) ∧ S4 (y0.setCell ⟨q, 0, none⟩ (.int .i64 x0)) g p0 p1 p2 p3 ∧ Below w.heap.size w (y0.setCell ⟨q, 0, none⟩ (.int .i64 x0)) from ⟨N0.out.1.other hq2.out.2.1, N0.out.2.1.set0, N0.out.2.2.1.other hq2.out.1, below_set N0.out.2.2.2 hq2.out.2.2⟩)
  obtain ⟨W1, hW⟩ : ∃ W, y0.setCell ⟨q, 0, none⟩ (.int .i64 x0) = W := ⟨_, rfl⟩
  rw [hW] at M0 ⊢
  clear hW
  have u1 := M0.out.2.2.1.c1
  rw [rounds_succ]
  go_wp2_with fail
  refine (d1 _).mono ?_
  rintro e y1 ⟨rfl, hb⟩
  have N1 := Lib.hid (show C4 y1 w.heap.size (.int .i64 0) (.int .i64 0) (.int .i64 0) (.int .i64 0) ∧ C4 y1 q (.int .i64 x0) (.int .i64 0) (.int .i64 0) (.int .i64 0) ∧ S4 y1 g p0 p1 p2 p3 ∧ Below w.heap.size w y1 from ⟨M0.out.1.keep hb (Nat.le_refl _), M0.out.2.1.keep hb (Nat.le_refl _), M0.out.2.2.1.keep hb (Nat.le_refl _), M0.out.2.2.2.trans (hb.mono M0.out.2.2.2.size)⟩)
  clear hb u1
  obtain ⟨k0, k1, k2, k3, f0', f1', f2', f3', hlt⟩ := N1.out.2.1
  go_wp2_with fail
  clear k0 k1 k2 k3 f0' f1' f2' f3' hlt
  have M1 := Lib.hid (show C4 (y1.setCell ⟨q, 1, none⟩ (.int .i64 x1)) w.heap.size (.int .i64 0) (.int .i64 0) (.int .i64 0) (.int .i64 0) ∧ C4 (y1.setCell ⟨q, 1, none⟩ (.int .i64 x1)) q (.int .i64 x0) (.int .i64 x1) (.int .i64 0) (.int .i64 0) ∧ S4 (y1.setCell ⟨q, 1, none⟩ (.int .i64 x1)) g p0 p1 p2 p3 ∧ Below w.heap.size w (y1.setCell ⟨q, 1, none⟩ (.int .i64 x1)) from ⟨N1.out.1.other hq2.out.2.1, N1.out.2.1.set1, N1.out.2.2.1.other hq2.out.1, below_set N1.out.2.2.2 hq2.out.2.2⟩)
  obtain ⟨W2, hW⟩ : ∃ W, y1.setCell ⟨q, 1, none⟩ (.int .i64 x1) = W := ⟨_, rfl⟩
  rw [hW] at M1 ⊢
  clear hW
  have u2 := M1.out.2.2.1.c2
  rw [rounds_succ]
  go_wp2_with fail
  refine (d2 _).mono ?_
  rintro e y2 ⟨rfl, hb⟩
  have N2 := Lib.hid (show C4 y2 w.heap.size (.int .i64 0) (.int .i64 0) (.int .i64 0) (.int .i64 0) ∧ C4 y2 q (.int .i64 x0) (.int .i64 x1) (.int .i64 0) (.int .i64 0) ∧ S4 y2 g p0 p1 p2 p3 ∧ Below w.heap.size w y2 from ⟨M1.out.1.keep hb (Nat.le_refl _), M1.out.2.1.keep hb (Nat.le_refl _), M1.out.2.2.1.keep hb (Nat.le_refl _), M1.out.2.2.2.trans (hb.mono M1.out.2.2.2.size)⟩)
  clear hb u2
  obtain ⟨k0, k1, k2, k3, f0', f1', f2', f3', hlt⟩ := N2.out.2.1
  go_wp2_with fail
  clear k0 k1 k2 k3 f0' f1' f2' f3' hlt
  have M2 := Lib.hid (show C4 (y2.setCell ⟨q, 2, none⟩ (.int .i64 x2)) w.heap.size (.int .i64 0) (.int .i64 0) (.int .i64 0) (.int .i64 0) ∧ C4 (y2.setCell ⟨q, 2, none⟩ (.int .i64 x2)) q (.int .i64 x0) (.int .i64 x1) (.int .i64 x2) (.int .i64 0) ∧ S4 (y2.setCell ⟨q, 2, none⟩ (.int .i64 x2)) g p0 p1 p2 p3 ∧ Below w.heap.size w (y2.setCell ⟨q, 2, none⟩ (.int .i64 x2)) from ⟨N2.out.1.other hq2.out.2.1, N2.out.2.1.set2, N2.out.2.2.1.other hq2.out.1, below_set N2.out.2.2.2 hq2.out.2.2⟩)
  obtain ⟨W3, hW⟩ : ∃ W, y2.setCell ⟨q, 2, none⟩ (.int .i64 x2) = W := ⟨_, rfl⟩
  rw [hW] at M2 ⊢
  clear hW
  have u3 := M2.out.2.2.1.c3
  rw [rounds_succ]
  go_wp2_with fail
  refine (d3 _).mono ?_
  rintro e y3 ⟨rfl, hb⟩
  have N3 := Lib.hid (show C4 y3 w.heap.size (.int .i64 0) (.int .i64 0) (.int .i64 0) (.int .i64 0) ∧ C4 y3 q (.int .i64 x0) (.int .i64 x1) (.int .i64 x2) (.int .i64 0) ∧ S4 y3 g p0 p1 p2 p3 ∧ Below w.heap.size w y3 from ⟨M2.out.1.keep hb (Nat.le_refl _), M2.out.2.1.keep hb (Nat.le_refl _), M2.out.2.2.1.keep hb (Nat.le_refl _), M2.out.2.2.2.trans (hb.mono M2.out.2.2.2.size)⟩)
  clear hb u3
  obtain ⟨k0, k1, k2, k3, f0', f1', f2', f3', hlt⟩ := N3.out.2.1
  go_wp2_with fail
  clear k0 k1 k2 k3 f0' f1' f2' f3' hlt
  have M3 := Lib.hid (show C4 (y3.setCell ⟨q, 3, none⟩ (.int .i64 x3)) w.heap.size (.int .i64 0) (.int .i64 0) (.int .i64 0) (.int .i64 0) ∧ C4 (y3.setCell ⟨q, 3, none⟩ (.int .i64 x3)) q (.int .i64 x0) (.int .i64 x1) (.int .i64 x2) (.int .i64 x3) ∧ S4 (y3.setCell ⟨q, 3, none⟩ (.int .i64 x3)) g p0 p1 p2 p3 ∧ Below w.heap.size w (y3.setCell ⟨q, 3, none⟩ (.int .i64 x3)) from ⟨N3.out.1.other hq2.out.2.1, N3.out.2.1.set3, N3.out.2.2.1.other hq2.out.1, below_set N3.out.2.2.2 hq2.out.2.2⟩)
  obtain ⟨W4, hW⟩ : ∃ W, y3.setCell ⟨q, 3, none⟩ (.int .i64 x3) = W := ⟨_, rfl⟩
  rw [hW] at M3 ⊢
  clear hW
  obtain ⟨r0, r1, r2, r3, _, _, _, _, rlt⟩ := M3.out.2.1
  obtain ⟨k0, k1, k2, k3, f0', f1', f2', f3', hlt⟩ := M3.out.1
  rw [rounds_succ]
  go_wp2_with fail
  refine bodyPost_ret (v := .tuple #[.agg #[.int .i64 x0, .int .i64 x1, .int .i64 x2, .int .i64 x3], .bool true]) ?_ rfl ⟨rfl, ?_⟩
  · simp [results, Tryd.results19, go_sem, k0, k1, k2, k3]
  · have hbw := M3.out.2.2.2
    go_grown
set_option maxRecDepth 20000 in
set_option maxHeartbeats 3200000 in
theorem read_no0 (s p0 p1 p2 p3 : ByteArray) (hs : s.size ≤ 1048576) (hok : okF s = true) (hf : resF s = [p0, p1, p2, p3]) (h0 : okA p0 = false) (w : World) (hE : Env w) : Calls Tryd.prog 19 #[.string s] w fun e w' => e = .returned (.tuple #[recV 0 0 0 0, .bool false]) ∧ Below w.heap.size w w' := by
  have c1 := fun W hW => Fld.impl_any s hs W hW
  unfold Spl at c1
  have z : ∀ i (h : i < (resF s).length), ((resF s)[i]).size ≤ 1048576 := fun i h => Nat.le_trans (rs_size h) hs
  have z0 : p0.size ≤ 1048576 := by have := z 0 (by rw [hf]; show 0 < 4; omega); simpa [hf] using this
  have z1 : p1.size ≤ 1048576 := by have := z 1 (by rw [hf]; show 1 < 4; omega); simpa [hf] using this
  have z2 : p2.size ≤ 1048576 := by have := z 2 (by rw [hf]; show 2 < 4; omega); simpa [hf] using this
  have z3 : p3.size ≤ 1048576 := by have := z 3 (by rw [hf]; show 3 < 4; omega); simpa [hf] using this
  rw [hok, hf] at c1
  have d0 := fun W hW => atoi_no p0 z0 h0 W hW
  unfold recV
  have HE := Lib.hid hE
  have HK := Lib.hid (show C4 (w.alloc (.cells #[.int .i64 0, .int .i64 0, .int .i64 0, .int .i64 0] 25)) w.heap.size (.int .i64 0) (.int .i64 0) (.int .i64 0) (.int .i64 0) ∧ Below w.heap.size w (w.alloc (.cells #[.int .i64 0, .int .i64 0, .int .i64 0, .int .i64 0] 25)) from ⟨C4.new w _ _ _ _ _, by go_grown⟩)
  clear hok hf hs z z0 z1 z2 z3 hE h0 
  go_enter Tryd.func19, Tryd.ntmps19
  go_wp2_with fail
  refine (c1 _ (HE.out.below HK.out.2).asc).mono ?_
  rintro e w1 ⟨v, rfl, hown, hb⟩
  obtain ⟨g, cap, rfl, hS⟩ := own_four hown
  have B1 := Lib.hid (HK.out.2.trans (hb.mono HK.out.2.size))
  have ba := below_new1 w1 (.cells #[.int .i64 0, .int .i64 0, .int .i64 0, .int .i64 0] 43)
  have M := Lib.hid (show C4 (w1.alloc (.cells #[.int .i64 0, .int .i64 0, .int .i64 0, .int .i64 0] 43)) w.heap.size (.int .i64 0) (.int .i64 0) (.int .i64 0) (.int .i64 0) ∧ C4 (w1.alloc (.cells #[.int .i64 0, .int .i64 0, .int .i64 0, .int .i64 0] 43)) w1.heap.size (.int .i64 0) (.int .i64 0) (.int .i64 0) (.int .i64 0) ∧ S4 (w1.alloc (.cells #[.int .i64 0, .int .i64 0, .int .i64 0, .int .i64 0] 43)) g p0 p1 p2 p3 ∧ Below w.heap.size w (w1.alloc (.cells #[.int .i64 0, .int .i64 0, .int .i64 0, .int .i64 0] 43)) from
    ⟨(HK.out.1.keep hb (Nat.le_refl _)).keep ba (Nat.le_refl _), C4.new w1 _ _ _ _ _, hS.keep ba (Nat.le_refl _), B1.out.trans (ba.mono B1.out.size)⟩)
  have hgq : g ≠ w1.heap.size := Nat.ne_of_lt hS.lt
  have hwq : w.heap.size ≠ w1.heap.size := by have h1 := HK.out.1.lt; have h2 := hb.size; omega
  have hwl : w.heap.size ≤ w1.heap.size := B1.out.size
  obtain ⟨q, hq⟩ : ∃ q, w1.heap.size = q := ⟨_, rfl⟩
  obtain ⟨W0, hW0⟩ : ∃ W0, w1.alloc (.cells #[.int .i64 0, .int .i64 0, .int .i64 0, .int .i64 0] 43) = W0 := ⟨_, rfl⟩
  rw [hW0, hq] at M
  rw [hq] at hgq hwq hwl
  clear hb hown hS ba
  go_wp2_with fail
  (try rw [hW0])
  (try rw [hq])
  clear hW0 hq B1
  have hq2 := Lib.hid (And.intro hgq (And.intro hwq hwl))
  clear hgq hwq hwl
  refine wp_loop_rounds 6 ?_
  have u0 := M.out.2.2.1.c0
  rw [rounds_succ]
  go_wp2_with fail
  refine (d0 _ (HE.out.below M.out.2.2.2)).mono ?_
  rintro e y0 ⟨xx, T, N, rfl, hb⟩
  have N0 := Lib.hid (show C4 y0 w.heap.size (.int .i64 0) (.int .i64 0) (.int .i64 0) (.int .i64 0) ∧ C4 y0 q (.int .i64 0) (.int .i64 0) (.int .i64 0) (.int .i64 0) ∧ S4 y0 g p0 p1 p2 p3 ∧ Below w.heap.size w y0 from ⟨M.out.1.keep hb (Nat.le_refl _), M.out.2.1.keep hb (Nat.le_refl _), M.out.2.2.1.keep hb (Nat.le_refl _), M.out.2.2.2.trans (hb.mono M.out.2.2.2.size)⟩)
  clear hb u0
  obtain ⟨k0, k1, k2, k3, f0', f1', f2', f3', hlt⟩ := N0.out.1
  go_wp2_with fail
  refine bodyPost_ret (v := .tuple #[.agg #[.int .i64 0, .int .i64 0, .int .i64 0, .int .i64 0], .bool false]) ?_ rfl ⟨rfl, ?_⟩
  · simp [results, Tryd.results19, go_sem, k0, k1, k2, k3]
  · have hbw := N0.out.2.2.2
    go_grown
set_option maxRecDepth 20000 in
set_option maxHeartbeats 3200000 in
theorem read_no1 (s p0 p1 p2 p3 : ByteArray) (hs : s.size ≤ 1048576) (hok : okF s = true) (hf : resF s = [p0, p1, p2, p3]) (h0 : okA p0 = true) (h1 : okA p1 = false) (w : World) (hE : Env w) : Calls Tryd.prog 19 #[.string s] w fun e w' => e = .returned (.tuple #[recV 0 0 0 0, .bool false]) ∧ Below w.heap.size w w' := by
  have c1 := fun W hW => Fld.impl_any s hs W hW
  unfold Spl at c1
  have z : ∀ i (h : i < (resF s).length), ((resF s)[i]).size ≤ 1048576 := fun i h => Nat.le_trans (rs_size h) hs
  have z0 : p0.size ≤ 1048576 := by have := z 0 (by rw [hf]; show 0 < 4; omega); simpa [hf] using this
  have z1 : p1.size ≤ 1048576 := by have := z 1 (by rw [hf]; show 1 < 4; omega); simpa [hf] using this
  have z2 : p2.size ≤ 1048576 := by have := z 2 (by rw [hf]; show 2 < 4; omega); simpa [hf] using this
  have z3 : p3.size ≤ 1048576 := by have := z 3 (by rw [hf]; show 3 < 4; omega); simpa [hf] using this
  rw [hok, hf] at c1
  have d0 := fun W => atoi_ok p0 z0 h0 W
  have d1 := fun W hW => atoi_no p1 z1 h1 W hW
  obtain ⟨x0, hx0⟩ : ∃ x, av p0 = x := ⟨_, rfl⟩
  rw [hx0] at d0
  unfold recV
  have HE := Lib.hid hE
  have HK := Lib.hid (show C4 (w.alloc (.cells #[.int .i64 0, .int .i64 0, .int .i64 0, .int .i64 0] 25)) w.heap.size (.int .i64 0) (.int .i64 0) (.int .i64 0) (.int .i64 0) ∧ Below w.heap.size w (w.alloc (.cells #[.int .i64 0, .int .i64 0, .int .i64 0, .int .i64 0] 25)) from ⟨C4.new w _ _ _ _ _, by go_grown⟩)
  clear hok hf hs z z0 z1 z2 z3 hE h0 h1 hx0
  go_enter Tryd.func19, Tryd.ntmps19
  go_wp2_with fail
  refine (c1 _ (HE.out.below HK.out.2).asc).mono ?_
  rintro e w1 ⟨v, rfl, hown, hb⟩
  obtain ⟨g, cap, rfl, hS⟩ := own_four hown
  have B1 := Lib.hid (HK.out.2.trans (hb.mono HK.out.2.size))
  have ba := below_new1 w1 (.cells #[.int .i64 0, .int .i64 0, .int .i64 0, .int .i64 0] 43)
  have M := Lib.hid (show C4 (w1.alloc (.cells #[.int .i64 0, .int .i64 0, .int .i64 0, .int .i64 0] 43)) w.heap.size (.int .i64 0) (.int .i64 0) (.int .i64 0) (.int .i64 0) ∧ C4 (w1.alloc (.cells #[.int .i64 0, .int .i64 0, .int .i64 0, .int .i64 0] 43)) w1.heap.size (.int .i64 0) (.int .i64 0) (.int .i64 0) (.int .i64 0) ∧ S4 (w1.alloc (.cells #[.int .i64 0, .int .i64 0, .int .i64 0, .int .i64 0] 43)) g p0 p1 p2 p3 ∧ Below w.heap.size w (w1.alloc (.cells #[.int .i64 0, .int .i64 0, .int .i64 0, .int .i64 0] 43)) from
    ⟨(HK.out.1.keep hb (Nat.le_refl _)).keep ba (Nat.le_refl _), C4.new w1 _ _ _ _ _, hS.keep ba (Nat.le_refl _), B1.out.trans (ba.mono B1.out.size)⟩)
  have hgq : g ≠ w1.heap.size := Nat.ne_of_lt hS.lt
  have hwq : w.heap.size ≠ w1.heap.size := by have h1 := HK.out.1.lt; have h2 := hb.size; omega
  have hwl : w.heap.size ≤ w1.heap.size := B1.out.size
  obtain ⟨q, hq⟩ : ∃ q, w1.heap.size = q := ⟨_, rfl⟩
  obtain ⟨W0, hW0⟩ : ∃ W0, w1.alloc (.cells #[.int .i64 0, .int .i64 0, .int .i64 0, .int .i64 0] 43) = W0 := ⟨_, rfl⟩
  rw [hW0, hq] at M
  rw [hq] at hgq hwq hwl
  clear hb hown hS ba
  go_wp2_with fail
  (try rw [hW0])
  (try rw [hq])
  clear hW0 hq B1
  have hq2 := Lib.hid (And.intro hgq (And.intro hwq hwl))
  clear hgq hwq hwl
  refine wp_loop_rounds 6 ?_
  have u0 := M.out.2.2.1.c0
  rw [rounds_succ]
  go_wp2_with fail
  refine (d0 _).mono ?_
  rintro e y0 ⟨rfl, hb⟩
  have N0 := Lib.hid (show C4 y0 w.heap.size (.int .i64 0) (.int .i64 0) (.int .i64 0) (.int .i64 0) ∧ C4 y0 q (.int .i64 0) (.int .i64 0) (.int .i64 0) (.int .i64 0) ∧ S4 y0 g p0 p1 p2 p3 ∧ Below w.heap.size w y0 from ⟨M.out.1.keep hb (Nat.le_refl _), M.out.2.1.keep hb (Nat.le_refl _), M.out.2.2.1.keep hb (Nat.le_refl _), M.out.2.2.2.trans (hb.mono M.out.2.2.2.size)⟩)
  clear hb u0
  obtain ⟨k0, k1, k2, k3, f0', f1', f2', f3', hlt⟩ := N0.out.2.1
  go_wp2_with fail
  clear k0 k1 k2 k3 f0' f1' f2' f3' hlt
  have M0 := Lib.hid (show C4 (y0.setCell ⟨q, 0, none⟩ (.int .i64 x0)) w.heap.size (.int .i64 0) (.int .i64 0) (.int .i64 0) (.int .i64 0) ∧ C4 (y0.setCell ⟨q, 0, none⟩ (.int .i64 x0)) q (.int .i64 x0) (.int .i64 0) (.int .i64 0) (.int .i64 0) ∧ S4 (y0.setCell ⟨q, 0, none⟩ (.int .i64 x0)) g p0 p1 p2 p3 ∧ Below w.heap.size w (y0.setCell ⟨q, 0, none⟩ (.int .i64 x0)) from ⟨N0.out.1.other hq2.out.2.1, N0.out.2.1.set0, N0.out.2.2.1.other hq2.out.1, below_set N0.out.2.2.2 hq2.out.2.2⟩)
  obtain ⟨W1, hW⟩ : ∃ W, y0.setCell ⟨q, 0, none⟩ (.int .i64 x0) = W := ⟨_, rfl⟩
  rw [hW] at M0 ⊢
  clear hW
  have u1 := M0.out.2.2.1.c1
  rw [rounds_succ]
  go_wp2_with fail
  refine (d1 _ (HE.out.below M0.out.2.2.2)).mono ?_
  rintro e y1 ⟨xx, T, N, rfl, hb⟩
  have N1 := Lib.hid (show C4 y1 w.heap.size (.int .i64 0) (.int .i64 0) (.int .i64 0) (.int .i64 0) ∧ C4 y1 q (.int .i64 x0) (.int .i64 0) (.int .i64 0) (.int .i64 0) ∧ S4 y1 g p0 p1 p2 p3 ∧ Below w.heap.size w y1 from ⟨M0.out.1.keep hb (Nat.le_refl _), M0.out.2.1.keep hb (Nat.le_refl _), M0.out.2.2.1.keep hb (Nat.le_refl _), M0.out.2.2.2.trans (hb.mono M0.out.2.2.2.size)⟩)
  clear hb u1
  obtain ⟨k0, k1, k2, k3, f0', f1', f2', f3', hlt⟩ := N1.out.1
  go_wp2_with fail
  refine bodyPost_ret (v := .tuple #[.agg #[.int .i64 0, .int .i64 0, .int .i64 0, .int .i64 0], .bool false]) ?_ rfl ⟨rfl, ?_⟩
  · simp [results, Tryd.results19, go_sem, k0, k1, k2, k3]
  · have hbw := N1.out.2.2.2
    go_grown
set_option maxRecDepth 20000 in
set_option maxHeartbeats 3200000 in
theorem read_no2 (s p0 p1 p2 p3 : ByteArray) (hs : s.size ≤ 1048576) (hok : okF s = true) (hf : resF s = [p0, p1, p2, p3]) (h0 : okA p0 = true) (h1 : okA p1 = true) (h2 : okA p2 = false) (w : World) (hE : Env w) : Calls Tryd.prog 19 #[.string s] w fun e w' => e = .returned (.tuple #[recV 0 0 0 0, .bool false]) ∧ Below w.heap.size w w' := by
  have c1 := fun W hW => Fld.impl_any s hs W hW
  unfold Spl at c1
  have z : ∀ i (h : i < (resF s).length), ((resF s)[i]).size ≤ 1048576 := fun i h => Nat.le_trans (rs_size h) hs
  have z0 : p0.size ≤ 1048576 := by have := z 0 (by rw [hf]; show 0 < 4; omega); simpa [hf] using this
  have z1 : p1.size ≤ 1048576 := by have := z 1 (by rw [hf]; show 1 < 4; omega); simpa [hf] using this
  have z2 : p2.size ≤ 1048576 := by have := z 2 (by rw [hf]; show 2 < 4; omega); simpa [hf] using this
  have z3 : p3.size ≤ 1048576 := by have := z 3 (by rw [hf]; show 3 < 4; omega); simpa [hf] using this
  rw [hok, hf] at c1
  have d0 := fun W => atoi_ok p0 z0 h0 W
  have d1 := fun W => atoi_ok p1 z1 h1 W
  have d2 := fun W hW => atoi_no p2 z2 h2 W hW
  obtain ⟨x0, hx0⟩ : ∃ x, av p0 = x := ⟨_, rfl⟩
  rw [hx0] at d0
  obtain ⟨x1, hx1⟩ : ∃ x, av p1 = x := ⟨_, rfl⟩
  rw [hx1] at d1
  unfold recV
  have HE := Lib.hid hE
  have HK := Lib.hid (show C4 (w.alloc (.cells #[.int .i64 0, .int .i64 0, .int .i64 0, .int .i64 0] 25)) w.heap.size (.int .i64 0) (.int .i64 0) (.int .i64 0) (.int .i64 0) ∧ Below w.heap.size w (w.alloc (.cells #[.int .i64 0, .int .i64 0, .int .i64 0, .int .i64 0] 25)) from ⟨C4.new w _ _ _ _ _, by go_grown⟩)
  clear hok hf hs z z0 z1 z2 z3 hE h0 h1 h2 hx0 hx1
  go_enter Tryd.func19, Tryd.ntmps19
  go_wp2_with fail
  refine (c1 _ (HE.out.below HK.out.2).asc).mono ?_
  rintro e w1 ⟨v, rfl, hown, hb⟩
  obtain ⟨g, cap, rfl, hS⟩ := own_four hown
  have B1 := Lib.hid (HK.out.2.trans (hb.mono HK.out.2.size))
  have ba := below_new1 w1 (.cells #[.int .i64 0, .int .i64 0, .int .i64 0, .int .i64 0] 43)
  have M := Lib.hid (show C4 (w1.alloc (.cells #[.int .i64 0, .int .i64 0, .int .i64 0, .int .i64 0] 43)) w.heap.size (.int .i64 0) (.int .i64 0) (.int .i64 0) (.int .i64 0) ∧ C4 (w1.alloc (.cells #[.int .i64 0, .int .i64 0, .int .i64 0, .int .i64 0] 43)) w1.heap.size (.int .i64 0) (.int .i64 0) (.int .i64 0) (.int .i64 0) ∧ S4 (w1.alloc (.cells #[.int .i64 0, .int .i64 0, .int .i64 0, .int .i64 0] 43)) g p0 p1 p2 p3 ∧ Below w.heap.size w (w1.alloc (.cells #[.int .i64 0, .int .i64 0, .int .i64 0, .int .i64 0] 43)) from
    ⟨(HK.out.1.keep hb (Nat.le_refl _)).keep ba (Nat.le_refl _), C4.new w1 _ _ _ _ _, hS.keep ba (Nat.le_refl _), B1.out.trans (ba.mono B1.out.size)⟩)
  have hgq : g ≠ w1.heap.size := Nat.ne_of_lt hS.lt
  have hwq : w.heap.size ≠ w1.heap.size := by have h1 := HK.out.1.lt; have h2 := hb.size; omega
  have hwl : w.heap.size ≤ w1.heap.size := B1.out.size
  obtain ⟨q, hq⟩ : ∃ q, w1.heap.size = q := ⟨_, rfl⟩
  obtain ⟨W0, hW0⟩ : ∃ W0, w1.alloc (.cells #[.int .i64 0, .int .i64 0, .int .i64 0, .int .i64 0] 43) = W0 := ⟨_, rfl⟩
  rw [hW0, hq] at M
  rw [hq] at hgq hwq hwl
  clear hb hown hS ba
  go_wp2_with fail
  (try rw [hW0])
  (try rw [hq])
  clear hW0 hq B1
  have hq2 := Lib.hid (And.intro hgq (And.intro hwq hwl))
  clear hgq hwq hwl
  refine wp_loop_rounds 6 ?_
  have u0 := M.out.2.2.1.c0
  rw [rounds_succ]
  go_wp2_with fail
  refine (d0 _).mono ?_
  rintro e y0 ⟨rfl, hb⟩
  have N0 := Lib.hid (show C4 y0 w.heap.size (.int .i64 0) (.int .i64 0) (.int .i64 0) (.int .i64 0) ∧ C4 y0 q (.int .i64 0) (.int .i64 0) (.int .i64 0) (.int .i64 0) ∧ S4 y0 g p0 p1 p2 p3 ∧ Below w.heap.size w y0 from ⟨M.out.1.keep hb (Nat.le_refl _), M.out.2.1.keep hb (Nat.le_refl _), M.out.2.2.1.keep hb (Nat.le_refl _), M.out.2.2.2.trans (hb.mono M.out.2.2.2.size)⟩)
  clear hb u0
  obtain ⟨k0, k1, k2, k3, f0', f1', f2', f3', hlt⟩ := N0.out.2.1
  go_wp2_with fail
  clear k0 k1 k2 k3 f0' f1' f2' f3' hlt
  have M0 := Lib.hid (show C4 (y0.setCell ⟨q, 0, none⟩ (.int .i64 x0)) w.heap.size (.int .i64 0) (.int .i64 0) (.int .i64 0) (.int .i64 0) ∧ C4 (y0.setCell ⟨q, 0, none⟩ (.int .i64 x0)) q (.int .i64 x0) (.int .i64 0) (.int .i64 0) (.int .i64 0) ∧ S4 (y0.setCell ⟨q, 0, none⟩ (.int .i64 x0)) g p0 p1 p2 p3 ∧ Below w.heap.size w (y0.setCell ⟨q, 0, none⟩ (.int .i64 x0)) from ⟨N0.out.1.other hq2.out.2.1, N0.out.2.1.set0, N0.out.2.2.1.other hq2.out.1, below_set N0.out.2.2.2 hq2.out.2.2⟩)
  obtain ⟨W1, hW⟩ : ∃ W, y0.setCell ⟨q, 0, none⟩ (.int .i64 x0) = W := ⟨_, rfl⟩
  rw [hW] at M0 ⊢
  clear hW
  have u1 := M0.out.2.2.1.c1
  rw [rounds_succ]
  go_wp2_with fail
  refine (d1 _).mono ?_
  rintro e y1 ⟨rfl, hb⟩
  have N1 := Lib.hid (show C4 y1 w.heap.size (.int .i64 0) (.int .i64 0) (.int .i64 0) (.int .i64 0) ∧ C4 y1 q (.int .i64 x0) (.int .i64 0) (.int .i64 0) (.int .i64 0) ∧ S4 y1 g p0 p1 p2 p3 ∧ Below w.heap.size w y1 from ⟨M0.out.1.keep hb (Nat.le_refl _), M0.out.2.1.keep hb (Nat.le_refl _), M0.out.2.2.1.keep hb (Nat.le_refl _), M0.out.2.2.2.trans (hb.mono M0.out.2.2.2.size)⟩)
  clear hb u1
  obtain ⟨k0, k1, k2, k3, f0', f1', f2', f3', hlt⟩ := N1.out.2.1
  go_wp2_with fail
  clear k0 k1 k2 k3 f0' f1' f2' f3' hlt
  have M1 := Lib.hid (show C4 (y1.setCell ⟨q, 1, none⟩ (.int .i64 x1)) w.heap.size (.int .i64 0) (.int .i64 0) (.int .i64 0) (.int .i64 0) ∧ C4 (y1.setCell ⟨q, 1, none⟩ (.int .i64 x1)) q (.int .i64 x0) (.int .i64 x1) (.int .i64 0) (.int .i64 0) ∧ S4 (y1.setCell ⟨q, 1, none⟩ (.int .i64 x1)) g p0 p1 p2 p3 ∧ Below w.heap.size w (y1.setCell ⟨q, 1, none⟩ (.int .i64 x1)) from ⟨N1.out.1.other hq2.out.2.1, N1.out.2.1.set1, N1.out.2.2.1.other hq2.out.1, below_set N1.out.2.2.2 hq2.out.2.2⟩)
  obtain ⟨W2, hW⟩ : ∃ W, y1.setCell ⟨q, 1, none⟩ (.int .i64 x1) = W := ⟨_, rfl⟩
  rw [hW] at M1 ⊢
  clear hW
  have u2 := M1.out.2.2.1.c2
  rw [rounds_succ]
  go_wp2_with fail
  refine (d2 _ (HE.out.below M1.out.2.2.2)).mono ?_
  rintro e y2 ⟨xx, T, N, rfl, hb⟩
  have N2 := Lib.hid (show C4 y2 w.heap.size (.int .i64 0) (.int .i64 0) (.int .i64 0) (.int .i64 0) ∧ C4 y2 q (.int .i64 x0) (.int .i64 x1) (.int .i64 0) (.int .i64 0) ∧ S4 y2 g p0 p1 p2 p3 ∧ Below w.heap.size w y2 from ⟨M1.out.1.keep hb (Nat.le_refl _), M1.out.2.1.keep hb (Nat.le_refl _), M1.out.2.2.1.keep hb (Nat.le_refl _), M1.out.2.2.2.trans (hb.mono M1.out.2.2.2.size)⟩)
  clear hb u2
  obtain ⟨k0, k1, k2, k3, f0', f1', f2', f3', hlt⟩ := N2.out.1
  go_wp2_with fail
  refine bodyPost_ret (v := .tuple #[.agg #[.int .i64 0, .int .i64 0, .int .i64 0, .int .i64 0], .bool false]) ?_ rfl ⟨rfl, ?_⟩
  · simp [results, Tryd.results19, go_sem, k0, k1, k2, k3]
  · have hbw := N2.out.2.2.2
    go_grown
set_option maxRecDepth 20000 in
set_option maxHeartbeats 3200000 in
theorem read_no3 (s p0 p1 p2 p3 : ByteArray) (hs : s.size ≤ 1048576) (hok : okF s = true) (hf : resF s = [p0, p1, p2, p3]) (h0 : okA p0 = true) (h1 : okA p1 = true) (h2 : okA p2 = true) (h3 : okA p3 = false) (w : World) (hE : Env w) : Calls Tryd.prog 19 #[.string s] w fun e w' => e = .returned (.tuple #[recV 0 0 0 0, .bool false]) ∧ Below w.heap.size w w' := by
  have c1 := fun W hW => Fld.impl_any s hs W hW
  unfold Spl at c1
  have z : ∀ i (h : i < (resF s).length), ((resF s)[i]).size ≤ 1048576 := fun i h => Nat.le_trans (rs_size h) hs
  have z0 : p0.size ≤ 1048576 := by have := z 0 (by rw [hf]; show 0 < 4; omega); simpa [hf] using this
  have z1 : p1.size ≤ 1048576 := by have := z 1 (by rw [hf]; show 1 < 4; omega); simpa [hf] using this
  have z2 : p2.size ≤ 1048576 := by have := z 2 (by rw [hf]; show 2 < 4; omega); simpa [hf] using this
  have z3 : p3.size ≤ 1048576 := by have := z 3 (by rw [hf]; show 3 < 4; omega); simpa [hf] using this
  rw [hok, hf] at c1
  have d0 := fun W => atoi_ok p0 z0 h0 W
  have d1 := fun W => atoi_ok p1 z1 h1 W
  have d2 := fun W => atoi_ok p2 z2 h2 W
  have d3 := fun W hW => atoi_no p3 z3 h3 W hW
  obtain ⟨x0, hx0⟩ : ∃ x, av p0 = x := ⟨_, rfl⟩
  rw [hx0] at d0
  obtain ⟨x1, hx1⟩ : ∃ x, av p1 = x := ⟨_, rfl⟩
  rw [hx1] at d1
  obtain ⟨x2, hx2⟩ : ∃ x, av p2 = x := ⟨_, rfl⟩
  rw [hx2] at d2
  unfold recV
  have HE := Lib.hid hE
  have HK := Lib.hid (show C4 (w.alloc (.cells #[.int .i64 0, .int .i64 0, .int .i64 0, .int .i64 0] 25)) w.heap.size (.int .i64 0) (.int .i64 0) (.int .i64 0) (.int .i64 0) ∧ Below w.heap.size w (w.alloc (.cells #[.int .i64 0, .int .i64 0, .int .i64 0, .int .i64 0] 25)) from ⟨C4.new w _ _ _ _ _, by go_grown⟩)
  clear hok hf hs z z0 z1 z2 z3 hE h0 h1 h2 h3 hx0 hx1 hx2
  go_enter Tryd.func19, Tryd.ntmps19
  go_wp2_with fail
  refine (c1 _ (HE.out.below HK.out.2).asc).mono ?_
  rintro e w1 ⟨v, rfl, hown, hb⟩
  obtain ⟨g, cap, rfl, hS⟩ := own_four hown
  have B1 := Lib.hid (HK.out.2.trans (hb.mono HK.out.2.size))
  have ba := below_new1 w1 (.cells #[.int .i64 0, .int .i64 0, .int .i64 0, .int .i64 0] 43)
  have M := Lib.hid (show C4 (w1.alloc (.cells #[.int .i64 0, .int .i64 0, .int .i64 0, .int .i64 0] 43)) w.heap.size (.int .i64 0) (.int .i64 0) (.int .i64 0) (.int .i64 0) ∧ C4 (w1.alloc (.cells #[.int .i64 0, .int .i64 0, .int .i64 0, .int .i64 0] 43)) w1.heap.size (.int .i64 0) (.int .i64 0) (.int .i64 0) (.int .i64 0) ∧ S4 (w1.alloc (.cells #[.int .i64 0, .int .i64 0, .int .i64 0, .int .i64 0] 43)) g p0 p1 p2 p3 ∧ Below w.heap.size w (w1.alloc (.cells #[.int .i64 0, .int .i64 0, .int .i64 0, .int .i64 0] 43)) from
    ⟨(HK.out.1.keep hb (Nat.le_refl _)).keep ba (Nat.le_refl _), C4.new w1 _ _ _ _ _, hS.keep ba (Nat.le_refl _), B1.out.trans (ba.mono B1.out.size)⟩)
  have hgq : g ≠ w1.heap.size := Nat.ne_of_lt hS.lt
  have hwq : w.heap.size ≠ w1.heap.size := by have h1 := HK.out.1.lt; have h2 := hb.size; omega
  have hwl : w.heap.size ≤ w1.heap.size := B1.out.size
  obtain ⟨q, hq⟩ : ∃ q, w1.heap.size = q := ⟨_, rfl⟩
  obtain ⟨W0, hW0⟩ : ∃ W0, w1.alloc (.cells #[.int .i64 0, .int .i64 0, .int .i64 0, .int .i64 0] 43) = W0 := ⟨_, rfl⟩
  rw [hW0, hq] at M
  rw [hq] at hgq hwq hwl
  clear hb hown hS ba
  go_wp2_with fail
  (try rw [hW0])
  (try rw [hq])
  clear hW0 hq B1
  have hq2 := Lib.hid (And.intro hgq (And.intro hwq hwl))
  clear hgq hwq hwl
  refine wp_loop_rounds 6 ?_
  have u0 := M.out.2.2.1.c0
  rw [rounds_succ]
  go_wp2_with fail
  refine (d0 _).mono ?_
  rintro e y0 ⟨rfl, hb⟩
  have N0 := Lib.hid (show C4 y0 w.heap.size (.int .i64 0) (.int .i64 0) (.int .i64 0) (.int .i64 0) ∧ C4 y0 q (.int .i64 0) (.int .i64 0) (.int .i64 0) (.int .i64 0) ∧ S4 y0 g p0 p1 p2 p3 ∧ Below w.heap.size w y0 from ⟨M.out.1.keep hb (Nat.le_refl _), M.out.2.1.keep hb (Nat.le_refl _), M.out.2.2.1.keep hb (Nat.le_refl _), M.out.2.2.2.trans (hb.mono M.out.2.2.2.size)⟩)
  clear hb u0
  obtain ⟨k0, k1, k2, k3, f0', f1', f2', f3', hlt⟩ := N0.out.2.1
  go_wp2_with fail
  clear k0 k1 k2 k3 f0' f1' f2' f3' hlt
  have M0 := Lib.hid (show C4 (y0.setCell ⟨q, 0, none⟩ (.int .i64 x0)) w.heap.size (.int .i64 0) (.int .i64 0) (.int .i64 0) (.int .i64 0) ∧ C4 (y0.setCell ⟨q, 0, none⟩ (.int .i64 x0)) q (.int .i64 x0) (.int .i64 0) (.int .i64 0) (.int .i64 0) ∧ S4 (y0.setCell ⟨q, 0, none⟩ (.int .i64 x0)) g p0 p1 p2 p3 ∧ Below w.heap.size w (y0.setCell ⟨q, 0, none⟩ (.int .i64 x0)) from ⟨N0.out.1.other hq2.out.2.1, N0.out.2.1.set0, N0.out.2.2.1.other hq2.out.1, below_set N0.out.2.2.2 hq2.out.2.2⟩)
  obtain ⟨W1, hW⟩ : ∃ W, y0.setCell ⟨q, 0, none⟩ (.int .i64 x0) = W := ⟨_, rfl⟩
  rw [hW] at M0 ⊢
  clear hW
  have u1 := M0.out.2.2.1.c1
  rw [rounds_succ]
  go_wp2_with fail
  refine (d1 _).mono ?_
  rintro e y1 ⟨rfl, hb⟩
  have N1 := Lib.hid (show C4 y1 w.heap.size (.int .i64 0) (.int .i64 0) (.int .i64 0) (.int .i64 0) ∧ C4 y1 q (.int .i64 x0) (.int .i64 0) (.int .i64 0) (.int .i64 0) ∧ S4 y1 g p0 p1 p2 p3 ∧ Below w.heap.size w y1 from ⟨M0.out.1.keep hb (Nat.le_refl _), M0.out.2.1.keep hb (Nat.le_refl _), M0.out.2.2.1.keep hb (Nat.le_refl _), M0.out.2.2.2.trans (hb.mono M0.out.2.2.2.size)⟩)
  clear hb u1
  obtain ⟨k0, k1, k2, k3, f0', f1', f2', f3', hlt⟩ := N1.out.2.1
  go_wp2_with fail
  clear k0 k1 k2 k3 f0' f1' f2' f3' hlt
  have M1 := Lib.hid (show C4 (y1.setCell ⟨q, 1, none⟩ (.int .i64 x1)) w.heap.size (.int .i64 0) (.int .i64 0) (.int .i64 0) (.int .i64 0) ∧ C4 (y1.setCell ⟨q, 1, none⟩ (.int .i64 x1)) q (.int .i64 x0) (.int .i64 x1) (.int .i64 0) (.int .i64 0) ∧ S4 (y1.setCell ⟨q, 1, none⟩ (.int .i64 x1)) g p0 p1 p2 p3 ∧ Below w.heap.size w (y1.setCell ⟨q, 1, none⟩ (.int .i64 x1)) from ⟨N1.out.1.other hq2.out.2.1, N1.out.2.1.set1, N1.out.2.2.1.other hq2.out.1, below_set N1.out.2.2.2 hq2.out.2.2⟩)
  obtain ⟨W2, hW⟩ : ∃ W, y1.setCell ⟨q, 1, none⟩ (.int .i64 x1) = W := ⟨_, rfl⟩
  rw [hW] at M1 ⊢
  clear hW
  have u2 := M1.out.2.2.1.c2
  rw [rounds_succ]
  go_wp2_with fail
  refine (d2 _).mono ?_
  rintro e y2 ⟨rfl, hb⟩
  have N2 := Lib.hid (show C4 y2 w.heap.size (.int .i64 0) (.int .i64 0) (.int .i64 0) (.int .i64 0) ∧ C4 y2 q (.int .i64 x0) (.int .i64 x1) (.int .i64 0) (.int .i64 0) ∧ S4 y2 g p0 p1 p2 p3 ∧ Below w.heap.size w y2 from ⟨M1.out.1.keep hb (Nat.le_refl _), M1.out.2.1.keep hb (Nat.le_refl _), M1.out.2.2.1.keep hb (Nat.le_refl _), M1.out.2.2.2.trans (hb.mono M1.out.2.2.2.size)⟩)
  clear hb u2
  obtain ⟨k0, k1, k2, k3, f0', f1', f2', f3', hlt⟩ := N2.out.2.1
  go_wp2_with fail
  clear k0 k1 k2 k3 f0' f1' f2' f3' hlt
  have M2 := Lib.hid (show C4 (y2.setCell ⟨q, 2, none⟩ (.int .i64 x2)) w.heap.size (.int .i64 0) (.int .i64 0) (.int .i64 0) (.int .i64 0) ∧ C4 (y2.setCell ⟨q, 2, none⟩ (.int .i64 x2)) q (.int .i64 x0) (.int .i64 x1) (.int .i64 x2) (.int .i64 0) ∧ S4 (y2.setCell ⟨q, 2, none⟩ (.int .i64 x2)) g p0 p1 p2 p3 ∧ Below w.heap.size w (y2.setCell ⟨q, 2, none⟩ (.int .i64 x2)) from ⟨N2.out.1.other hq2.out.2.1, N2.out.2.1.set2, N2.out.2.2.1.other hq2.out.1, below_set N2.out.2.2.2 hq2.out.2.2⟩)
  obtain ⟨W3, hW⟩ : ∃ W, y2.setCell ⟨q, 2, none⟩ (.int .i64 x2) = W := ⟨_, rfl⟩
  rw [hW] at M2 ⊢
  clear hW
  have u3 := M2.out.2.2.1.c3
  rw [rounds_succ]
  go_wp2_with fail
  refine (d3 _ (HE.out.below M2.out.2.2.2)).mono ?_
  rintro e y3 ⟨xx, T, N, rfl, hb⟩
  have N3 := Lib.hid (show C4 y3 w.heap.size (.int .i64 0) (.int .i64 0) (.int .i64 0) (.int .i64 0) ∧ C4 y3 q (.int .i64 x0) (.int .i64 x1) (.int .i64 x2) (.int .i64 0) ∧ S4 y3 g p0 p1 p2 p3 ∧ Below w.heap.size w y3 from ⟨M2.out.1.keep hb (Nat.le_refl _), M2.out.2.1.keep hb (Nat.le_refl _), M2.out.2.2.1.keep hb (Nat.le_refl _), M2.out.2.2.2.trans (hb.mono M2.out.2.2.2.size)⟩)
  clear hb u3
  obtain ⟨k0, k1, k2, k3, f0', f1', f2', f3', hlt⟩ := N3.out.1
  go_wp2_with fail
  refine bodyPost_ret (v := .tuple #[.agg #[.int .i64 0, .int .i64 0, .int .i64 0, .int .i64 0], .bool false]) ?_ rfl ⟨rfl, ?_⟩
  · simp [results, Tryd.results19, go_sem, k0, k1, k2, k3]
  · have hbw := N3.out.2.2.2
    go_grown
set_option maxRecDepth 20000 in
set_option maxHeartbeats 3200000 in
theorem read_few (s : ByteArray) (hs : s.size ≤ 1048576) (hok : ¬ (okF s = true ∧ (resF s).length = 4)) (w : World) (hE : Env w) : Calls Tryd.prog 19 #[.string s] w fun e w' => e = .returned (.tuple #[recV 0 0 0 0, .bool false]) ∧ Below w.heap.size w w' := by
  have c1 := fun W hW => Fld.impl_any s hs W hW
  unfold Spl at c1
  unfold recV
  have HE := Lib.hid hE
  have HK := Lib.hid (show C4 (w.alloc (.cells #[.int .i64 0, .int .i64 0, .int .i64 0, .int .i64 0] 25)) w.heap.size (.int .i64 0) (.int .i64 0) (.int .i64 0) (.int .i64 0) ∧ Below w.heap.size w (w.alloc (.cells #[.int .i64 0, .int .i64 0, .int .i64 0, .int .i64 0] 25)) from ⟨C4.new w _ _ _ _ _, by go_grown⟩)
  obtain ⟨R, hR⟩ : ∃ R, resF s = R := ⟨_, rfl⟩
  obtain ⟨ok, hokk⟩ : ∃ ok, okF s = ok := ⟨_, rfl⟩
  rw [hR, hokk] at hok c1
  clear hR hokk hE
  go_enter Tryd.func19, Tryd.ntmps19
  go_wp2_with fail
  refine (c1 _ (HE.out.below HK.out.2).asc).mono ?_
  rintro e w1 ⟨v, rfl, hown, hb⟩
  have K1 := Lib.hid (HK.out.1.keep hb (Nat.le_refl _))
  have B1 := Lib.hid (HK.out.2.trans (hb.mono HK.out.2.size))
  clear hb
  obtain ⟨k0, k1, k2, k3, f0', f1', f2', f3', hlt⟩ := K1.out
  obtain ⟨n, g, cap, rfl, hn⟩ : ∃ n a cap, v = .slice a n cap ∧ n = R.length := by
    rcases own_cases hown with ⟨rfl, rfl⟩ | ⟨g, cap, rfl, _⟩
    · exact ⟨0, _, _, rfl, rfl⟩
    · exact ⟨_, _, _, rfl, rfl⟩
  rw [← hn] at hok
  clear hown hn
  cases ok
  · go_wp2_with fail
    refine bodyPost_ret (v := .tuple #[.agg #[.int .i64 0, .int .i64 0, .int .i64 0, .int .i64 0], .bool false]) ?_ rfl ⟨rfl, ?_⟩
    · simp [results, Tryd.results19, go_sem, k0, k1, k2, k3, hlt, Nat.ne_of_lt hlt]
    · have hbw := B1.out
      go_grown
  · have hn4 : ¬ n = 4 := fun e => hok ⟨rfl, e⟩
    have hn4i : ¬ (n : Int) = 4 := by omega
    have hn4b : ((n : Int) == 4) = false := beq_eq_false_iff_ne.2 hn4i
    have hn4c : ((n : Int) != 4) = true := by rw [bne, hn4b]; rfl
    clear hok
    go_wp2_with fail
    refine bodyPost_ret (v := .tuple #[.agg #[.int .i64 0, .int .i64 0, .int .i64 0, .int .i64 0], .bool false]) ?_ rfl ⟨rfl, ?_⟩
    · simp [results, Tryd.results19, go_sem, k0, k1, k2, k3, hlt, Nat.ne_of_lt hlt]
    · have hbw := B1.out
      go_grown
end Go.Proofs.YtjkhbjdhfklnaabDoor.Rcd
