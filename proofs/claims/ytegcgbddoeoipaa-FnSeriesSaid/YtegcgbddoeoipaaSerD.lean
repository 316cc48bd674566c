/- The contract of the model's DrawFirstUnequal. -/
import Derived.Test.YtegcgbddoeoipaaSer
import Derived.Deep.RegionWith
namespace Go.Proofs.Ytegcgbddoeoipaa.Drw
open Go.ChangeShapes Go.WideShapes Go.ChangeAt Go.RowKit Go.Proofs.Ytegcgbddoeoipaa Go.Proofs.Ytegcgbddoeoipaa.Flt Go.Proofs.Ytegcgbddoeoipaa.Mth Go.Proofs.Ytegcgbddoeoipaa.Cpx
set_option linter.unusedVariables false
def CellsC (w : World) (g k : Nat) (xs : List (Nat × Nat)) : Prop := ∀ i, i < k → w.cell? ⟨g, i, none⟩ = (cV xs)[i]?
theorem CellsC.only {w w' : World} {g k B : Nat} {xs : List (Nat × Nat)} (h : CellsC w g k xs) (hg : g < w.heap.size) (hn : g ≠ B) (ho : Only B w w') : CellsC w' g k xs := fun i hi => by
  rw [ho.cell (by exact hg) (by exact hn)]; exact h i hi
theorem owns_cap {w : World} {base e size k cp g : Nat} {xs : List Value} (h : w.ownsRow base e size (.slice (some ⟨g, 0, none⟩) k cp) k xs) : k ≤ cp := by
  rcases h.2 with ⟨h', _⟩ | ⟨g', cap', cur, h', _, hg, h3, h4⟩
  · simp at h'
  · simp only [Value.slice.injEq] at h'
    obtain ⟨_, _, rfl⟩ := h'
    exact h3
def DrawsOut (w : World) (e : Ending) (w' : World) : Prop :=
  ∃ (k g cp : Nat) (xs : List (Nat × Nat)) (v : Value), (xs.length = k ∧ k ≤ 5 ∧ wfC xs) ∧ e = .returned (.tuple #[.slice (some ⟨g, 0, none⟩) k cp, v]) ∧ CellsC w' g k xs ∧ g < w'.heap.size ∧ k ≤ cp ∧ Below w.heap.size w w'
set_option maxHeartbeats 4000000 in
theorem draw_unequal (a : Option Addr) (len cap : Nat) (zs : List Int) (w : World) (hr : IsRow .u8 w a len cap zs) :
    Calls Try.prog 28 #[.slice a len cap] w (DrawsOut w) := by
  go_enter Try.func28, Try.ntmps28
  go_wp2_with fail
  refine (new_any a len cap zs _ hr).mono ?_
  rintro e w1 ⟨rfl, hc, hb⟩
  have Hb := Lib.hid hb
  have hB := hb.size
  clear hb hr
  go_wp2_with fail
  refine (series_any _ _ _ hc).mono ?_
  rintro e w2 ⟨k, g, cp, xs, hxs, rfl, hown, hc2, ho2⟩
  have hBl := hc.lt
  have hcell : CellsC w2 g k xs := fun i hi => hown.cellAt i (by omega)
  obtain ⟨hg1, hg2⟩ := hown.lt g rfl
  have hcp := owns_cap hown
  have H2 := Lib.hid (And.intro hcell (And.intro hc2 (And.intro hg2 (Hb.out.trans (ho2.below (Nat.le_refl _) Hb.out.size)))))
  have Hx := Lib.hid (And.intro hxs hcp)
  have Ho := Lib.hid hown
  clear hcell hc2 ho2 hxs hown hcp
  go_wp2_with fail
  refine (once_any' _ _ 3 _ H2.out.2.1 (by omega)).mono ?_
  rintro e w3 ⟨bb, rfl, hc3, ho3⟩
  have H3 := Lib.hid (And.intro (H2.out.1.only hg2 (by omega) ho3) (And.intro hc3 (And.intro (Nat.lt_of_lt_of_le hg2 ho3.size) (H2.out.2.2.2.trans (ho3.below (Nat.le_refl _) (by omega))))))
  have Fin := Lib.hid (show ∀ (v : Value) (wf : World), Only w.heap.size w3 wf → DrawsOut w (.returned (.tuple #[.slice (some ⟨g, 0, none⟩) k cp, v])) wf from fun v wf ho =>
    ⟨k, g, cp, xs, v, Hx.out.1, rfl, H3.out.1.only H3.out.2.2.1 (by omega) ho, Nat.lt_of_lt_of_le H3.out.2.2.1 ho.size, Hx.out.2, H3.out.2.2.2.trans (ho.below (Nat.le_refl _) H3.out.2.2.2.size)⟩)
  have hW3 := H3.out.2.2.2.size
  have hB3 : w.heap.size < w3.heap.size := by have := ho3.size; omega
  clear hc3 ho3 H2
  obtain ⟨i0, hi, hz0, hz1, hz2⟩ := info_parts infoC
  have Hi := Lib.hid (And.intro hi (And.intro hz0 (And.intro hz1 hz2)))
  clear hi hz0 hz1 hz2
  cases bb
  · by_cases hk0 : k = 0
    · subst hk0
      have HT := Lib.hid (show (w3.alloc (.cells #[] 26)).ownsRow w3.heap.size 26 1 (.slice (some ⟨w3.heap.size, 0, none⟩) 0 0) 0 [] ∧ Cur w.heap.size (w3.alloc (.cells #[] 26)) w.heap.size ∧ Only w.heap.size w3 (w3.alloc (.cells #[] 26)) from
        And.intro (World.ownsRow_lit (base := w3.heap.size) (e := 26) (size := 1) w3 #[] 0 (Nat.le_refl _) (Nat.zero_le _) rfl) (And.intro (H3.out.2.1.alloc _) ((Only.refl _ w3).alloc _)))
      go_wp2_with fail
      refine (once_any' _ _ 4 _ HT.out.2.1 (by omega)).mono ?_
      rintro e w6 ⟨bb, rfl, hc6, ho6⟩
      have H6 := Lib.hid (And.intro (owns_only HT.out.1 ho6 (by omega)) (And.intro hc6 (HT.out.2.2.trans ho6)))
      clear hc6 ho6 HT
      cases bb
      · go_wp2_with fail
        go_ret2
        exact Fin.out _ _ H6.out.2.2
      · have hn63 : 0 + 1 ≤ maxLen := by unfold maxLen; omega
        have hnby : (0 + 1) * 8 ≤ 140737488355328 := by omega
        have hbs : w3.heap.size ≤ (w6.alloc (.cells #[.complex .f32 1065353216 0] 26)).heap.size := by
          have := H6.out.2.2.size
          have e : (w6.alloc (.cells #[.complex .f32 1065353216 0] 26)).heap.size = w6.heap.size + 1 := by
            show (w6.heap.push _).size = _
            simp
          rw [e]; omega
        have Hown := Lib.hid (show (w6.alloc (.cells #[.complex .f32 1065353216 0] 26)).ownsRow w3.heap.size 26 1 _ _ _ from H6.out.1.alloc (.cells #[.complex .f32 1065353216 0] 26))
        have Hnews := Lib.hid (one_cell w6 (.complex .f32 1065353216 0) 26)
        have Hone := Lib.hid (one_oneC 1065353216 0)
        go_wp2_with (at_builtin; refine wpList_append_lies _ rfl (.tmp 36) (.tmp 37) 48 rfl w3.heap.size 26 i0 (.complex .f32 0 0) 1 8 Try.underlying48 Hi.out.1 Hi.out.2.1 Hi.out.2.2.1 Hi.out.2.2.2 rfl (by decide) (.slice (some ⟨w3.heap.size, 0, none⟩) 0 0) 0 [] rfl Hown.out ⟨w6.heap.size, 0, none⟩ 1 1 [.complex .f32 1065353216 0] rfl rfl Hnews.out Hone.out (by omega) hn63 hnby hbs _ rfl ?_; intro g9 cap9 w9 hown1 hgrow1 hat1 hlt1)
        have H9 := Lib.hid (only_grown (H6.out.2.2.alloc _) hgrow1 (fun j hj => (Hown.out.lt j hj).1))
        clear hown1 hgrow1 hat1 hlt1
        go_wp2_with fail
        go_ret2
        exact Fin.out _ _ H9.out
    · have HL := Lib.hid (show (w3.alloc (.cells #[] 26)).ownsRow w3.heap.size 26 1 (.slice (some ⟨w3.heap.size, 0, none⟩) 0 0) 0 [] from
        World.ownsRow_lit (base := w3.heap.size) (e := 26) (size := 1) w3 #[] 0 (Nat.le_refl _) (Nat.zero_le _) rfl)
      have hk5 := Hx.out.1.2.1
      have hlen := Hx.out.1.1
      have hn63 : 0 + k ≤ maxLen := by unfold maxLen; omega
      have hnby : (0 + k) * 8 ≤ 140737488355328 := by omega
      have hbs : w3.heap.size ≤ (w3.alloc (.cells #[] 26)).heap.size := by simp
      have Hnews := Lib.hid (show ∀ j u, (cV xs)[j]? = some u → (w3.alloc (.cells #[] 26)).cell? ((⟨g, 0, none⟩ : Addr).add j) = some u from by
        intro j u hj
        have hjl : j < k := by
          rcases Nat.lt_or_ge j k with h | h
          · exact h
          · rw [List.getElem?_eq_none (by unfold cV; rw [List.length_map]; omega)] at hj; cases hj
        have e : (⟨g, 0, none⟩ : Addr).add j = ⟨g, j, none⟩ := by unfold Addr.add; split <;> simp_all
        rw [e, World.cell?_alloc_lt _ _ _ (by exact H3.out.2.2.1), H3.out.1 j hjl]
        exact hj)
      have Hone := Lib.hid (show ∀ u ∈ cV xs, u.oneCell' = true from by
        intro u hu
        unfold cV at hu
        obtain ⟨p, _, rfl⟩ := List.mem_map.1 hu
        rfl)
      have hlc : (cV xs).length = k * 1 := by unfold cV; rw [List.length_map, hlen, Nat.mul_one]
      have hkp : 0 < k := by omega
      go_wp2_with (at_builtin; refine wpList_append_lies _ rfl (.tmp 16) (.tmp 17) 48 rfl w3.heap.size 26 i0 (.complex .f32 0 0) 1 8 Try.underlying48 Hi.out.1 Hi.out.2.1 Hi.out.2.2.1 Hi.out.2.2.2 rfl (by decide) (.slice (some ⟨w3.heap.size, 0, none⟩) 0 0) 0 [] rfl HL.out ⟨g, 0, none⟩ k cp (cV xs) rfl hlc Hnews.out Hone.out hkp hn63 hnby hbs _ rfl ?_; intro g4 cap4 w4 hown4 hgrow4 hat4 hlt4)
      rw [Nat.zero_add] at hown4
      have H4 := Lib.hid (And.intro hown4 (And.intro (cur_grown (H3.out.2.1.alloc _) hgrow4 (fun j hj => by have := (HL.out.lt j hj).1; omega)) (only_grown ((Only.refl w.heap.size w3).alloc _) hgrow4 (fun j hj => (HL.out.lt j hj).1))))
      clear hown4 hgrow4 hat4 hlt4
      have hkp' : (0 : Int) < (k : Int) := by omega
      go_wp2_with fail
      refine (once_any' _ _ 2 _ H4.out.2.1 (by omega)).mono ?_
      rintro e w5 ⟨b2, rfl, hc5, ho5⟩
      have H5 := Lib.hid (And.intro (owns_only H4.out.1 ho5 (by omega)) (And.intro hc5 (H4.out.2.2.trans ho5)))
      clear hc5 ho5 H4
      cases b2
      · have HT := H5
        clear H5
        go_wp2_with fail
        refine (once_any' _ _ 4 _ HT.out.2.1 (by omega)).mono ?_
        rintro e w6 ⟨bb, rfl, hc6, ho6⟩
        have H6 := Lib.hid (And.intro (owns_only HT.out.1 ho6 (by omega)) (And.intro hc6 (HT.out.2.2.trans ho6)))
        clear hc6 ho6 HT
        cases bb
        · go_wp2_with fail
          go_ret2
          exact Fin.out _ _ H6.out.2.2
        · have hn64 : k + 1 ≤ maxLen := by unfold maxLen; omega
          have hnb2 : (k + 1) * 8 ≤ 140737488355328 := by omega
          have hbs2 : w3.heap.size ≤ (w6.alloc (.cells #[.complex .f32 1065353216 0] 26)).heap.size := by
            have := H6.out.2.2.size
            have e : (w6.alloc (.cells #[.complex .f32 1065353216 0] 26)).heap.size = w6.heap.size + 1 := by
              show (w6.heap.push _).size = _
              simp
            rw [e]; omega
          have Hown := Lib.hid (show (w6.alloc (.cells #[.complex .f32 1065353216 0] 26)).ownsRow w3.heap.size 26 1 _ _ _ from H6.out.1.alloc (.cells #[.complex .f32 1065353216 0] 26))
          have Hnews2 := Lib.hid (one_cell w6 (.complex .f32 1065353216 0) 26)
          have Hone2 := Lib.hid (one_oneC 1065353216 0)
          go_wp2_with (at_builtin; refine wpList_append_lies _ rfl (.tmp 36) (.tmp 37) 48 rfl w3.heap.size 26 i0 (.complex .f32 0 0) 1 8 Try.underlying48 Hi.out.1 Hi.out.2.1 Hi.out.2.2.1 Hi.out.2.2.2 rfl (by decide) (.slice (some ⟨g4, 0, none⟩) k cap4) k ([] ++ cV xs) rfl Hown.out ⟨w6.heap.size, 0, none⟩ 1 1 [.complex .f32 1065353216 0] rfl rfl Hnews2.out Hone2.out (by omega) hn64 hnb2 hbs2 _ rfl ?_; intro g9 cap9 w9 hown1 hgrow1 hat1 hlt1)
          have H9 := Lib.hid (only_grown (H6.out.2.2.alloc _) hgrow1 (fun j hj => (Hown.out.lt j hj).1))
          clear hown1 hgrow1 hat1 hlt1
          go_wp2_with fail
          go_ret2
          exact Fin.out _ _ H9.out
      · go_wp2_with fail
        refine (below_any _ _ _ _ H5.out.2.1 (by omega)).mono ?_
        rintro e w7 ⟨r, r0, r1, rfl, hc7, ho7⟩
        have hrk := r1 (by omega)
        obtain ⟨r, rfl⟩ : ∃ r' : Nat, r = (r' : Int) := ⟨r.toNat, by omega⟩
        have hrk' : r < k := by omega
        have H7 := Lib.hid (And.intro (owns_only H5.out.1 ho7 (by omega)) (And.intro hc7 (H5.out.2.2.trans ho7)))
        clear hc7 ho7 H5 r1
        go_wp2_with fail
        refine (narrow_any _ _ _ H7.out.2.1).mono ?_
        rintro e w8 ⟨x, y, wx, wy, rfl, hc8, ho8⟩
        have H8 := Lib.hid (And.intro (owns_only H7.out.1 ho8 (by omega)) (And.intro hc8 (H7.out.2.2.trans ho8)))
        clear hc8 ho8 H7 wx wy
        have c8 : w8.cell? ⟨g4, r, none⟩ = some (([] ++ cV xs)[r]'(by rw [List.nil_append]; omega)) := by
          rw [H8.out.1.cellAt r (by omega)]
          exact List.getElem?_eq_getElem _
        have f8 := H8.out.1.frozenAt r
        obtain ⟨hst, hgr⟩ := H8.out.1.stored r (.complex .f32 x y)
        have HT := Lib.hid (And.intro hst (And.intro (cur_grown H8.out.2.1 hgr (fun j hj => by have := (H8.out.1.lt j hj).1; omega)) (only_grown H8.out.2.2 hgr (fun j hj => (H8.out.1.lt j hj).1))))
        clear hst hgr
        go_wp2_with fail
        refine (once_any' _ _ 4 _ HT.out.2.1 (by omega)).mono ?_
        rintro e w6 ⟨bb, rfl, hc6, ho6⟩
        have H6 := Lib.hid (And.intro (owns_only HT.out.1 ho6 (by omega)) (And.intro hc6 (HT.out.2.2.trans ho6)))
        clear hc6 ho6 HT
        cases bb
        · go_wp2_with fail
          go_ret2
          exact Fin.out _ _ H6.out.2.2
        · have hn64 : k + 1 ≤ maxLen := by unfold maxLen; omega
          have hnb2 : (k + 1) * 8 ≤ 140737488355328 := by omega
          have hbs2 : w3.heap.size ≤ (w6.alloc (.cells #[.complex .f32 1065353216 0] 26)).heap.size := by
            have := H6.out.2.2.size
            have e : (w6.alloc (.cells #[.complex .f32 1065353216 0] 26)).heap.size = w6.heap.size + 1 := by
              show (w6.heap.push _).size = _
              simp
            rw [e]; omega
          have Hown := Lib.hid (show (w6.alloc (.cells #[.complex .f32 1065353216 0] 26)).ownsRow w3.heap.size 26 1 _ _ _ from H6.out.1.alloc (.cells #[.complex .f32 1065353216 0] 26))
          have Hnews2 := Lib.hid (one_cell w6 (.complex .f32 1065353216 0) 26)
          have Hone2 := Lib.hid (one_oneC 1065353216 0)
          go_wp2_with (at_builtin; refine wpList_append_lies _ rfl (.tmp 36) (.tmp 37) 48 rfl w3.heap.size 26 i0 (.complex .f32 0 0) 1 8 Try.underlying48 Hi.out.1 Hi.out.2.1 Hi.out.2.2.1 Hi.out.2.2.2 rfl (by decide) (.slice (some ⟨g4, 0, none⟩) k cap4) k (([] ++ cV xs).set r (.complex .f32 x y)) rfl Hown.out ⟨w6.heap.size, 0, none⟩ 1 1 [.complex .f32 1065353216 0] rfl rfl Hnews2.out Hone2.out (by omega) hn64 hnb2 hbs2 _ rfl ?_; intro g9 cap9 w9 hown1 hgrow1 hat1 hlt1)
          have H9 := Lib.hid (only_grown (H6.out.2.2.alloc _) hgrow1 (fun j hj => (Hown.out.lt j hj).1))
          clear hown1 hgrow1 hat1 hlt1
          go_wp2_with fail
          go_ret2
          exact Fin.out _ _ H9.out
  · go_wp2_with fail
    refine (series_any _ _ _ H3.out.2.1).mono ?_
    rintro e w4 ⟨k', g', cp', xs', _, rfl, _, hc4, ho4⟩
    have H4 := Lib.hid (And.intro (H3.out.1.only H3.out.2.2.1 (by omega) ho4) (And.intro (Nat.lt_of_lt_of_le H3.out.2.2.1 ho4.size) (H3.out.2.2.2.trans (ho4.below (Nat.le_refl _) H3.out.2.2.2.size))))
    clear hc4 ho4
    go_wp2_with fail
    go_ret2
    exact ⟨k, g, cp, xs, _, Hx.out.1, rfl, H4.out.1, H4.out.2.1, Hx.out.2, H4.out.2.2⟩
end Go.Proofs.Ytegcgbddoeoipaa.Drw
