/- The model's draw of an expression: it is valid. -/
import Derived.Test.YtlngplohnknhjaaGreatDoorKExpV
import Derived.Test.YtlngplohnknhjaaGreatDoorKExpN
namespace Go.Proofs.YtlngplohnknhjaaGreatDoor.Ex
open Go.ChangeShapes Go.WideShapes Go.ChangeAt Go.RowKit Go.Proofs.YtlngplohnknhjaaGreatDoor Go.Proofs.YtlngplohnknhjaaGreatDoor.Flt Go.Proofs.YtlngplohnknhjaaGreatDoor.Mth Go.Proofs.YtlngplohnknhjaaGreatDoor.Drw
set_option linter.unusedVariables false
/-- an expression of at most so many nodes has been drawn -/
def MakeOut (m base B : Nat) (w : World) (e : Ending) (w' : World) : Prop :=
  ∃ (g cp : Nat) (t : Tr), (t.ok ∧ (pf t).length ≤ m) ∧ e = .returned (.slice (some ⟨g, 0, none⟩) (pf t).length cp) ∧ OwnN w.heap.size w' (.slice (some ⟨g, 0, none⟩) (pf t).length cp) (pf t).length (pf t) ∧ Cur base w' B ∧ Only B w w'
theorem leafOut {m base B : Nat} {w w1 : World} (n : Nd) (hm : 1 ≤ m) (hn : n.ok ∧ n.k ≤ 2) (hc : Cur base w1 B) (ho : Only B w w1) :
    MakeOut m base B w (.returned (.slice (some ⟨w1.heap.size, 0, none⟩) 1 1)) (w1.alloc (.cells n.c 44)) :=
  ⟨w1.heap.size, 1, .leaf n, ⟨hn, hm⟩, rfl, litN1 w1 w.heap.size ho.size n, hc.alloc _, ho.alloc _⟩
theorem slot_ok {r : Int} (h0 : 0 ≤ r) (h1 : r < 4) : (Nd.mk 2 r 0 0).ok ∧ (Nd.mk 2 r 0 0).k ≤ 2 := ⟨.inr (.inl ⟨rfl, ⟨h0, by show r ≤ 9; omega⟩, rfl, rfl⟩), by show (2 : Int) ≤ 2; omega⟩
theorem num_ok {x y : Nat} (h : NV x y) : (Nd.mk 1 0 x y).ok ∧ (Nd.mk 1 0 x y).k ≤ 2 := ⟨.inl ⟨rfl, rfl, h⟩, by show (1 : Int) ≤ 2; omega⟩
theorem five_k : ∀ j, j < 8 → ∃ v : Int, (#[Value.int .i64 0, .int .i64 0, .int .i64 1, .int .i64 1, .int .i64 2, .int .i64 2, .int .i64 3, .int .i64 4])[j]? = some (.int .i64 v) ∧ (0 ≤ v ∧ v ≤ 4)
  | 0, _ => ⟨_, rfl, by decide⟩ | 1, _ => ⟨_, rfl, by decide⟩ | 2, _ => ⟨_, rfl, by decide⟩ | 3, _ => ⟨_, rfl, by decide⟩ | 4, _ => ⟨_, rfl, by decide⟩ | 5, _ => ⟨_, rfl, by decide⟩ | 6, _ => ⟨_, rfl, by decide⟩ | 7, _ => ⟨_, rfl, by decide⟩
  | n + 8, h => by omega
set_option maxHeartbeats 1600000 in
theorem make_leaf (base B : Nat) (w : World) (hc : Cur base w B) :
    Calls Tryz.prog 16 #[.pointer (some ⟨B, 0, none⟩), .int .i64 0] w (MakeOut 1 base B w) := by
  go_enter Tryz.func16, Tryz.ntmps16
  go_wp2_with fail
  refine (once_any' base B 2 _ hc (by omega)).mono ?_
  rintro e w1 ⟨b, rfl, hc1, ho1⟩
  have H1 := Lib.hid (And.intro hc1 ho1)
  clear hc1 ho1 hc
  cases b
  · go_wp2_with fail
    refine (value_any base B _ H1.out.1).mono ?_
    rintro e w2 ⟨x, y, hv, rfl, hc2, ho2⟩
    have H2 := Lib.hid (And.intro hc2 (H1.out.2.trans ho2))
    have Hv := Lib.hid hv
    clear hc2 ho2 hv
    go_wp2_with fail
    go_ret
    exact leafOut ⟨1, 0, x, y⟩ (Nat.le_refl _) (num_ok Hv.out) H2.out.1 H2.out.2
  · go_wp2_with fail
    refine (below_any base B 4 _ H1.out.1 (by omega)).mono ?_
    rintro e w2 ⟨r, r0, r1, rfl, hc2, ho2⟩
    have H2 := Lib.hid (And.intro hc2 (H1.out.2.trans ho2))
    have Hr := Lib.hid (And.intro r0 (r1 (by omega)))
    clear hc2 ho2 r1
    go_wp2_with fail
    go_ret
    exact leafOut ⟨2, r, 0, 0⟩ (Nat.le_refl _) (slot_ok Hr.out.1 Hr.out.2) H2.out.1 H2.out.2
set_option maxRecDepth 20000 in
set_option maxHeartbeats 3200000 in
theorem make_step (m base B : Nat) (lv lv' : Int) (w : World) (hm : m ≤ 15) (h1 : 1 ≤ lv) (h4 : lv ≤ 4) (hlv : lv - 1 = lv') (hc : Cur base w B)
    (ih : ∀ W, Cur base W B → Calls Tryz.prog 16 #[.pointer (some ⟨B, 0, none⟩), .int .i64 lv'] W (MakeOut m base B W)) :
    Calls Tryz.prog 16 #[.pointer (some ⟨B, 0, none⟩), .int .i64 lv] w (MakeOut (2 * m + 1) base B w) := by
  have hBw := hc.lt
  obtain ⟨i0, hi, hz, hs, hby⟩ := info_partsN
  have Hi := Lib.hid (And.intro hi (And.intro hz (And.intro hs hby)))
  have hle : ¬ lv ≤ 0 := by omega
  have hwr : IntKind.i64.wrap (lv - 1) = lv' := by rw [IntKind.wrap_i64]; omega
  clear hi hz hs hby
  go_enter Tryz.func16, Tryz.ntmps16
  go_wp2_with fail
  refine (once_any' base B 4 _ hc (by omega)).mono ?_
  rintro e w1 ⟨b, rfl, hc1, ho1⟩
  have H1 := Lib.hid (And.intro hc1 ho1)
  clear hc1 ho1 hc
  cases b
  · go_wp2_with fail
    refine (ih _ H1.out.1).mono ?_
    rintro e w2 ⟨g, cp, ta, ⟨oka, lena⟩, rfl, owna, hc2, ho2⟩
    obtain ⟨na, hna⟩ : ∃ na, (pf ta).length = na := ⟨_, rfl⟩
    rw [hna] at owna lena ⊢
    have Hn2 := Lib.hid (And.intro hc2 (And.intro (H1.out.2.trans ho2) (show OwnN w.heap.size w2 _ _ _ from own_mono owna H1.out.2.size)))
    have Ha := Lib.hid oka
    clear hc2 ho2 owna oka
    have Hna := Lib.hid hna
    clear hna
    go_wp2_with fail
    refine (once_any' base B 3 _ Hn2.out.1 (by omega)).mono ?_
    rintro e w3 ⟨b, rfl, hc3, ho3⟩
    have H3 := Lib.hid (And.intro hc3 (And.intro (Hn2.out.2.1.trans ho3) (show OwnN w.heap.size w3 _ _ _ from owns_only Hn2.out.2.2 ho3 hBw)))
    clear hc3 ho3
    cases b
    · go_wp2_with fail
      refine (ih _ H3.out.1).mono ?_
      rintro e w4 ⟨gb, cpb, tb, ⟨okb, lenb⟩, rfl, ownb, hc4, ho4⟩
      have hsz3 := H3.out.2.1.size
      have Hb := Lib.hid okb
      have Hbc := Lib.hid (show CellsN w4 gb 0 (pf tb) from (OwnN.cells ownb rfl).1)
      have H4 := Lib.hid (And.intro hc4 (And.intro (H3.out.2.1.trans ho4) (show OwnN w.heap.size w4 _ _ _ from owns_only H3.out.2.2 ho4 hBw)))
      obtain ⟨nb, hnb⟩ : ∃ nb, (pf tb).length = nb := ⟨_, rfl⟩
      have hpb := pf_pos tb
      have hsz4 := H4.out.2.1.size
      rw [hnb] at lenb hpb ⊢
      clear hc4 ho4 ownb okb
      have Hnb := Lib.hid hnb
      clear hnb
      have hn63 : na + nb ≤ maxLen := by unfold maxLen; omega
      have hnby : (na + nb) * 32 ≤ 140737488355328 := by omega
      go_wp2_with (at_builtin; go_loud (refine wpList_append_lies _ rfl (.tmp 40) (.tmp 41) 24 rfl w.heap.size 44 i0 (.agg #[.int .i64 0, .int .i64 0, .complex .f64 0 0]) 3 32 Tryz.underlying24 Hi.out.1 Hi.out.2.1 Hi.out.2.2.1 Hi.out.2.2.2 rfl (by decide) (.slice (some ⟨g, 0, none⟩) na cp) na (cN (pf ta)) rfl H4.out.2.2 ⟨gb, 0, none⟩ nb cpb (cN (pf tb)) rfl (by rw [cN_len, Hnb.out]) Hbc.out.flat (all_oneN _) (by omega) hn63 hnby hsz4 _ rfl ?_; intro g5 cp5 w5 hown5 hgrow5 hat5 hlt5))
      have H5 := Lib.hid (show OwnN w.heap.size w5 (.slice (some ⟨g5, 0, none⟩) (na + nb) cp5) (na + nb) (pf ta ++ pf tb) ∧ Cur base w5 B ∧ Only B w w5 from ⟨by
        unfold OwnN
        rw [← cN_app]
        exact hown5, cur_grown H4.out.1 hgrow5 (fun k hk => by have := (World.ownsRow.lt H4.out.2.2 k hk).1; omega), only_grown H4.out.2.1 hgrow5 (fun k hk => (World.ownsRow.lt H4.out.2.2 k hk).1)⟩)
      have hlt5 := H5.out.2.1.lt
      have hsz5 := H5.out.2.2.size
      clear hown5 hgrow5 hat5
      go_wp2_with fail
      refine (pick_q (fun v => 0 ≤ v ∧ v ≤ 4) base B w5.heap.size 8 _ _ _ (H5.out.2.1.alloc _) (by omega) (by omega) (block_new _ _) (by omega) five_k).mono ?_
      rintro e w6 ⟨r, hr, rfl, hc6, ho6⟩
      have H6 := Lib.hid (And.intro hc6 (And.intro ((H5.out.2.2.alloc _).trans ho6) (show OwnN w.heap.size w6 _ _ _ from owns_only (World.ownsRow.alloc H5.out.1 _) ho6 hBw)))
      have hsz6 := H6.out.2.1.size
      have Hr := Lib.hid hr
      obtain ⟨k, hk⟩ : ∃ k, 8 + r = k := ⟨_, rfl⟩
      have hk8 : 8 ≤ k ∧ k ≤ 12 := by omega
      have hkw : IntKind.i64.wrap (8 + r) = k := by rw [IntKind.wrap_i64]; omega
      clear hc6 ho6 hr
      have hn63b : na + nb + 1 ≤ maxLen := by unfold maxLen; omega
      have hnbyb : (na + nb + 1) * 32 ≤ 140737488355328 := by omega
      have hbs : w.heap.size ≤ (w6.alloc (.cells #[.int .i64 k, .int .i64 0, .complex .f64 0 0] 44)).heap.size := by rw [World.size_alloc]; omega
      have Hown := Lib.hid (show (w6.alloc (.cells #[.int .i64 k, .int .i64 0, .complex .f64 0 0] 44)).ownsRow w.heap.size 44 3 _ _ _ from World.ownsRow.alloc H6.out.2.2 (.cells #[.int .i64 k, .int .i64 0, .complex .f64 0 0] 44))
      have Hnews := Lib.hid (one_cellN w6 (opN k))
      have Hone := Lib.hid (one_oneN (opN k))
      go_wp2_with (at_builtin; go_loud (refine wpList_append_lies _ rfl (.tmp 42) (.tmp 48) 24 rfl w.heap.size 44 i0 (.agg #[.int .i64 0, .int .i64 0, .complex .f64 0 0]) 3 32 Tryz.underlying24 Hi.out.1 Hi.out.2.1 Hi.out.2.2.1 Hi.out.2.2.2 rfl (by decide) (.slice (some ⟨g5, 0, none⟩) (na + nb) cp5) (na + nb) (cN (pf ta ++ pf tb)) rfl Hown.out ⟨w6.heap.size, 0, none⟩ 1 1 (Nd.l (opN k)) rfl rfl Hnews.out Hone.out (by omega) hn63b hnbyb hbs _ rfl ?_; intro g7 cp7 w7 hown7 hgrow7 hat7 hlt7))
      have H7 := Lib.hid (show OwnN w.heap.size w7 (.slice (some ⟨g7, 0, none⟩) (na + nb + 1) cp7) (na + nb + 1) (pf (.bin k ta tb)) ∧ Cur base w7 B ∧ Only B w w7 from ⟨by
        unfold OwnN
        rw [show pf (.bin k ta tb) = (pf ta ++ pf tb) ++ [opN k] by simp [pf], ← cN_snoc]
        exact hown7, cur_grown (H6.out.1.alloc _) hgrow7 (fun k hk => by have := (Hown.out.lt k hk).1; omega), only_grown (H6.out.2.1.alloc _) hgrow7 (fun k hk => (Hown.out.lt k hk).1)⟩)
      clear hown7 hgrow7 hat7 hlt7
      go_wp2_with fail
      go_ret
      have hl : (pf (.bin k ta tb)).length = na + nb + 1 := by
        show (pf ta ++ (pf tb ++ [opN k])).length = _
        rw [List.length_append, List.length_append, Hna.out, Hnb.out]; rfl
      exact ⟨g7, cp7, .bin k ta tb, ⟨⟨hk8, Ha.out, Hb.out⟩, by omega⟩, by rw [hl]; rfl, by rw [hl]; exact H7.out.1, H7.out.2.1, H7.out.2.2⟩
    · go_wp2_with fail
      refine (below_any base B 5 _ H3.out.1 (by omega)).mono ?_
      rintro e w6 ⟨r, r0, r1, rfl, hc6, ho6⟩
      have H6 := Lib.hid (And.intro hc6 (And.intro (H3.out.2.1.trans ho6) (show OwnN w.heap.size w6 _ _ _ from owns_only H3.out.2.2 ho6 hBw)))
      have hsz6 := H6.out.2.1.size
      have r2 := r1 (by omega)
      obtain ⟨k, hk⟩ : ∃ k, 3 + r = k := ⟨_, rfl⟩
      have hk8 : 3 ≤ k ∧ k ≤ 7 := by omega
      have hkw : IntKind.i64.wrap (3 + r) = k := by rw [IntKind.wrap_i64]; omega
      clear hc6 ho6 r1
      have hn63b : na + 1 ≤ maxLen := by unfold maxLen; omega
      have hnbyb : (na + 1) * 32 ≤ 140737488355328 := by omega
      have hbs : w.heap.size ≤ (w6.alloc (.cells #[.int .i64 k, .int .i64 0, .complex .f64 0 0] 44)).heap.size := by rw [World.size_alloc]; omega
      have Hown := Lib.hid (show (w6.alloc (.cells #[.int .i64 k, .int .i64 0, .complex .f64 0 0] 44)).ownsRow w.heap.size 44 3 _ _ _ from World.ownsRow.alloc H6.out.2.2 (.cells #[.int .i64 k, .int .i64 0, .complex .f64 0 0] 44))
      have Hnews := Lib.hid (one_cellN w6 (opN k))
      have Hone := Lib.hid (one_oneN (opN k))
      go_wp2_with (at_builtin; go_loud (refine wpList_append_lies _ rfl (.tmp 29) (.tmp 34) 24 rfl w.heap.size 44 i0 (.agg #[.int .i64 0, .int .i64 0, .complex .f64 0 0]) 3 32 Tryz.underlying24 Hi.out.1 Hi.out.2.1 Hi.out.2.2.1 Hi.out.2.2.2 rfl (by decide) (.slice (some ⟨g, 0, none⟩) na cp) na (cN (pf ta)) rfl Hown.out ⟨w6.heap.size, 0, none⟩ 1 1 (Nd.l (opN k)) rfl rfl Hnews.out Hone.out (by omega) hn63b hnbyb hbs _ rfl ?_; intro g7 cp7 w7 hown7 hgrow7 hat7 hlt7))
      have H7 := Lib.hid (show OwnN w.heap.size w7 (.slice (some ⟨g7, 0, none⟩) (na + 1) cp7) (na + 1) (pf (.un k ta)) ∧ Cur base w7 B ∧ Only B w w7 from ⟨by
        unfold OwnN
        rw [show pf (.un k ta) = pf ta ++ [opN k] from rfl, ← cN_snoc]
        exact hown7, cur_grown (H6.out.1.alloc _) hgrow7 (fun k hk => by have := (Hown.out.lt k hk).1; omega), only_grown (H6.out.2.1.alloc _) hgrow7 (fun k hk => (Hown.out.lt k hk).1)⟩)
      clear hown7 hgrow7 hat7 hlt7
      go_wp2_with fail
      go_ret
      have hl : (pf (.un k ta)).length = na + 1 := by
        show (pf ta ++ [opN k]).length = _
        rw [List.length_append, Hna.out]; rfl
      exact ⟨g7, cp7, .un k ta, ⟨⟨hk8, Ha.out⟩, by omega⟩, by rw [hl]; rfl, by rw [hl]; exact H7.out.1, H7.out.2.1, H7.out.2.2⟩
  · go_wp2_with fail
    refine (once_any' base B 2 _ H1.out.1 (by omega)).mono ?_
    rintro e w1a ⟨b, rfl, hc1, ho1⟩
    have H1a := Lib.hid (And.intro hc1 (H1.out.2.trans ho1))
    clear hc1 ho1
    cases b
    · go_wp2_with fail
      refine (value_any base B _ H1a.out.1).mono ?_
      rintro e w2 ⟨x, y, hv, rfl, hc2, ho2⟩
      have H2 := Lib.hid (And.intro hc2 (H1a.out.2.trans ho2))
      have Hv := Lib.hid hv
      clear hc2 ho2 hv
      go_wp2_with fail
      go_ret
      exact leafOut ⟨1, 0, x, y⟩ (by omega) (num_ok Hv.out) H2.out.1 H2.out.2
    · go_wp2_with fail
      refine (below_any base B 4 _ H1a.out.1 (by omega)).mono ?_
      rintro e w2 ⟨r, r0, r1, rfl, hc2, ho2⟩
      have H2 := Lib.hid (And.intro hc2 (H1a.out.2.trans ho2))
      have Hr := Lib.hid (And.intro r0 (r1 (by omega)))
      clear hc2 ho2 r1
      go_wp2_with fail
      go_ret
      exact leafOut ⟨2, r, 0, 0⟩ (by omega) (slot_ok Hr.out.1 Hr.out.2) H2.out.1 H2.out.2
theorem make_any (base B : Nat) (w : World) (hc : Cur base w B) :
    Calls Tryz.prog 16 #[.pointer (some ⟨B, 0, none⟩), .int .i64 4] w (MakeOut 31 base B w) :=
  make_step 15 base B 4 3 w (by omega) (by omega) (by omega) rfl hc fun W hW =>
  make_step 7 base B 3 2 W (by omega) (by omega) (by omega) rfl hW fun W hW =>
  make_step 3 base B 2 1 W (by omega) (by omega) (by omega) rfl hW fun W hW =>
  make_step 1 base B 1 0 W (by omega) (by omega) (by omega) rfl hW fun W hW => make_leaf base B W hW
end Go.Proofs.YtlngplohnknhjaaGreatDoor.Ex
