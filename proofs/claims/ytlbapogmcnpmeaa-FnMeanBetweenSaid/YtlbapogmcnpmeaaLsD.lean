/- The model's draw of a list of singles: at most nine, all finite. -/
import Derived.Test.YtlbapogmcnpmeaaFlw
import Derived.Test.YtlbapogmcnpmeaaMil
import Derived.Test.YtlbapogmcnpmeaaMake
import Derived.Test.YtlbapogmcnpmeaaAvgP
namespace Go.Proofs.Ytlbapogmcnpmeaa.Drw
open Go.ChangeShapes Go.WideShapes Go.ChangeAt Go.RowKit Go.Deep Go.Proofs.Ytlbapogmcnpmeaa Go.Proofs.Ytlbapogmcnpmeaa.Flt Go.Proofs.Ytlbapogmcnpmeaa.Mth Go.Proofs.Ytlbapogmcnpmeaa.Sgl
open Ieee (single double)
set_option linter.unusedVariables false
theorem cur_below {base B : Nat} {w w' : World} {top : Nat} (hc : Cur base w B) (hb : Below top w w') (ht : B < top) : Cur base w' B := by
  have hB := hc.1
  have hlt := hc.lt
  obtain ⟨_, a, len, cap, zs, i, h, hb0, h0, h1, hr, ha⟩ := hc
  exact Cur.mk' hB hr ha (hb.mono (by omega)) h0 h1 (by rw [hb.block B ht]; exact hb0)
theorem only_then {B : Nat} {a w w' : World} (h : Only B a w) (hb : Below a.heap.size w w') : Only B a w' :=
  ⟨hb.os.trans h.os, hb.tape.trans h.tape, hb.output.trans h.output, Nat.le_trans h.size hb.size, fun k hk hn => (hb.block k hk).trans (h.block k hk hn)⟩
theorem ownF_only {B : Nat} {w w' : World} {base n : Nat} {v : Value} {X : Nat → Nat} (h : OwnF base w v n X) (ho : Only B w w') (hB : B < base) : OwnF base w' v n X :=
  ((OwnU.of h).only (Nat.le_refl _) (.inl hB) ho).1
/-! a single that is made is finite -/
theorem eq_fin {u a : Nat} (h : eqW double u a = true) (ha : rung double a < double.infRung) : rung double u < double.infRung := by
  unfold eqW at h
  rw [Bool.and_eq_true, decide_eq_true_iff] at h
  have e := h.2
  have e1 := sv_abs double u
  have e2 := sv_abs double a
  rw [e, e2] at e1
  rcases Nat.lt_or_ge (rung double u) double.infRung with hc | hc
  · exact hc
  · exact absurd e1 (Nat.ne_of_lt ((mg_lt_iff double).2 (Nat.lt_of_lt_of_le ha hc)))
theorem amount_fin {m e : Int} (h0 : 0 ≤ m) (h1 : m ≤ 16777215) (e0 : -149 ≤ e) (e1 : e ≤ 127) : rung double (Mks.amount m e) < double.infRung := by
  obtain ⟨k, rfl⟩ := Int.eq_ofNat_of_zero_le h0
  unfold Mks.amount
  have hk : k < 9007199254740992 := by omega
  rw [ofIntA hk]
  rw [scale_A (by omega) (by omega) (by omega), rung_A (by omega) (by omega)]
  exact (A_spec (by omega) (by omega)).1
theorem widen_fin' {x : Nat} (h : rung double (widen x) < double.infRung) : finB x = true := by
  rw [rung_widen] at h
  unfold finB
  by_cases hx : rung single x < single.infRung
  · exact decide_eq_true hx
  · rw [if_neg hx] at h; omega
theorem out_fin (s : ByteArray) (m e : Int) : finB (Mks.out s m e).1 = true := by
  unfold Mks.out
  split
  · rename_i h
    unfold Mks.made
    split
    · rename_i x hx
      split
      · rename_i hq
        have hf := widen_fin' (eq_fin hq (amount_fin h.1 h.2.1 h.2.2.1 h.2.2.2))
        have hl : x < 4294967296 := floatToFloat_lt hx (wf_double (Mks.amount_lt m e))
        unfold Sgd.out
        split
        · exact hf
        · split
          · unfold finB
            rw [show rung single (Op.negFloat .f32 x) = rung single x from rung_neg .f32 hl]
            exact hf
          · rfl
      · rfl
    · rfl
  · rfl
theorem neg_fine {x : Nat} (h : (Lit.float .f32 x).wf = true ∧ finB x = true) : (Lit.float .f32 (Op.negFloat .f32 x)).wf = true ∧ finB (Op.negFloat .f32 x) = true := by
  have hl : x < 4294967296 := lt_single' h.1
  refine ⟨wf_single (neg_lt .f32 hl), ?_⟩
  have := h.2
  unfold finB at this ⊢
  rw [show rung single (Op.negFloat .f32 x) = rung single x from rung_neg .f32 hl]
  exact this
def FineF (n : Nat) (X : Nat → Nat) : Prop := ∀ j, j < n → (Lit.float .f32 (X j)).wf = true ∧ finB (X j) = true
theorem fin_snoc {n x : Nat} {X : Nat → Nat} (h : FineF n X) (hx : (Lit.float .f32 x).wf = true ∧ finB x = true) : FineF (n + 1) (upd X n x) := fun j hj => by
  unfold upd
  by_cases e : j = n
  · rw [if_pos e]; exact hx
  · rw [if_neg e]; exact h j (by omega)
theorem mil_fine {x : Nat} (h : x < 4294967296 ∧ rung single x < single.infRung) : (Lit.float .f32 x).wf = true ∧ finB x = true := ⟨wf_single h.1, decide_eq_true h.2⟩
/-- a list has been drawn -/
def ListF (base B : Nat) (w : World) (e : Ending) (w' : World) : Prop :=
  ∃ (r g cp : Nat) (X : Nat → Nat), r ≤ 9 ∧ Hid (FineF r X) ∧ e = .returned (.slice (some ⟨g, 0, none⟩) r cp) ∧ OwnF w.heap.size w' (.slice (some ⟨g, 0, none⟩) r cp) r X ∧ Cur base w' B ∧ Only B w w'
set_option maxHeartbeats 3200000 in
theorem list_any (base B : Nat) (w : World) (hc : Cur base w B) :
    Calls Try.prog 60 #[.pointer (some ⟨B, 0, none⟩)] w (ListF base B w) := by
  have hBw := hc.lt
  have Hn := Lib.hid (And.intro (hc.alloc (.cells #[] 30)) (And.intro ((Only.refl B w).alloc (.cells #[] 30)) (litF w)))
  clear hc
  go_enter Try.func60, Try.ntmps60
  go_wp2_with fail
  refine (below_any base B _ _ Hn.out.1 (by omega)).mono ?_
  rintro e w1 ⟨kd, r0, r1, rfl, hc1, ho1⟩
  by_cases k0 : kd = 0
  · subst kd
    have H1 := Lib.hid (And.intro hc1 (And.intro (Hn.out.2.1.trans ho1) (ownF_only Hn.out.2.2 ho1 hBw)))
    clear hc1 ho1 r1 r0 Hn
    go_wp2_with fail
    refine (mildF_any base B _ H1.out.1).mono ?_
    rintro e w2 ⟨fr, hfr, rfl, hc2, ho2⟩
    have Hfr := Lib.hid (mil_fine hfr)
    have H2 := Lib.hid (And.intro hc2 (And.intro (H1.out.2.1.trans ho2) (ownF_only H1.out.2.2 ho2 hBw)))
    clear hc2 ho2 hfr H1
    go_wp2_with fail
    refine (below_any base B _ _ H2.out.1 (by omega)).mono ?_
    rintro e w3 ⟨rr, r0, r1, rfl, hc3, ho3⟩
    obtain ⟨m0, rfl⟩ := Int.eq_ofNat_of_zero_le r0
    have hm0 : m0 < 10 := by have := r1 (by omega); omega
    have H3 := Lib.hid (And.intro hc3 (And.intro (H2.out.2.1.trans ho3) (ownF_only H2.out.2.2 ho3 hBw)))
    clear hc3 ho3 r1 r0 H2
    go_wp2_with fail
    go_loopw [3, 6] (fun vo vn wr => ∃ (r m g cp : Nat) (X : Nat → Nat), vo = .slice (some ⟨g, 0, none⟩) r cp ∧ vn = .int .i64 ((m : Nat) : Int) ∧ r + m ≤ 9 ∧ Hid (FineF r X) ∧ OwnF w.heap.size wr vo r X ∧ Cur base wr B ∧ Only B w wr)
      (fun _ vn _ => (intOf vn).toNat)
    case atStart => exact ⟨0, m0, _, _, _, rfl, rfl, by omega, Lib.hid (fun j hj => absurd hj (Nat.not_lt_zero _)), H3.out.2.2, H3.out.1, H3.out.2.1⟩
    case round =>
      obtain ⟨r, m, g0, cp, X, rfl, rfl, hrm, hX, hown, hcr, hor⟩ := hrel
      have Hr := Lib.hid (And.intro hcr (And.intro hor hown))
      clear hown hcr hor
      rcases m with _ | m
      · go_wp2_with fail
        go_ret
        exact ⟨r, g0, cp, X, by omega, hX, rfl, Hr.out.2.2, Hr.out.1, Hr.out.2.1⟩
      · go_wp2_with fail
        refine (mildF_any base B _ Hr.out.1).mono ?_
        rintro e w4 ⟨xm, hxm, rfl, hc4, ho4⟩
        have Hxm := Lib.hid (mil_fine hxm)
        have H4 := Lib.hid (show Cur base w4 B ∧ Only B w w4 ∧ OwnF w.heap.size w4 (.slice (some ⟨g0, 0, none⟩) r cp) r X from ⟨hc4, Hr.out.2.1.trans ho4, ownF_only Hr.out.2.2 ho4 hBw⟩)
        clear hc4 ho4 hxm Hr
        have Hq9 := Hfr
        have H9 := H4
        have hba := (Below.refl w4.heap.size w4).alloc (Nat.le_refl _) (.cells #[.float .f32 fr] 30)
        have hsq := H9.out.2.1.size
        obtain ⟨gC, cC, wC, krunC, hownC, hbelC⟩ := appF (base := w.heap.size) (w := w4.alloc (.cells #[.float .f32 fr] 30)) (n := r) (cap := cp) (m := 1) (c := 1) (g := g0) (ad := ⟨w4.heap.size, 0, none⟩) (Y := fun _ => fr) (World.ownsRow.alloc H9.out.2.2 _) (fun j hj => by
          have hn : (w4.alloc (.cells #[.float .f32 fr] 30)).heap[w4.heap.size]? = some (.cells #[.float .f32 fr] 30 (0, 0)) := block_new w4 _
          rw [addr_add, Nat.zero_add, cell_of_row _ w4.heap.size j _ _ _ hn]
          obtain rfl : j = 0 := by omega
          rfl) (by omega) (by rw [sz_alloc]; omega)
        have hbC := (hba.mono hsq).trans hbelC
        have H10 := Lib.hid (show OwnF w.heap.size wC (.slice (some ⟨gC, 0, none⟩) (r + 1) cC) (r + 1) (upd X r fr) ∧ Cur base wC B ∧ Only B w wC from ⟨ownF_congr hownC (fun j hj => by
          by_cases e : j < r
          · rw [spl_eq, if_neg (by omega)]; unfold upd; rw [if_neg (by omega)]
          · obtain rfl : j = r := by omega
            rw [spl_eq, if_pos (by omega)]; unfold upd; rw [if_pos rfl]), cur_below (H9.out.1) hbC hBw, only_then H9.out.2.1 hbC⟩)
        have Hx10 := Lib.hid (fin_snoc hX.out Hq9.out)
        clear hba hsq hownC hbelC hbC
        go_wp2_with (at_builtin; go_loud (refine wpList_append_run rfl (.tmp 43) (.tmp 45) _ rfl rfl rfl krunC ?_))
        go_roundw
        case rel => exact ⟨r + 1, m, gC, cC, _, rfl, by go_num, by omega, Hx10.out, H10.out.1, H10.out.2.1, H10.out.2.2⟩
        case measure => first | (simp [intOf]; done) | (simp [intOf]; omega)
  · by_cases k1 : kd = 1
    · subst kd
      have H1 := Lib.hid (And.intro hc1 (And.intro (Hn.out.2.1.trans ho1) (ownF_only Hn.out.2.2 ho1 hBw)))
      clear hc1 ho1 r1 r0 Hn
      go_wp2_with fail
      refine (mildF_any base B _ H1.out.1).mono ?_
      rintro e w2 ⟨fr, hfr, rfl, hc2, ho2⟩
      have Hfr := Lib.hid (mil_fine hfr)
      have H2 := Lib.hid (And.intro hc2 (And.intro (H1.out.2.1.trans ho2) (ownF_only H1.out.2.2 ho2 hBw)))
      clear hc2 ho2 hfr H1
      go_wp2_with fail
      refine (below_any base B _ _ H2.out.1 (by omega)).mono ?_
      rintro e w3 ⟨rr, r0, r1, rfl, hc3, ho3⟩
      obtain ⟨m0, rfl⟩ := Int.eq_ofNat_of_zero_le r0
      have hm0 : m0 < 10 := by have := r1 (by omega); omega
      have H3 := Lib.hid (And.intro hc3 (And.intro (H2.out.2.1.trans ho3) (ownF_only H2.out.2.2 ho3 hBw)))
      clear hc3 ho3 r1 r0 H2
      go_wp2_with fail
      go_loopw [3, 6] (fun vo vn wr => ∃ (r m g cp : Nat) (X : Nat → Nat), vo = .slice (some ⟨g, 0, none⟩) r cp ∧ vn = .int .i64 ((m : Nat) : Int) ∧ r + m ≤ 9 ∧ Hid (FineF r X) ∧ OwnF w.heap.size wr vo r X ∧ Cur base wr B ∧ Only B w wr)
        (fun _ vn _ => (intOf vn).toNat)
      case atStart => exact ⟨0, m0, _, _, _, rfl, rfl, by omega, Lib.hid (fun j hj => absurd hj (Nat.not_lt_zero _)), H3.out.2.2, H3.out.1, H3.out.2.1⟩
      case round =>
        obtain ⟨r, m, g0, cp, X, rfl, rfl, hrm, hX, hown, hcr, hor⟩ := hrel
        have Hr := Lib.hid (And.intro hcr (And.intro hor hown))
        clear hown hcr hor
        rcases m with _ | m
        · go_wp2_with fail
          go_ret
          exact ⟨r, g0, cp, X, by omega, hX, rfl, Hr.out.2.2, Hr.out.1, Hr.out.2.1⟩
        · go_wp2_with fail
          refine (mildF_any base B _ Hr.out.1).mono ?_
          rintro e w4 ⟨xm, hxm, rfl, hc4, ho4⟩
          have Hxm := Lib.hid (mil_fine hxm)
          have H4 := Lib.hid (show Cur base w4 B ∧ Only B w w4 ∧ OwnF w.heap.size w4 (.slice (some ⟨g0, 0, none⟩) r cp) r X from ⟨hc4, Hr.out.2.1.trans ho4, ownF_only Hr.out.2.2 ho4 hBw⟩)
          clear hc4 ho4 hxm Hr
          go_wp2_with fail
          refine (below_any base B _ _ H4.out.1 (by omega)).mono ?_
          rintro e w5 ⟨mm, mm0, mm1, rfl, hc5, ho5⟩
          have H5 := Lib.hid (show Cur base w5 B ∧ Only B w w5 ∧ OwnF w.heap.size w5 (.slice (some ⟨g0, 0, none⟩) r cp) r X from ⟨hc5, H4.out.2.1.trans ho5, ownF_only H4.out.2.2 ho5 hBw⟩)
          clear hc5 ho5 mm0 mm1
          go_wp2_with fail
          refine (below_any base B _ _ H5.out.1 (by omega)).mono ?_
          rintro e w6 ⟨ee, ee0, ee1, rfl, hc6, ho6⟩
          have H6 := Lib.hid (show Cur base w6 B ∧ Only B w w6 ∧ OwnF w.heap.size w6 (.slice (some ⟨g0, 0, none⟩) r cp) r X from ⟨hc6, H5.out.2.1.trans ho6, ownF_only H5.out.2.2 ho6 hBw⟩)
          clear hc6 ho6 ee0 ee1
          go_wp2_with fail
          refine (Mks.spec_any _ _ _ _).mono ?_
          rintro e w7 ⟨rfl, n7, hw7⟩
          have H7 := Lib.hid (show Cur base w7 B ∧ Only B w w7 ∧ OwnF w.heap.size w7 (.slice (some ⟨g0, 0, none⟩) r cp) r X from by
            have hb7 : Below w6.heap.size w6 w7 := hw7 ▸ below_drewN (Below.refl _ _) n7
            have ho7 : Only B w6 w7 := Only.of_below hb7
            exact ⟨H6.out.1.keep hb7, H6.out.2.1.trans ho7, ownF_only H6.out.2.2 ho7 hBw⟩)
          clear hw7
          have Hyp := Lib.hid (show (Lit.float .f32 (Mks.out ⟨#[43]⟩ (wrap64 (1 + mm)) (wrap64 (ee - 40))).1).wf = true ∧ finB (Mks.out ⟨#[43]⟩ (wrap64 (1 + mm)) (wrap64 (ee - 40))).1 = true from ⟨Mks.out_lt _ _ _, out_fin _ _ _⟩)
          generalize Mks.out ⟨#[43]⟩ (wrap64 (1 + mm)) (wrap64 (ee - 40)) = yp at *
          obtain ⟨y1, y2⟩ := yp
          go_wp2_with fail
          refine (once_any' base B _ _ H7.out.1 (by omega)).mono ?_
          rintro e w8 ⟨tb, rfl, hc8, ho8⟩
          have H9 := Lib.hid (show Cur base w8 B ∧ Only B w w8 ∧ OwnF w.heap.size w8 (.slice (some ⟨g0, 0, none⟩) r cp) r X from ⟨hc8, H7.out.2.1.trans ho8, ownF_only H7.out.2.2 ho8 hBw⟩)
          clear hc8 ho8
          cases tb
          · have Hq9 := Hyp
            have hba := (Below.refl w8.heap.size w8).alloc (Nat.le_refl _) (.cells #[.float .f32 y1] 30)
            have hsq := H9.out.2.1.size
            obtain ⟨gC, cC, wC, krunC, hownC, hbelC⟩ := appF (base := w.heap.size) (w := w8.alloc (.cells #[.float .f32 y1] 30)) (n := r) (cap := cp) (m := 1) (c := 1) (g := g0) (ad := ⟨w8.heap.size, 0, none⟩) (Y := fun _ => y1) (World.ownsRow.alloc H9.out.2.2 _) (fun j hj => by
              have hn : (w8.alloc (.cells #[.float .f32 y1] 30)).heap[w8.heap.size]? = some (.cells #[.float .f32 y1] 30 (0, 0)) := block_new w8 _
              rw [addr_add, Nat.zero_add, cell_of_row _ w8.heap.size j _ _ _ hn]
              obtain rfl : j = 0 := by omega
              rfl) (by omega) (by rw [sz_alloc]; omega)
            have hbC := (hba.mono hsq).trans hbelC
            have H10 := Lib.hid (show OwnF w.heap.size wC (.slice (some ⟨gC, 0, none⟩) (r + 1) cC) (r + 1) (upd X r y1) ∧ Cur base wC B ∧ Only B w wC from ⟨ownF_congr hownC (fun j hj => by
              by_cases e : j < r
              · rw [spl_eq, if_neg (by omega)]; unfold upd; rw [if_neg (by omega)]
              · obtain rfl : j = r := by omega
                rw [spl_eq, if_pos (by omega)]; unfold upd; rw [if_pos rfl]), cur_below (H9.out.1) hbC hBw, only_then H9.out.2.1 hbC⟩)
            have Hx10 := Lib.hid (fin_snoc hX.out Hq9.out)
            clear hba hsq hownC hbelC hbC
            go_wp2_with (at_builtin; go_loud (refine wpList_append_run rfl (.tmp 43) (.tmp 45) _ rfl rfl rfl krunC ?_))
            go_roundw
            case rel => exact ⟨r + 1, m, gC, cC, _, rfl, by go_num, by omega, Hx10.out, H10.out.1, H10.out.2.1, H10.out.2.2⟩
            case measure => first | (simp [intOf]; done) | (simp [intOf]; omega)
          · have Hq9 := Lib.hid (neg_fine Hyp.out)
            obtain ⟨y3, hy3⟩ : ∃ y3, Op.negFloat .f32 y1 = y3 := ⟨_, rfl⟩
            have Hy3 := Lib.hid hy3
            rw [show Op.negFloat .f32 (y1, y2).fst = y3 from hy3] at Hq9
            have hba := (Below.refl w8.heap.size w8).alloc (Nat.le_refl _) (.cells #[.float .f32 y3] 30)
            have hsq := H9.out.2.1.size
            obtain ⟨gC, cC, wC, krunC, hownC, hbelC⟩ := appF (base := w.heap.size) (w := w8.alloc (.cells #[.float .f32 y3] 30)) (n := r) (cap := cp) (m := 1) (c := 1) (g := g0) (ad := ⟨w8.heap.size, 0, none⟩) (Y := fun _ => y3) (World.ownsRow.alloc H9.out.2.2 _) (fun j hj => by
              have hn : (w8.alloc (.cells #[.float .f32 y3] 30)).heap[w8.heap.size]? = some (.cells #[.float .f32 y3] 30 (0, 0)) := block_new w8 _
              rw [addr_add, Nat.zero_add, cell_of_row _ w8.heap.size j _ _ _ hn]
              obtain rfl : j = 0 := by omega
              rfl) (by omega) (by rw [sz_alloc]; omega)
            have hbC := (hba.mono hsq).trans hbelC
            have H10 := Lib.hid (show OwnF w.heap.size wC (.slice (some ⟨gC, 0, none⟩) (r + 1) cC) (r + 1) (upd X r y3) ∧ Cur base wC B ∧ Only B w wC from ⟨ownF_congr hownC (fun j hj => by
              by_cases e : j < r
              · rw [spl_eq, if_neg (by omega)]; unfold upd; rw [if_neg (by omega)]
              · obtain rfl : j = r := by omega
                rw [spl_eq, if_pos (by omega)]; unfold upd; rw [if_pos rfl]), cur_below (H9.out.1) hbC hBw, only_then H9.out.2.1 hbC⟩)
            have Hx10 := Lib.hid (fin_snoc hX.out Hq9.out)
            clear hba hsq hownC hbelC hbC
            go_wp2_with (at_builtin; go_loud (refine wpList_append_run rfl (.tmp 43) (.tmp 45) _ rfl rfl rfl krunC ?_))
            go_roundw
            case rel => exact ⟨r + 1, m, gC, cC, _, rfl, by go_num, by omega, Hx10.out, H10.out.1, H10.out.2.1, H10.out.2.2⟩
            case measure => first | (simp [intOf]; done) | (simp [intOf]; omega)
    · have H1 := Lib.hid (And.intro hc1 (And.intro (Hn.out.2.1.trans ho1) (ownF_only Hn.out.2.2 ho1 hBw)))
      clear hc1 ho1 r1 r0 Hn
      go_wp2_with fail
      refine (mildF_any base B _ H1.out.1).mono ?_
      rintro e w2 ⟨fr, hfr, rfl, hc2, ho2⟩
      have Hfr := Lib.hid (mil_fine hfr)
      have H2 := Lib.hid (And.intro hc2 (And.intro (H1.out.2.1.trans ho2) (ownF_only H1.out.2.2 ho2 hBw)))
      clear hc2 ho2 hfr H1
      go_wp2_with fail
      refine (below_any base B _ _ H2.out.1 (by omega)).mono ?_
      rintro e w3 ⟨rr, r0, r1, rfl, hc3, ho3⟩
      obtain ⟨m0, rfl⟩ := Int.eq_ofNat_of_zero_le r0
      have hm0 : m0 < 10 := by have := r1 (by omega); omega
      have H3 := Lib.hid (And.intro hc3 (And.intro (H2.out.2.1.trans ho3) (ownF_only H2.out.2.2 ho3 hBw)))
      clear hc3 ho3 r1 r0 H2
      go_wp2_with fail
      go_loopw [3, 6] (fun vo vn wr => ∃ (r m g cp : Nat) (X : Nat → Nat), vo = .slice (some ⟨g, 0, none⟩) r cp ∧ vn = .int .i64 ((m : Nat) : Int) ∧ r + m ≤ 9 ∧ Hid (FineF r X) ∧ OwnF w.heap.size wr vo r X ∧ Cur base wr B ∧ Only B w wr)
        (fun _ vn _ => (intOf vn).toNat)
      case atStart => exact ⟨0, m0, _, _, _, rfl, rfl, by omega, Lib.hid (fun j hj => absurd hj (Nat.not_lt_zero _)), H3.out.2.2, H3.out.1, H3.out.2.1⟩
      case round =>
        obtain ⟨r, m, g0, cp, X, rfl, rfl, hrm, hX, hown, hcr, hor⟩ := hrel
        have Hr := Lib.hid (And.intro hcr (And.intro hor hown))
        clear hown hcr hor
        rcases m with _ | m
        · go_wp2_with fail
          go_ret
          exact ⟨r, g0, cp, X, by omega, hX, rfl, Hr.out.2.2, Hr.out.1, Hr.out.2.1⟩
        · go_wp2_with fail
          refine (mildF_any base B _ Hr.out.1).mono ?_
          rintro e w4 ⟨xm, hxm, rfl, hc4, ho4⟩
          have Hxm := Lib.hid (mil_fine hxm)
          have H4 := Lib.hid (show Cur base w4 B ∧ Only B w w4 ∧ OwnF w.heap.size w4 (.slice (some ⟨g0, 0, none⟩) r cp) r X from ⟨hc4, Hr.out.2.1.trans ho4, ownF_only Hr.out.2.2 ho4 hBw⟩)
          clear hc4 ho4 hxm Hr
          have Hq9 := Hxm
          have H9 := H4
          have hba := (Below.refl w4.heap.size w4).alloc (Nat.le_refl _) (.cells #[.float .f32 xm] 30)
          have hsq := H9.out.2.1.size
          obtain ⟨gC, cC, wC, krunC, hownC, hbelC⟩ := appF (base := w.heap.size) (w := w4.alloc (.cells #[.float .f32 xm] 30)) (n := r) (cap := cp) (m := 1) (c := 1) (g := g0) (ad := ⟨w4.heap.size, 0, none⟩) (Y := fun _ => xm) (World.ownsRow.alloc H9.out.2.2 _) (fun j hj => by
            have hn : (w4.alloc (.cells #[.float .f32 xm] 30)).heap[w4.heap.size]? = some (.cells #[.float .f32 xm] 30 (0, 0)) := block_new w4 _
            rw [addr_add, Nat.zero_add, cell_of_row _ w4.heap.size j _ _ _ hn]
            obtain rfl : j = 0 := by omega
            rfl) (by omega) (by rw [sz_alloc]; omega)
          have hbC := (hba.mono hsq).trans hbelC
          have H10 := Lib.hid (show OwnF w.heap.size wC (.slice (some ⟨gC, 0, none⟩) (r + 1) cC) (r + 1) (upd X r xm) ∧ Cur base wC B ∧ Only B w wC from ⟨ownF_congr hownC (fun j hj => by
            by_cases e : j < r
            · rw [spl_eq, if_neg (by omega)]; unfold upd; rw [if_neg (by omega)]
            · obtain rfl : j = r := by omega
              rw [spl_eq, if_pos (by omega)]; unfold upd; rw [if_pos rfl]), cur_below (H9.out.1) hbC hBw, only_then H9.out.2.1 hbC⟩)
          have Hx10 := Lib.hid (fin_snoc hX.out Hq9.out)
          clear hba hsq hownC hbelC hbC
          go_wp2_with (at_builtin; go_loud (refine wpList_append_run rfl (.tmp 43) (.tmp 45) _ rfl rfl rfl krunC ?_))
          go_roundw
          case rel => exact ⟨r + 1, m, gC, cC, _, rfl, by go_num, by omega, Hx10.out, H10.out.1, H10.out.2.1, H10.out.2.2⟩
          case measure => first | (simp [intOf]; done) | (simp [intOf]; omega)
end Go.Proofs.Ytlbapogmcnpmeaa.Drw
