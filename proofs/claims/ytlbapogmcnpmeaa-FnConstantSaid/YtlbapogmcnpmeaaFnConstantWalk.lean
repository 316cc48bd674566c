/- The walk of FnConstant: it returns true. -/
import Derived.Test.YtlbapogmcnpmeaaRows
import Derived.Test.YtlbapogmcnpmeaaAvgB
import Derived.Test.YtlbapogmcnpmeaaSrtB
namespace Go.Proofs.Ytlbapogmcnpmeaa.fnConstant
open Go.ChangeShapes Go.WideShapes Go.ChangeAt Go.RowKit Go.Deep Go.Proofs.Ytlbapogmcnpmeaa Go.Proofs.Ytlbapogmcnpmeaa.Flt Go.Proofs.Ytlbapogmcnpmeaa.Mth Go.Proofs.Ytlbapogmcnpmeaa.Sgl Go.Proofs.Ytlbapogmcnpmeaa.Avg Go.Proofs.Ytlbapogmcnpmeaa.Drw
open Ieee (single double)
set_option linter.unusedVariables false
set_option linter.unusedSimpArgs false
theorem eq_sv {x y : Nat} (hx : finB x = true) (hy : finB y = true) (h : sv single x = sv single y) : (FloatKind.f32.format.order x y == some .eq) = true := by
  rcases ord_fin hx hy with ⟨c, e⟩ | ⟨c, e⟩ | ⟨c, e⟩
  · omega
  · rw [e]; rfl
  · omega
/-- elements that are all alike -/
structure Alike (n x m mid s d : Nat) (X : Nat → Nat) : Prop where
  mb : meanB n X = true
  sb : sprB n X = true
  db : driftB n X = true
  m : (FloatKind.f32.format.order m x == some .eq) = true
  mid : (FloatKind.f32.format.order mid x == some .eq) = true
  s : (FloatKind.f32.format.order s 0 == some .eq) = true
  d : (FloatKind.f64.format.order d 0 == some .eq) = true
  c : cntN n X x = n
theorem alike_of {n x : Nat} (h2 : 2 ≤ n) (hn : n ≤ 64) (hx : (Lit.float .f32 x).wf = true ∧ finB x = true) : Alike n x (meanN n fun _ => x) (midN n fun _ => x) (sprN n fun _ => x) (driftN n fun _ => x) (fun _ => x) := by
  have hF : FineF n (fun _ => x) := fun _ _ => hx
  have hg := good_of hF hn
  have hm : meanB n (fun _ => x) = true := by unfold meanB; rw [hg, decide_eq_true (by omega)]; rfl
  have hd : driftB n (fun _ => x) = true := by unfold driftB; rw [hg, decide_eq_true h2]; rfl
  have hs : ∀ j, j < n → srt (fun _ => x) n j = x := fun j hj => by obtain ⟨i, _, e⟩ := srt_mem (fun _ => x) n j hj; exact e
  have h0 : finB 0 = true := by decide
  obtain ⟨r, r1, r2, r3, r4, r5⟩ := sub_val (a := x) (b := x) (of_decide_eq_true hx.2) (of_decide_eq_true hx.2)
  have hD : sprD n (fun _ => x) = r := by unfold sprD subB; rw [hs _ (by omega), hs 0 (by omega), r1]; rfl
  rw [Int.sub_self] at r4 r5
  have r0 : rung single r = 0 := by rw [r4, Int.natAbs_zero, rr_zero single (by omega), Nat.zero_min]
  have hfr : finB r = true := by unfold finB; rw [r0]; decide
  have hsb : sprB n (fun _ => x) = true := by unfold sprB; rw [hm, hD, hfr]; rfl
  refine ⟨hm, hsb, hd, ?_, ?_, ?_, ?_, ?_⟩
  · obtain ⟨l, u⟩ := mean_in (lo := x) (hi := x) hF (by omega) hn ⟨hx.2, hx.2, fun _ _ => ⟨Int.le_refl _, Int.le_refl _⟩⟩
    exact eq_sv (meanN_fin _ _) hx.2 (by omega)
  · obtain ⟨i, _, e⟩ := midN_mem n (fun _ => x) hm
    rw [e]
    exact eq_sv hx.2 hx.2 rfl
  · have e : sprN n (fun _ => x) = r := by unfold sprN; rw [if_pos hsb, hD]
    rw [e]
    exact eq_sv hfr h0 (by rw [(sv_eq_zero single).2 r0, (sv_eq_zero single).2 (by decide)])
  · have e : driftN n (fun _ => x) = drF n (fun _ => x) := by unfold driftN; rw [if_pos hd]
    have hr := dr_const (X := fun _ => x) h2 hn hx.2 (fun _ _ => rfl)
    rw [e, eq64]
    unfold eqW
    rw [(dr_end (X := fun _ => x) h2 hn (fun _ _ => hx.2)).2.2.2, (sv_eq_zero double).2 hr, (sv_eq_zero double).2 (show rung double 0 = 0 by decide)]
    decide
  · unfold cntN
    rw [if_pos hn]
    exact cnt_all hx.2 n (fun _ _ => rfl)
set_option maxHeartbeats 6400000 in
theorem walk (a : Option Addr) (len cap : Nat) (zs : List Int) (w : World) (hr : IsRow .u8 w a len cap zs) :
    Calls Try.prog 13 #[.slice a len cap] w fun x w' => x = .returned (.bool true) ∧ Below w.heap.size w w' := by
  by_cases hl : (len : Int) ≤ 1048576
  · go_enter Try.func13, Try.ntmps13
    go_wp2_with fail
    refine (Drw.big_no _ _ _ _ hl).mono ?_
    rintro e w9 ⟨rfl, hw9⟩
    subst w9
    go_wp2_with fail
    refine (drawList a len cap zs _ hr).mono ?_
    rintro e w1 ⟨r, g, cp, X, kk, hr9, hkk, hX, rfl, hown, hb1⟩
    have HL := Lib.hid (lst_of hown hX.out)
    have H1 := Lib.hid hb1
    have Hst := Lib.hid (And.intro (litF w1) ((Below.refl w1.heap.size w1).alloc (Nat.le_refl _) (.cells #[] 30)))
    clear hr hown hb1
    by_cases hk2 : 2 ≤ kk
    · have e0 : ¬ (r : Int) = 0 := by omega
      have e1 : ¬ (kk : Int) < 2 := by omega
      have eb0 : ((r : Int) == 0) = false := by rw [beq_eq_false_iff_ne]; exact e0
      have eb1 : decide ((kk : Int) < 2) = false := decide_eq_false e1
      obtain ⟨b, off, ha, hlt, hc⟩ := LstF.cells HL.out (by omega)
      cases ha
      have a0 : w1.cell? ⟨g, 0, none⟩ = some (.float .f32 (X 0)) := hc 0 (by omega)
      have hx0 := hX.out 0 (by omega)
      obtain ⟨x, hx⟩ : ∃ x, X 0 = x := ⟨_, rfl⟩
      rw [hx] at a0 hx0
      have A0 := Lib.hid (And.intro a0 hlt)
      have T := alike_of hk2 (by omega) hx0
      have Hx0 := Lib.hid hx0
      have hr0 : (0 : Int) < (r : Int) := by omega
      clear hc a0 hx hlt hx0
      go_wp2_with fail
      go_loopw [7, 8] (fun v i wr => ∃ (j g1 c1 : Nat), i = .int .i64 (j : Int) ∧ v = .slice (some ⟨g1, 0, none⟩) j c1 ∧ j ≤ kk ∧ OwnF w1.heap.size wr (.slice (some ⟨g1, 0, none⟩) j c1) j (fun _ => x) ∧ Below w1.heap.size w1 wr)
        (fun _ i _ => kk - (intOf i).toNat)
      case atStart => exact ⟨0, _, _, rfl, rfl, Nat.zero_le _, ownF_congr Hst.out.1 (fun j hj => absurd hj (Nat.not_lt_zero _)), Hst.out.2⟩
      case round =>
        obtain ⟨j, g1, c1, rfl, rfl, hj, hown, hbel⟩ := hrel
        have Hr := Lib.hid (And.intro hown hbel)
        clear hown hbel
        have a0 : wr.cell? ⟨g, 0, none⟩ = some (.float .f32 x) := by rw [Hr.out.2.cell A0.out.2]; exact A0.out.1
        by_cases hjr : j < kk
        · have hjr' : (j : Int) < kk := by omega
          have hba := (Below.refl wr.heap.size wr).alloc (Nat.le_refl _) (.cells #[.float .f32 x] 30)
          have hsq := Hr.out.2.size
          obtain ⟨gC, cC, wC, krunC, hownC, hbelC⟩ := appF (base := w1.heap.size) (w := wr.alloc (.cells #[.float .f32 x] 30)) (n := j) (cap := c1) (m := 1) (c := 1) (g := g1) (ad := ⟨wr.heap.size, 0, none⟩) (Y := fun _ => x) (World.ownsRow.alloc Hr.out.1 _) (fun i hi => by
            have hn : (wr.alloc (.cells #[.float .f32 x] 30)).heap[wr.heap.size]? = some (.cells #[.float .f32 x] 30 (0, 0)) := block_new wr _
            rw [addr_add, Nat.zero_add, cell_of_row _ wr.heap.size i _ _ _ hn]
            obtain rfl : i = 0 := by omega
            rfl) (by omega) (by rw [sz_alloc]; omega)
          have H9 := Lib.hid (show OwnF w1.heap.size wC (.slice (some ⟨gC, 0, none⟩) (j + 1) cC) (j + 1) (fun _ => x) ∧ Below w1.heap.size w1 wC from ⟨ownF_congr hownC (fun i hi => by
            by_cases e : i < j
            · rw [spl_eq, if_neg (by omega)]
            · rw [spl_eq, if_pos (by omega)]), (Hr.out.2.trans (hba.mono hsq)).trans hbelC⟩)
          clear hba hownC hbelC
          go_wp2_with (at_builtin; go_loud (refine wpList_append_run rfl (.tmp 44) (.tmp 48) _ rfl rfl rfl krunC ?_))
          go_roundw
          case rel => exact ⟨j + 1, gC, cC, by go_num, rfl, by omega, H9.out.1, H9.out.2⟩
          case measure => simp [intOf]; omega
        · obtain rfl : j = kk := by omega
          have hjr' : ¬ (j : Int) < (j : Int) := by omega
          have hj2 : j ≤ 1048576 := by omega
          have HT := Lib.hid (And.intro (lst_of Hr.out.1 (fun _ _ => Hx0.out)) (And.intro (Hr.out.2.trans (Below.refl _ _)) (H1.out.trans (Hr.out.2.mono H1.out.size))))
          have C1 := Lib.hid (fun W (h : LstF W (some ⟨g1, 0, none⟩) j (fun _ => x)) => impl_mean (some ⟨g1, 0, none⟩) j c1 _ W hj2 h)
          have C2 := Lib.hid (fun W (h : LstF W (some ⟨g1, 0, none⟩) j (fun _ => x)) => impl_middle (some ⟨g1, 0, none⟩) j c1 _ W hj2 h)
          have C3 := Lib.hid (fun W (h : LstF W (some ⟨g1, 0, none⟩) j (fun _ => x)) => impl_spread (some ⟨g1, 0, none⟩) j c1 _ W hj2 h)
          have C4 := Lib.hid (fun W (h : LstF W (some ⟨g1, 0, none⟩) j (fun _ => x)) => impl_drift (some ⟨g1, 0, none⟩) j c1 _ W hj2 h)
          have C5 := Lib.hid (fun W (h : LstF W (some ⟨g1, 0, none⟩) j (fun _ => x)) => impl_count (some ⟨g1, 0, none⟩) j c1 _ x W hj2 h)
          rw [T.mb] at C1 C2
          rw [T.sb] at C3
          rw [T.db] at C4
          rw [T.c] at C5
          obtain ⟨_, _, _, t1, t2, t3, t4, _⟩ := T
          generalize (meanN j fun _ => x) = m1 at *
          generalize (midN j fun _ => x) = m2 at *
          generalize (sprN j fun _ => x) = s1 at *
          generalize (driftN j fun _ => x) = d1 at *
          have TT := Lib.hid (And.intro t1 (And.intro t2 (And.intro t3 t4)))
          have HA := Lib.hid (fun W (hb : Below w1.heap.size w1 W) => show W.cell? ⟨g, 0, none⟩ = some (.float .f32 x) from by rw [hb.cell A0.out.2]; exact A0.out.1)
          have HB1 := Lib.hid Hr.out.2
          clear t1 t2 t3 t4 a0
          go_wp2_with fail
          refine (C1.out _ HT.out.1).mono ?_
          rintro e w2 ⟨rfl, hb⟩
          have H2 := Lib.hid (show Below w1.heap.size w1 w2 ∧ LstF w2 (some ⟨g1, 0, none⟩) j (fun _ => x) ∧ Below w.heap.size w w2 from ⟨HB1.out.trans (hb.mono HB1.out.size), HT.out.1.keep hb, HT.out.2.2.trans (hb.mono HT.out.2.2.size)⟩)
          clear hb
          go_wp2_with fail
          refine (C2.out _ H2.out.2.1).mono ?_
          rintro e w3 ⟨rfl, hb⟩
          have H3 := Lib.hid (show Below w1.heap.size w1 w3 ∧ LstF w3 (some ⟨g1, 0, none⟩) j (fun _ => x) ∧ Below w.heap.size w w3 from ⟨H2.out.1.trans (hb.mono H2.out.1.size), H2.out.2.1.keep hb, H2.out.2.2.trans (hb.mono H2.out.2.2.size)⟩)
          clear hb
          go_wp2_with fail
          refine (C3.out _ H3.out.2.1).mono ?_
          rintro e w4 ⟨rfl, hb⟩
          have H4 := Lib.hid (show Below w1.heap.size w1 w4 ∧ LstF w4 (some ⟨g1, 0, none⟩) j (fun _ => x) ∧ Below w.heap.size w w4 from ⟨H3.out.1.trans (hb.mono H3.out.1.size), H3.out.2.1.keep hb, H3.out.2.2.trans (hb.mono H3.out.2.2.size)⟩)
          clear hb
          go_wp2_with fail
          refine (C4.out _ H4.out.2.1).mono ?_
          rintro e w5 ⟨rfl, hb⟩
          have H5 := Lib.hid (show Below w1.heap.size w1 w5 ∧ LstF w5 (some ⟨g1, 0, none⟩) j (fun _ => x) ∧ Below w.heap.size w w5 from ⟨H4.out.1.trans (hb.mono H4.out.1.size), H4.out.2.1.keep hb, H4.out.2.2.trans (hb.mono H4.out.2.2.size)⟩)
          clear hb
          have a5 := HA.out w5 H5.out.1
          obtain ⟨t1, t2, t3, t4⟩ := TT.out
          go_wp2_with fail
          refine (C5.out _ H5.out.2.1).mono ?_
          rintro e w6 ⟨rfl, hw6⟩
          subst w6
          go_wp2_with fail
          go_ret
          exact ⟨ret_bool (by first | rfl | simp), H5.out.2.2⟩
    · have e1 : (kk : Int) < 2 := by omega
      have eb1 : decide ((kk : Int) < 2) = true := decide_eq_true e1
      have HD := Lib.hid (impl_drift (some ⟨w1.heap.size, 0, none⟩) 0 0 X (w1.alloc (.cells #[] 30)) (by omega) ⟨fun i hi => absurd hi (Nat.not_lt_zero _), .inl rfl⟩)
      have hdb : driftB 0 X = false := by unfold driftB; rw [decide_eq_false (by omega), Bool.and_false]
      rw [hdb] at HD
      have HB := Lib.hid (H1.out.trans (Hst.out.2.mono H1.out.size))
      clear hdb
      by_cases h0 : r = 0
      · have e0 : (r : Int) = 0 := by omega
        have eb0 : ((r : Int) == 0) = true := by rw [beq_iff_eq]; exact e0
        go_wp2_with fail
        refine HD.out.mono ?_
        rintro e w2 ⟨rfl, hb⟩
        have H2 := Lib.hid (HB.out.trans (hb.mono HB.out.size))
        clear hb
        go_wp2_with fail
        go_ret
        exact ⟨rfl, H2.out⟩
      · have e0 : ¬ (r : Int) = 0 := by omega
        have eb0 : ((r : Int) == 0) = false := by rw [beq_eq_false_iff_ne]; exact e0
        go_wp2_with fail
        refine HD.out.mono ?_
        rintro e w2 ⟨rfl, hb⟩
        have H2 := Lib.hid (HB.out.trans (hb.mono HB.out.size))
        clear hb
        go_wp2_with fail
        go_ret
        exact ⟨rfl, H2.out⟩
  · go_enter Try.func13, Try.ntmps13
    go_wp2_with fail
    refine (Drw.big_yes _ _ _ _ (by omega)).mono ?_
    rintro e w' ⟨rfl, rfl⟩
    go_wp2_with fail
    go_ret
    exact ⟨rfl, Below.refl _ _⟩
end Go.Proofs.Ytlbapogmcnpmeaa.fnConstant
