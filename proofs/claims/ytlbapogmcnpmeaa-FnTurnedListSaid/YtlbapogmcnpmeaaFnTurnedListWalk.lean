/- The walk of FnTurnedList: it returns true. -/
import Derived.Test.YtlbapogmcnpmeaaRows
import Derived.Test.YtlbapogmcnpmeaaAvgY
namespace Go.Proofs.Ytlbapogmcnpmeaa.fnTurnedList
open Go.ChangeShapes Go.WideShapes Go.ChangeAt Go.RowKit Go.Deep Go.Proofs.Ytlbapogmcnpmeaa Go.Proofs.Ytlbapogmcnpmeaa.Flt Go.Proofs.Ytlbapogmcnpmeaa.Mth Go.Proofs.Ytlbapogmcnpmeaa.Sgl Go.Proofs.Ytlbapogmcnpmeaa.Avg Go.Proofs.Ytlbapogmcnpmeaa.Drw
open Ieee (single double)
set_option linter.unusedVariables false
set_option linter.unusedSimpArgs false
/-- what is known of both lists' results -/
structure Turn (r : Nat) (b1 b2 b3 : Bool) (m m' s s' d d' : Nat) : Prop where
  b1 : b1 = decide (1 ≤ r)
  m : (FloatKind.f32.format.order m (Op.negFloat .f32 m') == some .eq) = true
  d : (FloatKind.f64.format.order d (Op.negFloat .f64 d') == some .eq) = true
  s : (FloatKind.f32.format.order s s' == some .eq) = true
theorem turn_of {r : Nat} {X : Nat → Nat} (h : FineF r X) (hn : r ≤ 64) : Turn r (meanB r X) (driftB r X) (sprB r X) (meanN r X) (meanN r (ngF X)) (sprN r X) (sprN r (ngF X)) (driftN r X) (driftN r (ngF X)) ∧
    meanB r (ngF X) = meanB r X ∧ driftB r (ngF X) = driftB r X ∧ sprB r (ngF X) = sprB r X := by
  refine ⟨⟨meanB_of h hn, mean_turn h hn, drift_turn h hn, (spread_turn h hn).2⟩, ?_, ?_, (spread_turn h hn).1.symm⟩
  · rw [meanB_of h hn, meanB_of (ng_fine h) hn]
  · unfold driftB; rw [good_of h hn, good_of (ng_fine h) hn]
set_option maxHeartbeats 3200000 in
theorem walk (a : Option Addr) (len cap : Nat) (zs : List Int) (w : World) (hr : IsRow .u8 w a len cap zs) :
    Calls Try.prog 14 #[.slice a len cap] w fun x w' => x = .returned (.bool true) ∧ Below w.heap.size w w' := by
  by_cases hl : (len : Int) ≤ 1048576
  · go_enter Try.func14, Try.ntmps14
    go_wp2_with fail
    refine (Drw.big_no _ _ _ _ hl).mono ?_
    rintro e w9 ⟨rfl, hw9⟩
    subst w9
    go_wp2_with fail
    refine (drawList a len cap zs _ hr).mono ?_
    rintro e w1 ⟨r, g, cp, X, k, hr9, hk, hX, rfl, hown, hb1⟩
    have HL := Lib.hid (lst_of hown hX.out)
    have H1 := Lib.hid hb1
    have Hst := Lib.hid (And.intro (litF w1) ((Below.refl w1.heap.size w1).alloc (Nat.le_refl _) (.cells #[] 30)))
    clear hr hown hb1
    go_wp2_with fail
    go_loopw [5, 6] (fun v i wr => ∃ (j g1 c1 : Nat), i = .int .i64 (j : Int) ∧ v = .slice (some ⟨g1, 0, none⟩) j c1 ∧ j ≤ r ∧ OwnF w1.heap.size wr (.slice (some ⟨g1, 0, none⟩) j c1) j (ngF X) ∧ Below w1.heap.size w1 wr)
      (fun _ i _ => r - (intOf i).toNat)
    case atStart => exact ⟨0, _, _, rfl, rfl, Nat.zero_le _, ownF_congr Hst.out.1 (fun j hj => absurd hj (Nat.not_lt_zero _)), Hst.out.2⟩
    case round =>
      obtain ⟨j, g1, c1, rfl, rfl, hj, hown, hbel⟩ := hrel
      have Hr := Lib.hid (And.intro hown hbel)
      clear hown hbel
      by_cases hjr : j < r
      · obtain ⟨b, off, ha, hlt, hc⟩ := LstF.cells (HL.out.keep Hr.out.2) (by omega)
        cases ha
        have a0 := hc j hjr
        rw [Nat.zero_add] at a0
        have hjr' : (j : Int) < r := by omega
        clear hc
        obtain ⟨y, hy⟩ : ∃ y, Op.negFloat .f32 (X j) = y := ⟨_, rfl⟩
        have Hy := Lib.hid (show ngF X j = y from hy)
        have ky : ∀ w, (Op.unary .neg (.float .f32 (X j))).run Try.prog w = .ok (.float .f32 y) w := fun w => by rw [run_neg_float, hy]
        clear hy
        have hba := (Below.refl wr.heap.size wr).alloc (Nat.le_refl _) (.cells #[.float .f32 y] 30)
        have hsq := Hr.out.2.size
        obtain ⟨gC, cC, wC, krunC, hownC, hbelC⟩ := appF (base := w1.heap.size) (w := wr.alloc (.cells #[.float .f32 y] 30)) (n := j) (cap := c1) (m := 1) (c := 1) (g := g1) (ad := ⟨wr.heap.size, 0, none⟩) (Y := fun _ => y) (World.ownsRow.alloc Hr.out.1 _) (fun i hi => by
          have hn : (wr.alloc (.cells #[.float .f32 y] 30)).heap[wr.heap.size]? = some (.cells #[.float .f32 y] 30 (0, 0)) := block_new wr _
          rw [addr_add, Nat.zero_add, cell_of_row _ wr.heap.size i _ _ _ hn]
          obtain rfl : i = 0 := by omega
          rfl) (by omega) (by rw [sz_alloc]; omega)
        have H9 := Lib.hid (show OwnF w1.heap.size wC (.slice (some ⟨gC, 0, none⟩) (j + 1) cC) (j + 1) (ngF X) ∧ Below w1.heap.size w1 wC from ⟨ownF_congr hownC (fun i hi => by
          by_cases e : i < j
          · rw [spl_eq, if_neg (by omega)]
          · obtain rfl : i = j := by omega
            rw [spl_eq, if_pos (by omega), Hy.out]), (Hr.out.2.trans (hba.mono hsq)).trans hbelC⟩)
        clear hba hownC hbelC
        go_wp2_with (at_builtin; go_loud (refine wpList_append_run rfl (.tmp 33) (.tmp 39) _ rfl rfl rfl krunC ?_))
        go_roundw
        case rel => exact ⟨j + 1, gC, cC, by go_num, rfl, by omega, H9.out.1, H9.out.2⟩
        case measure => simp [intOf]; omega
      · obtain rfl : j = r := by omega
        have HT := Lib.hid (And.intro (HL.out.keep Hr.out.2) (lst_of Hr.out.1 (ng_fine hX.out)))
        have HB := Lib.hid (H1.out.trans (Hr.out.2.mono H1.out.size))
        obtain ⟨T, hT1, hT2, hT3⟩ := turn_of hX.out (by omega : j ≤ 64)
        have hj2 : j ≤ 1048576 := by omega
        have C1 := Lib.hid (fun W a c (h : LstF W a j X) => impl_mean a j c X W hj2 h)
        have C2 := Lib.hid (fun W a c (h : LstF W a j (ngF X)) => impl_mean a j c (ngF X) W hj2 h)
        have C3 := Lib.hid (fun W a c (h : LstF W a j X) => impl_drift a j c X W hj2 h)
        have C4 := Lib.hid (fun W a c (h : LstF W a j (ngF X)) => impl_drift a j c (ngF X) W hj2 h)
        have C5 := Lib.hid (fun W a c (h : LstF W a j X) => impl_spread a j c X W hj2 h)
        have C6 := Lib.hid (fun W a c (h : LstF W a j (ngF X)) => impl_spread a j c (ngF X) W hj2 h)
        rw [hT1] at C2
        rw [hT2] at C4
        rw [hT3] at C6
        clear hT1 hT2 hT3
        generalize meanB j X = b1 at *
        generalize driftB j X = b2 at *
        generalize sprB j X = b3 at *
        generalize meanN j X = m1 at *
        generalize meanN j (ngF X) = m2 at *
        generalize driftN j X = d1 at *
        generalize driftN j (ngF X) = d2 at *
        generalize sprN j X = s1 at *
        generalize sprN j (ngF X) = s2 at *
        have HTurn := Lib.hid T
        clear T hk
        go_wp2_with fail
        refine (C1.out _ _ _ HT.out.1).mono ?_
        rintro e w2 ⟨rfl, hb⟩
        have H2 := Lib.hid (And.intro (HB.out.trans (hb.mono HB.out.size)) (And.intro (HT.out.1.keep hb) (HT.out.2.keep hb)))
        clear hb
        go_wp2_with fail
        refine (C2.out _ _ _ H2.out.2.2).mono ?_
        rintro e w3 ⟨rfl, hb⟩
        have H3 := Lib.hid (And.intro (H2.out.1.trans (hb.mono H2.out.1.size)) (And.intro (H2.out.2.1.keep hb) (H2.out.2.2.keep hb)))
        clear hb
        go_wp2_with fail
        refine (C3.out _ _ _ H3.out.2.1).mono ?_
        rintro e w4 ⟨rfl, hb⟩
        have H4 := Lib.hid (And.intro (H3.out.1.trans (hb.mono H3.out.1.size)) (And.intro (H3.out.2.1.keep hb) (H3.out.2.2.keep hb)))
        clear hb
        go_wp2_with fail
        refine (C4.out _ _ _ H4.out.2.2).mono ?_
        rintro e w5 ⟨rfl, hb⟩
        have H5 := Lib.hid (And.intro (H4.out.1.trans (hb.mono H4.out.1.size)) (And.intro (H4.out.2.1.keep hb) (H4.out.2.2.keep hb)))
        clear hb
        go_wp2_with fail
        refine (C5.out _ _ _ H5.out.2.1).mono ?_
        rintro e w6 ⟨rfl, hb⟩
        have H6 := Lib.hid (And.intro (H5.out.1.trans (hb.mono H5.out.1.size)) (And.intro (H5.out.2.1.keep hb) (H5.out.2.2.keep hb)))
        clear hb
        go_wp2_with fail
        refine (C6.out _ _ _ H6.out.2.2).mono ?_
        rintro e w7 ⟨rfl, hb⟩
        have H7 := Lib.hid (H6.out.1.trans (hb.mono H6.out.1.size))
        clear hb
        have q1 := HTurn.out.m
        have q2 := HTurn.out.d
        have q3 := HTurn.out.s
        have q4 := HTurn.out.b1
        clear HTurn
        by_cases h1 : 1 ≤ j
        · rw [decide_eq_true h1] at q4
          subst q4
          have h1' : (0 : Int) < j := by omega
          cases b2 <;> cases b3
          all_goals
            go_wp2_with fail
            go_ret
            exact ⟨rfl, H7.out⟩
        · rw [decide_eq_false h1] at q4
          subst q4
          have h1' : ¬ (0 : Int) < j := by omega
          cases b2 <;> cases b3
          all_goals
            go_wp2_with fail
            go_ret
            exact ⟨rfl, H7.out⟩
  · go_enter Try.func14, Try.ntmps14
    go_wp2_with fail
    refine (Drw.big_yes _ _ _ _ (by omega)).mono ?_
    rintro e w' ⟨rfl, rfl⟩
    go_wp2_with fail
    go_ret
    exact ⟨rfl, Below.refl _ _⟩
end Go.Proofs.Ytlbapogmcnpmeaa.fnTurnedList
