/- Refine in the model. -/
import Derived.Test.YtbmojogohffhaaaApq
import Derived.Test.YtbmojogohffhaaaRefR
namespace Go.Proofs.Ytbmojogohffhaaa.Pnt
open Go.ChangeShapes Go.WideShapes Go.ChangeAt Go.RowKit Go.Deep Go.Proofs.Ytbmojogohffhaaa Go.Proofs.Ytbmojogohffhaaa.Flt Go.Proofs.Ytbmojogohffhaaa.Mth Go.Proofs.Ytbmojogohffhaaa.Sgl
open Ieee (single double)
set_option linter.unusedVariables false
/-- the X of the list are numbers -/
theorem refI_num {n : Nat} {X xs : Nat → Nat} (h : okP n X = true) : ∀ r, (∀ i, i < r → segIn n X (xs i) = true) → ∀ k, k < (refI n X xs r).1 → isNaN single ((refI n X xs r).2 (k * 2)) = false
  | 0, _, k, hk => fin_num (okPt_fin (okP_at h hk)).1
  | r + 1, ha, k, hk => by
    have ih := refI_num h r (fun i hi => ha i (by omega))
    have hx := segIn_num (ha r (by omega))
    revert hk
    show k < insN (refI n X xs r).1 (refI n X xs r).2 (xs r) → isNaN single (insX (refI n X xs r).1 (refI n X xs r).2 (xs r) (ipV n X (xs r)) (k * 2)) = false
    have hp := insAt_le (refI n X xs r).1 (refI n X xs r).2 (xs r)
    unfold insN insX
    split
    · exact ih k
    · intro hk
      rw [(insC_at _ _ _ _ k).1]
      split
      · exact ih k (by omega)
      · split
        · exact hx
        · exact ih (k - 1) (by omega)
theorem lt_of_ge {x y : Nat} (hx : isNaN single x = false) (hy : isNaN single y = false) (h : geB x y = false) : ltB x y = true := by
  have e := ge_lt hx hy
  rw [h] at e
  cases hl : ltB x y
  · rw [hl] at e; cases e
  · rfl
theorem nlt_of_ge {x y : Nat} (hx : isNaN single x = false) (hy : isNaN single y = false) (h : geB x y = true) : ltB x y = false := by
  have e := ge_lt hx hy
  rw [h] at e
  cases hl : ltB x y
  · rfl
  · rw [hl] at e; cases e
/-- at the end: the whole answer -/
theorem refB_fin {n m : Nat} {X xs : Nat → Nat} (ha : ∀ i, i < m → segIn n X (xs i) = true) : refB n X m xs = okP (refI n X xs m).1 (refI n X xs m).2 := by
  cases h : okP n X
  · rw [refB_tab h]
    by_cases h0 : m = 0
    · subst h0; exact h.symm
    · have := (segIn_ok (ha 0 (by omega))).1
      rw [h] at this; cases this
  · exact refB_end h ha
set_option maxRecDepth 100000 in
set_option maxHeartbeats 3200000 in
theorem specRef (a : Option Addr) (len cap : Nat) (X : Nat → Nat) (a' : Option Addr) (m cap' : Nat) (xs : Nat → Nat) (w : World) (hl : len ≤ 1048576) (hm : m ≤ 1048576) (h : Lst w a len X) (h' : LstF w a' m xs) :
    Calls Try.prog 34 #[.slice a len cap, .slice a' m cap'] w (RefOut len X m xs w) := by
  have hb0 := (Below.refl w.heap.size w).alloc (Nat.le_refl _) (.cells #[] 32)
  obtain ⟨g1, c1, w1, krun, hown1, hb1⟩ := appL (base := w.heap.size) (cap := 0) (c := cap) (g := w.heap.size) (litP w) (h.keep hb0) hl hb0.size
  have H := Lib.hid h
  have H' := Lib.hid h'
  have H1 := Lib.hid (And.intro hown1 (hb0.trans hb1))
  clear h h' hb0 hown1 hb1
  go_enter Try.func34, Try.ntmps34
  go_wp2_with (at_builtin; go_loud (refine wpList_append_run rfl _ _ _ rfl rfl rfl krun ?_))
  clear krun
  go_loopw [6, 7] (fun v iv wr => ∃ (r q g cp : Nat) (Z : Nat → Nat), v = .slice (some ⟨g, 0, none⟩) q cp ∧ iv = .int .i64 (r : Int) ∧ r ≤ m ∧ q ≤ 1048576 ∧ Hid (q = (refI len X xs r).1 ∧ Z = (refI len X xs r).2 ∧ (∀ i, i < r → segIn len X (xs i) = true) ∧ (okP len X = true → q ≤ 32)) ∧ OwnQ w.heap.size wr v q Z ∧ Below w.heap.size w wr)
    (fun _ iv _ => m - (intOf iv).toNat)
  case atStart => exact ⟨0, len, g1, c1, X, rfl, rfl, Nat.zero_le _, hl, Lib.hid ⟨rfl, rfl, fun i hi => absurd hi (Nat.not_lt_zero _), fun h => (okP_bounds h).2⟩, H1.out.1, H1.out.2⟩
  case round =>
    obtain ⟨r, q, g, cp, Z, rfl, rfl, hr, hq, hst, hown, hbel⟩ := hrel
    have Hr := Lib.hid (And.intro hown hbel)
    have hsz := hbel.size
    by_cases hrl : r < m
    · have hrl' : (r : Int) < (m : Int) := by omega
      obtain ⟨hwf, h0 | ⟨b', off', rfl, hlt', hcx⟩⟩ := H'.out
      · omega
      have a0 := (hcx.keep hlt' hbel) r hrl
      have wx := hwf r hrl
      obtain ⟨x, hx⟩ : ∃ x, xs r = x := ⟨_, rfl⟩
      rw [hx] at a0 wx
      have Hx := Lib.hid hx
      have HL := Lib.hid (H.out.keep hbel)
      have Hcx := Lib.hid (And.intro hcx hlt')
      clear hown hbel hwf hcx
      cases hin : segIn len X x
      · have Hb := Lib.hid (refB_seg (n := len) (X := X) (xs := xs) hrl (by rw [hx]; exact hin))
        have Hbn := Lib.hid (refN_no Hb.out)
        have Hin := Lib.hid hin
        clear hin hx
        go_wp2_with fail
        refine (specItp _ _ _ X x _ hl HL.out).mono ?_
        rintro e w5 ⟨rfl, hb5⟩
        rw [Hin.out]
        have hb5' := Hr.out.2.trans (hb5.mono hsz)
        have H8 := Lib.hid (show OwnQ w.heap.size (w5.alloc (.cells #[] 32)) (.slice (some ⟨w5.heap.size, 0, none⟩) 0 0) 0 (refX len X m xs) ∧ Below w.heap.size w (w5.alloc (.cells #[] 32)) from ⟨(OwnQ.mono (litP w5) hb5'.size).zero, hb5'.alloc hb5'.size _⟩)
        clear hb5 hb5'
        go_wp2_with fail
        go_ret2
        exact ⟨_, by rw [Hb.out]; rfl, by rw [Hbn.out]; exact H8.out.1, H8.out.2⟩
      · have hok := (segIn_ok hin).1
        have hq32 := hst.out.2.2.2 hok
        have hq1 : 1 ≤ q := by
          have h1 := (okP_bounds hok).1
          have h2 := refI_mono len X xs (Nat.zero_le r)
          rw [← hst.out.1] at h2
          have h3 : (refI len X xs 0).1 = len := rfl
          omega
        have Hnum := Lib.hid (show ∀ k, k < q → isNaN single (Z (k * 2)) = false from by
          rw [hst.out.1, hst.out.2.1]; exact refI_num hok r hst.out.2.2.1)
        have Hxn := Lib.hid (segIn_num hin)
        have Hall := Lib.hid (show ∀ i, i < r + 1 → segIn len X (xs i) = true from fun i hi => by
          by_cases e : i = r
          · rw [e, hx]; exact hin
          · exact hst.out.2.2.1 i (by omega))
        have Hin := Lib.hid hin
        obtain ⟨y, hy⟩ : ∃ y, ipV len X x = y := ⟨_, rfl⟩
        have Hy := Lib.hid hy
        obtain ⟨p, hp⟩ : ∃ p, insAt q Z x = p := ⟨_, rfl⟩
        obtain ⟨hpn, hlow, hhigh⟩ := fstN_spec q Z (fun a _ => geB a x)
        rw [show fstN q Z (fun a _ => geB a x) = p from hp] at hpn hlow hhigh
        have Hlow := Lib.hid (And.intro hlow hhigh)
        have Hp := Lib.hid hp
        clear hin hx hy hok hp hlow hhigh
        go_wp2_with fail
        refine (specItp _ _ _ X x _ hl HL.out).mono ?_
        rintro e w5 ⟨rfl, hb5⟩
        rw [Hin.out, Hy.out]
        have hb5' := Hr.out.2.trans (hb5.mono hsz)
        have H5 := Lib.hid (And.intro (show OwnQ w.heap.size w5 (.slice (some ⟨g, 0, none⟩) q cp) q Z from own_below Hr.out.1 (Nat.le_refl _) hb5) hb5')
        clear hb5 hb5' a0
        go_wp2_with fail
        go_loopw [10] (fun v w6 => ∃ j : Nat, v = .int .i64 (j : Int) ∧ j ≤ p ∧ Hid (OwnQ w.heap.size w6 (.slice (some ⟨g, 0, none⟩) q cp) q Z ∧ Below w.heap.size w w6))
          (fun v _ => q + 1 - (intOf v).toNat)
        case atStart => exact ⟨0, rfl, Nat.zero_le _, Lib.hid H5.out⟩
        case round =>
          obtain ⟨j, rfl, hj, H6⟩ := hrel
          have a6 := (Hcx.out.1.keep Hcx.out.2 H6.out.2) r hrl
          rw [Hx.out] at a6
          by_cases hjq : j < q
          · have hjq' : (j : Int) < (q : Int) := by omega
            have z0 : wr.cell? ⟨g, j * 2, none⟩ = some (.float .f32 (Z (j * 2))) := by rw [World.ownsRow.cellAt H6.out.1 (j * 2) (by omega), flat_at (by omega)]
            by_cases hjp : j < p
            · have hltb := lt_of_ge (Hnum.out j hjq) Hxn.out (Hlow.out.1 j hjp)
              unfold ltB at hltb
              go_wp2_with fail
              go_quiet (fail)
              go_wp2_with fail
              go_roundw
              case rel => exact ⟨j + 1, by go_num, hjp, Lib.hid ⟨H6.out.1, below_drewN H6.out.2 _⟩⟩
              case measure => simp [intOf]; omega
            · obtain rfl : p = j := by omega
              have hltb := nlt_of_ge (Hnum.out p hjq) Hxn.out (Hlow.out.2 hjq)
              unfold ltB at hltb
              obtain ⟨c, hc⟩ : ∃ c, eqB (Z (p * 2)) x = c := ⟨_, rfl⟩
              have Hc := Lib.hid hc
              unfold eqB at hc
              have hjn : (p : Int) ≤ (q : Int) := by omega
              cases c
              · have Hh := Lib.hid (show insH q Z x = false by unfold insH; rw [Hp.out, decide_eq_true hjq, Hc.out]; rfl)
                go_wp2_with fail
                go_quiet (fail)
                obtain ⟨w5a, hw5a⟩ : ∃ w', wr.drewN nq = w' := ⟨_, rfl⟩
                have H5a := Lib.hid (show OwnQ w.heap.size w5a (.slice (some ⟨g, 0, none⟩) q cp) q Z ∧ Below w.heap.size w w5a from by rw [← hw5a]; exact ⟨H6.out.1, below_drewN H6.out.2 _⟩)
                have z5a : w5a.cell? ⟨g, p * 2, none⟩ = some (.float .f32 (Z (p * 2))) := by rw [← hw5a]; exact z0
                have a5a : w5a.cell? ⟨b', off' + r, none⟩ = some (.float .f32 x) := by rw [← hw5a]; exact a6
                rw [hw5a]
                clear a6 z0 hw5a
                go_wp2_with fail
                go_quiet (fail)
                obtain ⟨w6, hw6⟩ : ∃ w', w5a.drewN nq = w' := ⟨_, rfl⟩
                have H6' := H6
                clear H6
                have H6 := Lib.hid (show OwnQ w.heap.size w6 (.slice (some ⟨g, 0, none⟩) q cp) q Z ∧ Below w.heap.size w w6 from by rw [← hw6]; exact ⟨H5a.out.1, below_drewN H5a.out.2 _⟩)
                rw [hw6]
                clear hw6 a5a z5a H6'
                have Hi := Lib.hid (show insN q Z x = q + 1 ∧ insX q Z x y = insC Z p x y by unfold insN insX; rw [Hh.out, Hp.out]; exact ⟨rfl, rfl⟩)
                by_cases hq33 : 32 ≤ q
                · have hq33' : (32 : Int) ≤ (q : Int) := by omega
                  have Hb := Lib.hid (refB_long (n := len) (X := X) (xs := xs) (m := m) (k := r + 1) hrl (by
                    have e := Hi.out.1
                    rw [hst.out.1, hst.out.2.1, ← Hx.out] at e
                    show 32 < insN (refI len X xs r).1 (refI len X xs r).2 (xs r)
                    rw [e, ← hst.out.1]; omega))
                  have Hbn := Lib.hid (refN_no Hb.out)
                  have H8 := Lib.hid (show OwnQ w.heap.size (w6.alloc (.cells #[] 32)) (.slice (some ⟨w6.heap.size, 0, none⟩) 0 0) 0 (refX len X m xs) ∧ Below w.heap.size w (w6.alloc (.cells #[] 32)) from ⟨(OwnQ.mono (litP w6) H6.out.2.size).zero, H6.out.2.alloc H6.out.2.size _⟩)
                  go_wp2_with fail
                  go_ret2
                  exact ⟨_, by rw [Hb.out]; rfl, by rw [Hbn.out]; exact H8.out.1, H8.out.2⟩
                · have hq33' : ¬ (32 : Int) ≤ (q : Int) := by omega
                  have Hnext := Lib.hid (show q + 1 = (refI len X xs (r + 1)).1 ∧ insC Z p x y = (refI len X xs (r + 1)).2 ∧ (∀ i, i < r + 1 → segIn len X (xs i) = true) ∧ (okP len X = true → q + 1 ≤ 32) from by
                    refine ⟨?_, ?_, Hall.out, fun _ => by omega⟩
                    · have e := Hi.out.1
                      rw [hst.out.1, hst.out.2.1, ← Hx.out] at e
                      rw [hst.out.1]; exact e.symm
                    · have e := Hi.out.2
                      rw [← e, hst.out.1, hst.out.2.1, ← Hy.out, ← Hx.out]; rfl)
                  obtain ⟨hcap, gA, cA, wA, gC, cC, wC, gD, cD, wD, krunA, krunC, krunD, hbelA, hownD, hbelD⟩ := app3 (x := x) (y := y) (show p < q from hjq) hq1 (by omega) H6.out.1 H6.out.2
                  have aA := (Hcx.out.1.keep Hcx.out.2 hbelA) r hrl
                  rw [Hx.out] at aA
                  have H9 := Lib.hid (And.intro hownD hbelD)
                  have hpc : (p : Int) ≤ (cp : Int) := by omega
                  have hpc2 : p ≤ cp := by omega
                  clear hbelA hownD hbelD
                  have hne1 : ¬ (cp = p) := by omega
                  have hne2 : ¬ (q = p) := by omega
                  go_wp2_with (at_builtin; go_loud (first | refine wpList_append_run rfl (.tmp 71) (.tmp 74) _ rfl rfl rfl krunA ?_ | refine wpList_append_run rfl (.tmp 76) (.tmp 83) _ rfl rfl rfl krunC ?_ | refine wpList_append_run rfl (.tmp 85) (.tmp 88) _ rfl rfl rfl krunD ?_))
                  go_roundw
                  case rel => exact ⟨r + 1, q + 1, gD, cD, _, rfl, by go_num, hrl, by omega, Lib.hid Hnext.out, H9.out.1, H9.out.2⟩
                  case measure => simp [intOf]; omega
              · have Hh := Lib.hid (show insH q Z x = true by unfold insH; rw [Hp.out, decide_eq_true hjq, Hc.out]; rfl)
                have Hi := Lib.hid (show insN q Z x = q ∧ insX q Z x y = Z by unfold insN insX; rw [Hh.out]; exact ⟨rfl, rfl⟩)
                have Hnext := Lib.hid (show q = (refI len X xs (r + 1)).1 ∧ Z = (refI len X xs (r + 1)).2 ∧ (∀ i, i < r + 1 → segIn len X (xs i) = true) ∧ (okP len X = true → q ≤ 32) from by
                  refine ⟨?_, ?_, Hall.out, fun _ => hq32⟩
                  · have e := Hi.out.1
                    rw [hst.out.1, hst.out.2.1, ← Hx.out] at e
                    rw [hst.out.1]; exact e.symm
                  · have e := Hi.out.2
                    rw [hst.out.1, hst.out.2.1, ← Hy.out, ← Hx.out] at e
                    rw [hst.out.2.1]; exact e.symm)
                go_wp2_with fail
                go_quiet (fail)
                go_wp2_with fail
                go_quiet (fail)
                go_wp2_with fail
                go_roundw
                case rel => exact ⟨r + 1, q, g, cp, Z, rfl, by go_num, hrl, hq, Lib.hid Hnext.out, H6.out.1, below_drewN H6.out.2 _⟩
                case measure => simp [intOf]; omega
          · obtain rfl : p = j := by omega
            obtain rfl : p = q := by omega
            have hjq' : ¬ (p : Int) < (p : Int) := by omega
            have Hh := Lib.hid (show insH p Z x = false by unfold insH; rw [Hp.out, decide_eq_false hjq]; rfl)
            go_wp2_with fail
            go_quiet (fail)
            obtain ⟨w5a, hw5a⟩ : ∃ w', wr.drewN nq = w' := ⟨_, rfl⟩
            have H5a := Lib.hid (show OwnQ w.heap.size w5a (.slice (some ⟨g, 0, none⟩) p cp) p Z ∧ Below w.heap.size w w5a from by rw [← hw5a]; exact ⟨H6.out.1, below_drewN H6.out.2 _⟩)
            have a5a : w5a.cell? ⟨b', off' + r, none⟩ = some (.float .f32 x) := by rw [← hw5a]; exact a6
            rw [hw5a]
            clear a6 hw5a
            go_wp2_with fail
            go_quiet (fail)
            obtain ⟨w6, hw6⟩ : ∃ w', w5a.drewN nq = w' := ⟨_, rfl⟩
            have H6' := H6
            clear H6
            have H6 := Lib.hid (show OwnQ w.heap.size w6 (.slice (some ⟨g, 0, none⟩) p cp) p Z ∧ Below w.heap.size w w6 from by rw [← hw6]; exact ⟨H5a.out.1, below_drewN H5a.out.2 _⟩)
            rw [hw6]
            clear hw6 a5a H6'
            have Hi := Lib.hid (show insN p Z x = p + 1 ∧ insX p Z x y = insC Z p x y by unfold insN insX; rw [Hh.out, Hp.out]; exact ⟨rfl, rfl⟩)
            by_cases hq33 : 32 ≤ p
            · have hq33' : (32 : Int) ≤ (p : Int) := by omega
              have Hb := Lib.hid (refB_long (n := len) (X := X) (xs := xs) (m := m) (k := r + 1) hrl (by
                have e := Hi.out.1
                rw [hst.out.1, hst.out.2.1, ← Hx.out] at e
                show 32 < insN (refI len X xs r).1 (refI len X xs r).2 (xs r)
                rw [e, ← hst.out.1]; omega))
              have Hbn := Lib.hid (refN_no Hb.out)
              have H8 := Lib.hid (show OwnQ w.heap.size (w6.alloc (.cells #[] 32)) (.slice (some ⟨w6.heap.size, 0, none⟩) 0 0) 0 (refX len X m xs) ∧ Below w.heap.size w (w6.alloc (.cells #[] 32)) from ⟨(OwnQ.mono (litP w6) H6.out.2.size).zero, H6.out.2.alloc H6.out.2.size _⟩)
              go_wp2_with fail
              go_ret2
              exact ⟨_, by rw [Hb.out]; rfl, by rw [Hbn.out]; exact H8.out.1, H8.out.2⟩
            · have hq33' : ¬ (32 : Int) ≤ (p : Int) := by omega
              have Hnext := Lib.hid (show p + 1 = (refI len X xs (r + 1)).1 ∧ insC Z p x y = (refI len X xs (r + 1)).2 ∧ (∀ i, i < r + 1 → segIn len X (xs i) = true) ∧ (okP len X = true → p + 1 ≤ 32) from by
                refine ⟨?_, ?_, Hall.out, fun _ => by omega⟩
                · have e := Hi.out.1
                  rw [hst.out.1, hst.out.2.1, ← Hx.out] at e
                  rw [hst.out.1]; exact e.symm
                · have e := Hi.out.2
                  rw [← e, hst.out.1, hst.out.2.1, ← Hy.out, ← Hx.out]; rfl)
              obtain ⟨hcap, gA, cA, wA, gC, cC, wC, gD, cD, wD, krunA, krunC, krunD, rfl, rfl, rfl, hbelA, hownD, hbelD⟩ := app3e (x := x) (y := y) hpn hq1 (by omega) H6.out.1 H6.out.2
              have aA := (Hcx.out.1.keep Hcx.out.2 hbelA) r hrl
              rw [Hx.out] at aA
              have H9 := Lib.hid (And.intro hownD hbelD)
              have hpc : (p : Int) ≤ (cp : Int) := by omega
              have hpc2 : p ≤ cp := by omega
              clear hbelA hownD hbelD
              by_cases hcp : cp = p
              · subst hcp
                go_wp2_with (at_builtin; go_loud (first | refine wpList_append_run rfl (.tmp 71) (.tmp 74) _ rfl rfl rfl krunA ?_ | refine wpList_append_run rfl (.tmp 76) (.tmp 83) _ rfl rfl rfl krunC ?_ | refine wpList_append_run rfl (.tmp 85) (.tmp 88) _ rfl rfl rfl (krunD _ _) ?_))
                go_roundw
                case rel => exact ⟨r + 1, cp + 1, gD, cD, _, rfl, by go_num, hrl, by omega, Lib.hid Hnext.out, H9.out.1, H9.out.2⟩
                case measure => simp [intOf]; omega
              · go_wp2_with (at_builtin; go_loud (first | refine wpList_append_run rfl (.tmp 71) (.tmp 74) _ rfl rfl rfl krunA ?_ | refine wpList_append_run rfl (.tmp 76) (.tmp 83) _ rfl rfl rfl krunC ?_ | refine wpList_append_run rfl (.tmp 85) (.tmp 88) _ rfl rfl rfl (krunD _ _) ?_))
                go_roundw
                case rel => exact ⟨r + 1, p + 1, gD, cD, _, rfl, by go_num, hrl, by omega, Lib.hid Hnext.out, H9.out.1, H9.out.2⟩
                case measure => simp [intOf]; omega
    · obtain rfl : r = m := by omega
      have hrl' : ¬ (r : Int) < (r : Int) := by omega
      have hZw : Wf q Z := by rw [hst.out.1, hst.out.2.1]; exact refI_wf H.out.1 H'.out.1 r (Nat.le_refl _)
      obtain ⟨av, capv, hve, hLv⟩ := hown.lst hZw
      cases hve
      have HLv := Lib.hid hLv
      have Hbe := Lib.hid (show refB len X r xs = okP q Z by rw [hst.out.1, hst.out.2.1]; exact refB_fin hst.out.2.2.1)
      clear hown hbel hLv hZw
      obtain ⟨c, hc⟩ : ∃ c, okP q Z = c := ⟨_, rfl⟩
      have Hz := Lib.hid hc
      have Hb := Lib.hid (Hbe.out.trans hc)
      clear hc
      cases c
      · have Hbn := Lib.hid (refN_no Hb.out)
        go_wp2_with fail
        refine (specTab _ _ _ Z _ hq HLv.out).mono ?_
        rintro e w5 ⟨rfl, n5, hw5⟩
        rw [Hz.out]
        have hb5 : Below w.heap.size w w5 := by rw [hw5]; exact below_drewN Hr.out.2 n5
        have H8 := Lib.hid (show OwnQ w.heap.size (w5.alloc (.cells #[] 32)) (.slice (some ⟨w5.heap.size, 0, none⟩) 0 0) 0 (refX len X r xs) ∧ Below w.heap.size w (w5.alloc (.cells #[] 32)) from ⟨(OwnQ.mono (litP w5) hb5.size).zero, hb5.alloc hb5.size _⟩)
        clear hb5 hw5
        go_wp2_with fail
        go_ret2
        exact ⟨_, by rw [Hb.out]; rfl, by rw [Hbn.out]; exact H8.out.1, H8.out.2⟩
      · have Hbn := Lib.hid (show refN len X r xs = q by rw [refN_yes Hb.out]; exact hst.out.1.symm)
        have Hbx := Lib.hid (show refX len X r xs = Z from hst.out.2.1.symm)
        go_wp2_with fail
        refine (specTab _ _ _ Z _ hq HLv.out).mono ?_
        rintro e w5 ⟨rfl, n5, hw5⟩
        rw [Hz.out]
        have H5 := Lib.hid (show OwnQ w.heap.size w5 (.slice (some ⟨g, 0, none⟩) q cp) q Z ∧ Below w.heap.size w w5 from by rw [hw5]; exact ⟨Hr.out.1, below_drewN Hr.out.2 n5⟩)
        clear hw5
        go_wp2_with fail
        go_ret2
        exact ⟨_, by rw [Hb.out]; rfl, by rw [Hbn.out, Hbx.out]; exact H5.out.1, H5.out.2⟩
end Go.Proofs.Ytbmojogohffhaaa.Pnt
