/- Refine in the program. -/
import Derived.Test.YtbmojogohffhaaaRefP
namespace Go.Proofs.Ytbmojogohffhaaa.Pnt
open Go.ChangeShapes Go.WideShapes Go.ChangeAt Go.RowKit Go.Deep Go.Proofs.Ytbmojogohffhaaa Go.Proofs.Ytbmojogohffhaaa.Flt Go.Proofs.Ytbmojogohffhaaa.Mth Go.Proofs.Ytbmojogohffhaaa.Sgl
open Ieee (single double)
set_option linter.unusedVariables false
/-- what Refine gives -/
def RefOut (n : Nat) (X : Nat → Nat) (m : Nat) (xs : Nat → Nat) (w : World) (e : Ending) (w' : World) : Prop :=
  ∃ v, e = .returned (.tuple #[v, .bool (refB n X m xs)]) ∧ OwnQ w.heap.size w' v (refN n X m xs) (refX n X m xs) ∧ Below w.heap.size w w'
set_option maxRecDepth 100000 in
set_option maxHeartbeats 3200000 in
theorem implRef (a : Option Addr) (len cap : Nat) (X : Nat → Nat) (a' : Option Addr) (m cap' : Nat) (xs : Nat → Nat) (w : World) (hl : len ≤ 1048576) (hm : m ≤ 1048576) (h : Lst w a len X) (h' : LstF w a' m xs) :
    Calls Try.prog 21 #[.slice a len cap, .slice a' m cap'] w (RefOut len X m xs w) := by
  have H := Lib.hid h
  have H' := Lib.hid h'
  clear h h'
  cases hok : okP len X
  · have Hb := Lib.hid (refB_tab (m := m) (xs := xs) hok)
    have Hbn := Lib.hid (refN_no Hb.out)
    have Hok := Lib.hid hok
    clear hok
    go_enter Try.func21, Try.ntmps21
    go_wp2_with fail
    refine (implTab _ _ _ X _ hl H.out).mono ?_
    rintro e w1 ⟨rfl, hb1⟩
    rw [Hok.out]
    have H1 := Lib.hid hb1
    clear hb1
    go_wp2_with fail
    go_ret2
    exact ⟨_, by rw [Hb.out]; rfl, by rw [Hbn.out]; exact nilQ _ _ _, H1.out⟩
  · have hb12 := okP_bounds hok
    have Hok := Lib.hid hok
    obtain ⟨b, off, rfl, hlt, hcells⟩ := H.out.cells (by omega)
    have Hc := Lib.hid hcells
    have hmk := make_any len hl
    clear hcells hok
    go_enter Try.func21, Try.ntmps21
    go_wp2_with fail
    refine (implTab _ _ _ X _ hl H.out).mono ?_
    rintro e w1 ⟨rfl, hb1⟩
    rw [Hok.out]
    have hs1 := hb1.size
    have hFull := Full.made len w1
    have hb2 := hb1.alloc hs1 (.cells (madeCells #[.float .f32 0, .float .f32 0] (len * 2)) 32)
    have hb12' := (Below.refl w1.heap.size w1).alloc (Nat.le_refl _) (.cells (madeCells #[.float .f32 0, .float .f32 0] (len * 2)) 32)
    obtain ⟨w2, hw2⟩ : ∃ w2, w1.alloc (.cells (madeCells #[.float .f32 0, .float .f32 0] (len * 2)) 32) = w2 := ⟨_, rfl⟩
    have hsz2 : w2.heap.size = w1.heap.size + 1 := by rw [← hw2]; exact sz_alloc _ _
    rw [hw2] at hFull hb2 hb12'
    have hc2 := Hc.out.keep hlt hb2
    obtain ⟨w3, kcopy, hF3, hb3⟩ := copyQ_run (w := w2) (w0 := w1) (g := w1.heap.size) (m := len) (off := 0) (k := len) (dLen := len) (dCap := len) (sLen := len) (sCap := cap) (B := w1.heap.size) (ad := ⟨b, off, none⟩) (Y := X) hFull (by show len = min len len; omega)
      (fun j hj => by
        rw [addr_add]
        obtain ⟨c0, c1⟩ := hc2 (j / 2) (by omega)
        rcases Nat.mod_two_eq_zero_or_one j with e | e
        · rw [show off + j / 2 * 2 = off + j by omega, show j / 2 * 2 = j by omega] at c0; exact c0
        · rw [show off + j / 2 * 2 + 1 = off + j by omega, show j / 2 * 2 + 1 = j by omega] at c1; exact c1) (by omega) hb12' (Nat.le_refl _)
    have hown3 : OwnQ w.heap.size w3 (.slice (some ⟨w1.heap.size, 0, none⟩) len len) len X := OwnQ.congr (hF3.own hs1 hl) (fun j hj => by rw [spl_eq, if_pos (by omega)]; rfl)
    have H3 := Lib.hid (And.intro hown3 (hb1.trans (hb3.mono hs1)))
    clear hFull hb2 hb12' hc2 hF3 hb3 hown3 hb1
    go_wp2_with fail
    go_loopw [6, 22] (fun v iv wr => ∃ (r q g cp : Nat) (Z : Nat → Nat), v = .slice (some ⟨g, 0, none⟩) q cp ∧ iv = .int .i64 (r : Int) ∧ r ≤ m ∧ 1 ≤ q ∧ Hid (q = (refI len X xs r).1 ∧ Z = (refI len X xs r).2 ∧ ∀ i, i < r → segIn len X (xs i) = true) ∧ q ≤ 33 ∧ OwnQ w.heap.size wr v q Z ∧ Below w.heap.size w wr)
      (fun _ iv _ => m - (intOf iv).toNat)
    case atStart => exact ⟨0, len, w1.heap.size, len, X, rfl, rfl, Nat.zero_le _, by omega, Lib.hid ⟨rfl, rfl, fun i hi => absurd hi (Nat.not_lt_zero _)⟩, by omega, H3.out.1, H3.out.2⟩
    case round =>
      obtain ⟨r, q, g, cp, Z, rfl, rfl, hr, hq1, hst, hq33, hown, hbel⟩ := hrel
      have Hr := Lib.hid (And.intro hown hbel)
      have hsz := hbel.size
      by_cases hrl : r < m
      · have hrl' : (r : Int) < (m : Int) := by omega
        obtain ⟨hwf, h0 | ⟨b', off', rfl, hlt', hcx⟩⟩ := H'.out
        · omega
        have a0 := (hcx.keep hlt' hbel) r hrl
        have wx := hwf r hrl
        obtain ⟨x, hx⟩ : ∃ x, xs r = x := ⟨_, rfl⟩
        rw [hx] at a0 wx
        have Hx := Lib.hid hx
        have HL := Lib.hid (H.out.keep hbel)
        clear hown hbel hwf hcx
        cases hin : segIn len X x
        · have Hb := Lib.hid (refB_seg (n := len) (X := X) (xs := xs) hrl (by rw [hx]; exact hin))
          have Hbn := Lib.hid (refN_no Hb.out)
          have Hin := Lib.hid hin
          clear hin hx
          go_wp2_with fail
          refine (implItp _ _ _ X x _ hl HL.out).mono ?_
          rintro e w5 ⟨rfl, hb5⟩
          rw [Hin.out]
          have H5 := Lib.hid (Hr.out.2.trans (hb5.mono hsz))
          clear hb5
          go_wp2_with fail
          go_ret2
          exact ⟨_, by rw [Hb.out]; rfl, by rw [Hbn.out]; exact nilQ _ _ _, H5.out⟩
        · have Hin := Lib.hid hin
          obtain ⟨y, hy⟩ : ∃ y, ipV len X x = y := ⟨_, rfl⟩
          have Hy := Lib.hid hy
          clear hin hx hy
          by_cases hq32 : 32 < q
          · have hq32' : (32 : Int) < (q : Int) := by omega
            have Hb := Lib.hid (refB_long (n := len) (X := X) (xs := xs) (m := m) (k := r) (by omega) (by rw [← hst.out.1]; exact hq32))
            have Hbn := Lib.hid (refN_no Hb.out)
            go_wp2_with fail
            refine (implItp _ _ _ X x _ hl HL.out).mono ?_
            rintro e w5 ⟨rfl, hb5⟩
            rw [Hin.out, Hy.out]
            have H5 := Lib.hid (Hr.out.2.trans (hb5.mono hsz))
            clear hb5
            go_wp2_with fail
            go_ret2
            exact ⟨_, by rw [Hb.out]; rfl, by rw [Hbn.out]; exact nilQ _ _ _, H5.out⟩
          · have hq32' : ¬ (32 : Int) < (q : Int) := by omega
            have Hnext := Lib.hid (show insN q Z x = (refI len X xs (r + 1)).1 ∧ insX q Z x y = (refI len X xs (r + 1)).2 ∧ ∀ i, i < r + 1 → segIn len X (xs i) = true from by
              refine ⟨?_, ?_, fun i hi => ?_⟩
              · rw [hst.out.1, hst.out.2.1, ← Hx.out]; rfl
              · rw [hst.out.1, hst.out.2.1, ← Hy.out, ← Hx.out]; rfl
              · by_cases e : i = r
                · rw [e, Hx.out]; exact Hin.out
                · exact hst.out.2.2 i (by omega))
            have hin1 := insN_ge q Z x
            go_wp2_with fail
            refine (implItp _ _ _ X x _ hl HL.out).mono ?_
            rintro e w5 ⟨rfl, hb5⟩
            rw [Hin.out, Hy.out]
            have hb5' := Hr.out.2.trans (hb5.mono hsz)
            have hsz5 := hb5'.size
            have H5 := Lib.hid (And.intro (show OwnQ w.heap.size w5 (.slice (some ⟨g, 0, none⟩) q cp) q Z from own_below Hr.out.1 (Nat.le_refl _) hb5) hb5')
            clear hb5 hb5'
            go_wp2_with fail
            refine (with_any w.heap.size g q cp Z x y _ hq1 (by omega) hsz5 H5.out.1).mono ?_
            rintro e w6 ⟨g6, cp6, rfl, hown6, hb6⟩
            have H6 := Lib.hid (And.intro hown6 (H5.out.2.trans (hb6.mono hsz5)))
            obtain ⟨q6, hq6⟩ : ∃ q6, insN q Z x = q6 := ⟨_, rfl⟩
            rw [hq6] at H6 Hnext hin1 ⊢
            clear hown6 hb6 hq6
            go_wp2_with fail
            go_roundw
            case rel => exact ⟨r + 1, q6, g6, cp6, _, rfl, by go_num, hrl, by omega, Lib.hid Hnext.out, by omega, H6.out.1, H6.out.2⟩
            case measure => simp [intOf]; omega
      · obtain rfl : r = m := by omega
        have hrl' : ¬ (r : Int) < (r : Int) := by omega
        have hZw : Wf q Z := by rw [hst.out.1, hst.out.2.1]; exact refI_wf H.out.1 H'.out.1 r (Nat.le_refl _)
        obtain ⟨av, capv, hve, hLv⟩ := hown.lst hZw
        cases hve
        have HLv := Lib.hid hLv
        have Hbe := Lib.hid (show refB len X r xs = okP q Z by rw [hst.out.1, hst.out.2.1]; exact refB_end Hok.out hst.out.2.2)
        clear hown hbel hLv hZw
        obtain ⟨c, hc⟩ : ∃ c, okP q Z = c := ⟨_, rfl⟩
        have Hz := Lib.hid hc
        have Hb := Lib.hid (Hbe.out.trans hc)
        clear hc
        cases c
        · have Hbn := Lib.hid (refN_no Hb.out)
          go_wp2_with fail
          refine (implTab _ _ _ Z _ (by omega) HLv.out).mono ?_
          rintro e w5 ⟨rfl, hb5⟩
          rw [Hz.out]
          have H5 := Lib.hid (Hr.out.2.trans (hb5.mono hsz))
          clear hb5
          go_wp2_with fail
          go_ret2
          exact ⟨_, by rw [Hb.out]; rfl, by rw [Hbn.out]; exact nilQ _ _ _, H5.out⟩
        · have Hbn := Lib.hid (show refN len X r xs = q by rw [refN_yes Hb.out]; exact hst.out.1.symm)
          have Hbx := Lib.hid (show refX len X r xs = Z from hst.out.2.1.symm)
          go_wp2_with fail
          refine (implTab _ _ _ Z _ (by omega) HLv.out).mono ?_
          rintro e w5 ⟨rfl, hb5⟩
          rw [Hz.out]
          have H5 := Lib.hid (And.intro (show OwnQ w.heap.size w5 (.slice (some ⟨g, 0, none⟩) q cp) q Z from own_below Hr.out.1 (Nat.le_refl _) hb5) (Hr.out.2.trans (hb5.mono hsz)))
          clear hb5
          go_wp2_with fail
          go_ret2
          exact ⟨_, by rw [Hb.out]; rfl, by rw [Hbn.out, Hbx.out]; exact H5.out.1, H5.out.2⟩
end Go.Proofs.Ytbmojogohffhaaa.Pnt
