/- The walk of FnExactMirrorTable: it returns true. -/
import Derived.Test.YtbmojogohffhaaaRows
import Derived.Test.YtbmojogohffhaaaPtsT
import Derived.Test.YtbmojogohffhaaaMirI
namespace Go.Proofs.Ytbmojogohffhaaa.fnExactMirrorTable
open Go.ChangeShapes Go.WideShapes Go.ChangeAt Go.RowKit Go.Deep Go.Proofs.Ytbmojogohffhaaa Go.Proofs.Ytbmojogohffhaaa.Flt Go.Proofs.Ytbmojogohffhaaa.Mth Go.Proofs.Ytbmojogohffhaaa.Pnt
set_option linter.unusedVariables false
set_option maxHeartbeats 1600000 in
theorem walk (a : Option Addr) (len cap : Nat) (X : Nat → Nat) (w : World) (hm : len ≤ maxLen) (h : Lst w a len X) :
    Calls Try.prog 13 #[.slice a len cap] w fun x w' => x = .returned (.bool true) ∧ Below w.heap.size w w' := by
  have H := Lib.hid h
  unfold maxLen at hm
  have hwfN := mirN_wf H.out.1
  have hleN := mirN_le len X
  have Hwf := Lib.hid hwfN
  clear h hwfN
  by_cases hl : len ≤ 1048576
  · go_enter Try.func13, Try.ntmps13
    go_wp2_with fail
    refine (sz_any _ _ _ _ _ (Nat.le_refl _) hl).mono ?_
    rintro e w ⟨rfl, rfl⟩
    have hge : ¬ (((1048576 - len : Nat) : Int) < 0) := by omega
    go_wp2_with fail
    refine (toP_any _ _ _ X _ hl H.out).mono ?_
    rintro e w1 ⟨rfl, hb1, hL1, _⟩
    have s1 := hb1.size
    have H1 := Lib.hid (And.intro hb1 hL1)
    clear hb1 hL1 hge
    go_wp2_with fail
    refine (specMir _ _ _ X _ hl H1.out.2).mono ?_
    rintro e w2 ⟨v0, rfl, hv0, hb2⟩
    have s2 := hb2.size
    have H2 := Lib.hid (And.intro (OwnT.of hv0) (H1.out.1.trans (hb2.mono s1)))
    clear hv0 hb2
    go_wp2_with fail
    refine (toP_any _ _ _ X _ hl (H.out.keep H2.out.2)).mono ?_
    rintro e w3 ⟨rfl, hb3, hL3, f3, hr3⟩
    have s3 := hb3.size
    have s3' := hr3.lt
    have H3 := Lib.hid (And.intro (H2.out.1.below (Nat.le_refl _) hb3) (And.intro (H2.out.2.trans (hb3.mono H2.out.2.size)) (And.intro hL3 hr3)))
    clear hb3 hL3 hr3
    go_wp2_with fail
    refine (implMir _ _ _ X _ hl H3.out.2.2.1).mono ?_
    rintro e w4 ⟨v1, rfl, hv1, hb4⟩
    have s4 := hb4.size
    have H4 := Lib.hid (And.intro (H3.out.1.below s3 hb4) (And.intro (H3.out.2.1.trans (hb4.mono H3.out.2.1.size)) (And.intro (H3.out.2.2.1.keep hb4) (And.intro (H3.out.2.2.2.of_block (hb4.block _ s3')) (OwnT.of hv1)))))
    clear hv1 hb4
    go_wp2_with fail
    refine (eqQ_any _ H4.out.2.2.2.2.1 H4.out.1.1 Hwf.out (by omega)).mono ?_
    rintro e w5 ⟨rfl, hb5⟩
    have s5 := hb5.size
    have H5 := Lib.hid (And.intro (H4.out.1.below (by omega) hb5) (And.intro (H4.out.2.1.trans (hb5.mono H4.out.2.1.size)) (And.intro (H4.out.2.2.1.keep hb5) (And.intro (H4.out.2.2.2.1.of_block (hb5.block _ (by omega))) (H4.out.2.2.2.2.below (Nat.le_refl _) hb5)))))
    clear hb5
    go_wp2_with fail
    refine (toP_any _ _ _ X _ hl (H.out.keep H5.out.2.1)).mono ?_
    rintro e w6 ⟨rfl, hb6, hL6, _⟩
    have s6 := hb6.size
    have H6 := Lib.hid (And.intro (And.intro (H5.out.1.below (by omega) hb6) (And.intro (H5.out.2.1.trans (hb6.mono H5.out.2.1.size)) (And.intro (H5.out.2.2.1.keep hb6) (And.intro (H5.out.2.2.2.1.of_block (hb6.block _ (by omega))) (H5.out.2.2.2.2.below (by omega) hb6))))) hL6)
    clear hb6 hL6
    go_wp2_with fail
    refine (eqP_any _ _ _ _ _ X _ hl H6.out.1.2.2.1 H6.out.2).mono ?_
    rintro e w7 ⟨rfl, hb7⟩
    have s7 := hb7.size
    have H7 := Lib.hid (And.intro (H6.out.1.1.below (by omega) hb7) (And.intro (H6.out.1.2.1.trans (hb7.mono H6.out.1.2.1.size)) (And.intro (H6.out.1.2.2.2.1.of_block (hb7.block _ (by omega))) (H6.out.1.2.2.2.2.below (by omega) hb7))))
    clear hb7
    go_wp2_with fail
    refine (markP_any _ len _ 1 _ _ hl (by omega) H7.out.2.2.1).mono ?_
    rintro e w8 ⟨rfl, ho8⟩
    have s8 := ho8.size
    have H8 := Lib.hid (And.intro (H7.out.1.only (by omega) (.inr (Nat.le_refl _)) ho8) (And.intro (H7.out.2.1.trans (ho8.below (by omega) H7.out.2.1.size)) (H7.out.2.2.2.only (by omega) (.inl s3') ho8)))
    clear ho8
    have hk8 : ¬ (((1 + 2 * len : Nat) : Int) < 0) := by omega
    go_wp2_with fail
    refine (eqQ_any _ H8.out.2.2.1 H8.out.1.1 Hwf.out (by omega)).mono ?_
    rintro e w9 ⟨rfl, hb9⟩
    have s9 := hb9.size
    have H9 := Lib.hid (And.intro (H8.out.1.below (by omega) hb9) (And.intro (H8.out.2.1.trans (hb9.mono H8.out.2.1.size)) (H8.out.2.2.below (by omega) hb9)))
    clear hb9 hk8
    go_wp2_with fail
    refine (markQ_any (base := w3.heap.size) _ (by omega) H9.out.2.2.1 (by omega)).mono ?_
    rintro e w10 ⟨rfl, hv10, hb10⟩
    have s10 := hb10.size
    have H10 := Lib.hid (And.intro (H9.out.1.below (by omega) hb10) (And.intro (H9.out.2.1.trans (hb10.mono (by omega))) (show OwnT w3.heap.size w4.heap.size w10 v1 (mirN len X) mkF from ⟨hv10, H9.out.2.2.2⟩)))
    clear hv10 hb10
    go_wp2_with fail
    refine (heldQ_any _ H10.out.2.2.1 (by omega)).mono ?_
    rintro e w11 ⟨rfl, hb11⟩
    have s11 := hb11.size
    have H11 := Lib.hid (And.intro (H10.out.1.below (by omega) hb11) (And.intro (H10.out.2.1.trans (hb11.mono H10.out.2.1.size)) (H10.out.2.2.below (by omega) hb11)))
    clear hb11
    have hk11 : ¬ (((2 * (mirN len X) + 1 : Nat) : Int) < 0) := by omega
    go_wp2_with fail
    refine (toP_any _ _ _ X _ hl (H.out.keep H11.out.2.1)).mono ?_
    rintro e w12 ⟨rfl, hb12, hL12, _⟩
    have s12 := hb12.size
    have H12 := Lib.hid (And.intro (And.intro (H11.out.1.below (by omega) hb12) (And.intro (H11.out.2.1.trans (hb12.mono H11.out.2.1.size)) (H11.out.2.2.below (by omega) hb12))) hL12)
    clear hb12 hL12
    go_wp2_with fail
    refine (implMir _ _ _ X _ hl H12.out.2).mono ?_
    rintro e w13 ⟨v2, rfl, hv2, hb13⟩
    have s13 := hb13.size
    have H13 := Lib.hid (And.intro (H12.out.1.1.below (by omega) hb13) (And.intro (H12.out.1.2.1.trans (hb13.mono H12.out.1.2.1.size)) (And.intro (H12.out.1.2.2.below (by omega) hb13) hv2)))
    clear hv2 hb13
    go_wp2_with fail
    refine (eqQ_any _ H13.out.2.2.2 H13.out.1.1 Hwf.out (by omega)).mono ?_
    rintro e w14 ⟨rfl, hb14⟩
    have s14 := hb14.size
    have H14 := Lib.hid (And.intro (H13.out.2.1.trans (hb14.mono H13.out.2.1.size)) (H13.out.2.2.1.below (by omega) hb14))
    clear hb14
    go_wp2_with fail
    refine (heldQ_any _ H14.out.2.1 (by omega)).mono ?_
    rintro e w15 ⟨rfl, hb15⟩
    have H15 := Lib.hid (H14.out.1.trans (hb15.mono H14.out.1.size))
    clear hb15
    go_wp2_with fail
    go_ret
    exact ⟨rfl, H15.out⟩
  · go_enter Try.func13, Try.ntmps13
    go_wp2_with fail
    refine (sz_big _ _ _ _ _ (by omega) (Nat.le_refl _) (by omega)).mono ?_
    rintro e w ⟨rfl, rfl⟩
    go_wp2_with fail
    go_ret
    exact ⟨rfl, Below.refl _ _⟩
end Go.Proofs.Ytbmojogohffhaaa.fnExactMirrorTable
