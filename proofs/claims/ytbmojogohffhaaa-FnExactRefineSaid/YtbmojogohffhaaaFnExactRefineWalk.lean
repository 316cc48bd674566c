/- The walk of FnExactRefine: it returns true. -/
import Derived.Test.YtbmojogohffhaaaRows
import Derived.Test.YtbmojogohffhaaaPtsT
import Derived.Test.YtbmojogohffhaaaRefS
namespace Go.Proofs.Ytbmojogohffhaaa.fnExactRefine
open Go.ChangeShapes Go.WideShapes Go.ChangeAt Go.RowKit Go.Deep Go.Proofs.Ytbmojogohffhaaa Go.Proofs.Ytbmojogohffhaaa.Flt Go.Proofs.Ytbmojogohffhaaa.Mth Go.Proofs.Ytbmojogohffhaaa.Pnt Go.Proofs.Ytbmojogohffhaaa.Sgl
set_option linter.unusedVariables false
set_option maxHeartbeats 1600000 in
theorem walk (a : Option Addr) (len cap : Nat) (X : Nat → Nat) (a' : Option Addr) (m cap' : Nat) (Y : Nat → Nat) (w : World) (hm : len ≤ maxLen) (h : Lst w a len X) (hm' : m ≤ maxLen) (h' : LstF w a' m Y) :
    Calls Try.prog 10 #[.slice a len cap, .slice a' m cap'] w fun x w' => x = .returned (.bool true) ∧ Below w.heap.size w w' := by
  have H := Lib.hid h
  have H' := Lib.hid h'
  unfold maxLen at hm hm'
  have hleN := refN_le len X m Y
  have hwfN := refN_wf H.out.1 H'.out.1
  have Hwf := Lib.hid hwfN
  clear h h' hwfN
  by_cases hl2 : m ≤ 1048576
  · have hg2 : ¬ (1048576 : Int) < (m : Int) := by omega
    by_cases hl : len ≤ 1048576
    · go_enter Try.func10, Try.ntmps10
      go_wp2_with fail
      refine (sz_any _ _ _ _ _ (Nat.le_refl _) hl).mono ?_
      rintro e w ⟨rfl, rfl⟩
      have hge : ¬ (((1048576 - len : Nat) : Int) < 0) := by omega
      clear hg2
      go_wp2_with fail
      refine (toP_any _ _ _ X _ hl H.out).mono ?_
      rintro e w1 ⟨rfl, hb1, hL1, _⟩
      have s1 := hb1.size
      have H1 := Lib.hid (And.intro hb1 hL1)
      clear hb1 hL1 hge
      go_wp2_with fail
      refine (toFL_any _ _ _ Y _ hl2 (H'.out.keep H1.out.1)).mono ?_
      rintro e w2 ⟨rfl, hb2, hL2, _⟩
      have s2 := hb2.size
      have H2 := Lib.hid (And.intro (H1.out.1.trans (hb2.mono s1)) (And.intro (H1.out.2.keep hb2) hL2))
      clear hb2 hL2
      go_wp2_with fail
      refine (specRef _ _ _ X _ _ _ Y _ hl hl2 H2.out.2.1 H2.out.2.2).mono ?_
      rintro e w3 ⟨v0, rfl, hv0, hb3⟩
      have s3 := hb3.size
      have H3 := Lib.hid (And.intro (OwnT.of hv0) (H2.out.1.trans (hb3.mono H2.out.1.size)))
      clear hv0 hb3
      go_wp2_with fail
      -- x0
      refine (toP_any _ _ _ X _ hl (H.out.keep H3.out.2)).mono ?_
      rintro e w4 ⟨rfl, hb4, hL4, f4, hr4⟩
      have s4 := hb4.size
      have s4' := hr4.lt
      have H4 := Lib.hid (And.intro (H3.out.1.below (Nat.le_refl _) hb4) (And.intro (H3.out.2.trans (hb4.mono H3.out.2.size)) (And.intro hL4 hr4)))
      clear hb4 hL4 hr4
      go_wp2_with fail
      -- x1
      refine (toFL_any _ _ _ Y _ hl2 (H'.out.keep H4.out.2.1)).mono ?_
      rintro e w5 ⟨rfl, hb5, hL5, hr5⟩
      have s5 := hb5.size
      have s5' := hr5.lt
      have H5 := Lib.hid (And.intro (H4.out.1.below s4 hb5) (And.intro (H4.out.2.1.trans (hb5.mono H4.out.2.1.size)) (And.intro (H4.out.2.2.1.keep hb5) (And.intro (H4.out.2.2.2.of_block (hb5.block _ s4')) (And.intro hL5 hr5)))))
      clear hb5 hL5 hr5
      go_wp2_with fail
      -- g0
      refine (implRef _ _ _ X _ _ _ Y _ hl hl2 H5.out.2.2.1 H5.out.2.2.2.2.1).mono ?_
      rintro e w6 ⟨v1, rfl, hv1, hb6⟩
      have s6 := hb6.size
      have H6 := Lib.hid (And.intro (H5.out.1.below (by omega) hb6) (And.intro (H5.out.2.1.trans (hb6.mono H5.out.2.1.size)) (And.intro (H5.out.2.2.1.keep hb6) (And.intro (H5.out.2.2.2.1.of_block (hb6.block _ (by omega))) (And.intro (H5.out.2.2.2.2.1.keep hb6) (And.intro (H5.out.2.2.2.2.2.of_block (hb6.block _ s5')) (OwnT.of hv1)))))))
      clear hv1 hb6
      go_wp2_with fail
      refine (eqQ_any _ H6.out.2.2.2.2.2.2.1 H6.out.1.1 Hwf.out (by omega)).mono ?_
      rintro e w7 ⟨rfl, hb7⟩
      have s7 := hb7.size
      have H7 := Lib.hid (And.intro (H6.out.1.below (by omega) hb7) (And.intro (H6.out.2.1.trans (hb7.mono H6.out.2.1.size)) (And.intro (H6.out.2.2.1.keep hb7) (And.intro (H6.out.2.2.2.1.of_block (hb7.block _ (by omega))) (And.intro (H6.out.2.2.2.2.1.keep hb7) (And.intro (H6.out.2.2.2.2.2.1.of_block (hb7.block _ (by omega))) (H6.out.2.2.2.2.2.2.below (Nat.le_refl _) hb7)))))))
      clear hb7
      go_wp2_with fail
      -- the table is as it was
      refine (toP_any _ _ _ X _ hl (H.out.keep H7.out.2.1)).mono ?_
      rintro e w8 ⟨rfl, hb8, hL8, _⟩
      have s8 := hb8.size
      have H8 := Lib.hid (And.intro (And.intro (H7.out.1.below (by omega) hb8) (And.intro (H7.out.2.1.trans (hb8.mono H7.out.2.1.size)) (And.intro (H7.out.2.2.1.keep hb8) (And.intro (H7.out.2.2.2.1.of_block (hb8.block _ (by omega))) (And.intro (H7.out.2.2.2.2.1.keep hb8) (And.intro (H7.out.2.2.2.2.2.1.of_block (hb8.block _ (by omega))) (H7.out.2.2.2.2.2.2.below s7 hb8))))))) hL8)
      clear hb8 hL8
      go_wp2_with fail
      refine (eqP_any _ _ _ _ _ X _ hl H8.out.1.2.2.1 H8.out.2).mono ?_
      rintro e w9 ⟨rfl, hb9⟩
      have s9 := hb9.size
      have H9 := Lib.hid (And.intro (H8.out.1.1.below (by omega) hb9) (And.intro (H8.out.1.2.1.trans (hb9.mono H8.out.1.2.1.size)) (And.intro (H8.out.1.2.2.2.1.of_block (hb9.block _ (by omega))) (And.intro (H8.out.1.2.2.2.2.1.keep hb9) (And.intro (H8.out.1.2.2.2.2.2.1.of_block (hb9.block _ (by omega))) (H8.out.1.2.2.2.2.2.2.below (by omega) hb9))))))
      clear hb9
      go_wp2_with fail
      -- the readings are as they were
      refine (toFL_any _ _ _ Y _ hl2 (H'.out.keep H9.out.2.1)).mono ?_
      rintro e w10 ⟨rfl, hb10, hL10, _⟩
      have s10 := hb10.size
      have H10 := Lib.hid (And.intro (And.intro (H9.out.1.below (by omega) hb10) (And.intro (H9.out.2.1.trans (hb10.mono H9.out.2.1.size)) (And.intro (H9.out.2.2.1.of_block (hb10.block _ (by omega))) (And.intro (H9.out.2.2.2.1.keep hb10) (And.intro (H9.out.2.2.2.2.1.of_block (hb10.block _ (by omega))) (H9.out.2.2.2.2.2.below (by omega) hb10)))))) hL10)
      clear hb10 hL10
      go_wp2_with fail
      refine (eqFL_any _ _ _ _ _ Y _ hl2 H10.out.1.2.2.2.1 H10.out.2).mono ?_
      rintro e w11 ⟨rfl, hb11⟩
      have s11 := hb11.size
      have H11 := Lib.hid (And.intro (H10.out.1.1.below (by omega) hb11) (And.intro (H10.out.1.2.1.trans (hb11.mono H10.out.1.2.1.size)) (And.intro (H10.out.1.2.2.1.of_block (hb11.block _ (by omega))) (And.intro (H10.out.1.2.2.2.2.1.of_block (hb11.block _ (by omega))) (H10.out.1.2.2.2.2.2.below (by omega) hb11)))))
      clear hb11
      go_wp2_with fail
      -- the marks on the arguments
      refine (markP_any _ len _ 1 _ _ hl (by omega) H11.out.2.2.1).mono ?_
      rintro e w12 ⟨rfl, ho12⟩
      have s12 := ho12.size
      have s3' := H3.out.2.size
      have H12 := Lib.hid (And.intro (H11.out.1.only (by omega) (.inr (Nat.le_refl _)) ho12) (And.intro (H11.out.2.1.trans (ho12.below s3' H11.out.2.1.size)) (And.intro (H11.out.2.2.2.1.of_block (ho12.block _ (by omega) (by omega))) (H11.out.2.2.2.2.only (by omega) (.inl (by omega)) ho12))))
      clear ho12
      go_wp2_with fail
      refine (markF_any _ m _ (1 + 2 * len) _ _ hl2 (by omega) H12.out.2.2.1).mono ?_
      rintro e w13 ⟨rfl, ho13⟩
      have s13 := ho13.size
      have H13 := Lib.hid (And.intro (H12.out.1.only (by omega) (.inr s4) ho13) (And.intro (H12.out.2.1.trans (ho13.below (by omega) H12.out.2.1.size)) (H12.out.2.2.2.only (by omega) (.inl s5') ho13)))
      clear ho13
      have hk13 : ¬ (((1 + 2 * len + m : Nat) : Int) < 0) := by omega
      go_wp2_with fail
      refine (eqQ_any _ H13.out.2.2.1 H13.out.1.1 Hwf.out (by omega)).mono ?_
      rintro e w14 ⟨rfl, hb14⟩
      have s14 := hb14.size
      have H14 := Lib.hid (And.intro (H13.out.1.below (by omega) hb14) (And.intro (H13.out.2.1.trans (hb14.mono H13.out.2.1.size)) (H13.out.2.2.below (by omega) hb14)))
      clear hb14 hk13
      go_wp2_with fail
      refine (markQ_any (base := w5.heap.size) _ (by omega) H14.out.2.2.1 (by omega)).mono ?_
      rintro e w15 ⟨rfl, hv15, hb15⟩
      have s15 := hb15.size
      have H15 := Lib.hid (And.intro (H14.out.1.below (by omega) hb15) (And.intro (H14.out.2.1.trans (hb15.mono (by omega))) (show OwnT w5.heap.size w6.heap.size w15 v1 (refN len X m Y) mkF from ⟨hv15, H14.out.2.2.2⟩)))
      clear hv15 hb15
      go_wp2_with fail
      refine (heldQ_any _ H15.out.2.2.1 (by omega)).mono ?_
      rintro e w16 ⟨rfl, hb16⟩
      have s16 := hb16.size
      have H16 := Lib.hid (And.intro (H15.out.1.below (by omega) hb16) (And.intro (H15.out.2.1.trans (hb16.mono H15.out.2.1.size)) (H15.out.2.2.below (by omega) hb16)))
      clear hb16
      have hk16 : ¬ (((2 * refN len X m Y + 1 : Nat) : Int) < 0) := by omega
      go_wp2_with fail
      -- the second call
      refine (toP_any _ _ _ X _ hl (H.out.keep H16.out.2.1)).mono ?_
      rintro e w17 ⟨rfl, hb17, hL17, _⟩
      have s17 := hb17.size
      have H17 := Lib.hid (And.intro (And.intro (H16.out.1.below (by omega) hb17) (And.intro (H16.out.2.1.trans (hb17.mono H16.out.2.1.size)) (H16.out.2.2.below (by omega) hb17))) hL17)
      clear hb17 hL17
      go_wp2_with fail
      refine (toFL_any _ _ _ Y _ hl2 (H'.out.keep H17.out.1.2.1)).mono ?_
      rintro e w18 ⟨rfl, hb18, hL18, _⟩
      have s18 := hb18.size
      have H18 := Lib.hid (And.intro (And.intro (H17.out.1.1.below (by omega) hb18) (And.intro (H17.out.1.2.1.trans (hb18.mono H17.out.1.2.1.size)) (H17.out.1.2.2.below (by omega) hb18))) (And.intro (H17.out.2.keep hb18) hL18))
      clear hb18 hL18
      go_wp2_with fail
      refine (implRef _ _ _ X _ _ _ Y _ hl hl2 H18.out.2.1 H18.out.2.2).mono ?_
      rintro e w19 ⟨v2, rfl, hv2, hb19⟩
      have s19 := hb19.size
      have H19 := Lib.hid (And.intro (H18.out.1.1.below (by omega) hb19) (And.intro (H18.out.1.2.1.trans (hb19.mono H18.out.1.2.1.size)) (And.intro (H18.out.1.2.2.below (by omega) hb19) hv2)))
      clear hv2 hb19
      go_wp2_with fail
      refine (eqQ_any _ H19.out.2.2.2 H19.out.1.1 Hwf.out (by omega)).mono ?_
      rintro e w20 ⟨rfl, hb20⟩
      have s20 := hb20.size
      have H20 := Lib.hid (And.intro (H19.out.2.1.trans (hb20.mono H19.out.2.1.size)) (H19.out.2.2.1.below (by omega) hb20))
      clear hb20
      go_wp2_with fail
      refine (heldQ_any _ H20.out.2.1 (by omega)).mono ?_
      rintro e w21 ⟨rfl, hb21⟩
      have H21 := Lib.hid (H20.out.1.trans (hb21.mono H20.out.1.size))
      clear hb21
      go_wp2_with fail
      go_ret
      exact ⟨rfl, H21.out⟩
    · go_enter Try.func10, Try.ntmps10
      go_wp2_with fail
      refine (sz_big _ _ _ _ _ (by omega) (Nat.le_refl _) (by omega)).mono ?_
      rintro e w ⟨rfl, rfl⟩
      go_wp2_with fail
      go_ret
      exact ⟨rfl, Below.refl _ _⟩
  · have hg2 : (1048576 : Int) < (m : Int) := by omega
    go_enter Try.func10, Try.ntmps10
    go_wp2_with fail
    go_ret
    exact ⟨rfl, Below.refl _ _⟩
end Go.Proofs.Ytbmojogohffhaaa.fnExactRefine
