/- The walk of FnExactMovingMeans: it returns true. -/
import Derived.Test.YtlbapogmcnpmeaaRows
import Derived.Test.YtlbapogmcnpmeaaAvgW
namespace Go.Proofs.Ytlbapogmcnpmeaa.fnExactMovingMeans
open Go.ChangeShapes Go.WideShapes Go.ChangeAt Go.RowKit Go.Deep Go.Proofs.Ytlbapogmcnpmeaa Go.Proofs.Ytlbapogmcnpmeaa.Flt Go.Proofs.Ytlbapogmcnpmeaa.Mth Go.Proofs.Ytlbapogmcnpmeaa.Sgl Go.Proofs.Ytlbapogmcnpmeaa.Avg
set_option linter.unusedVariables false
set_option maxHeartbeats 1600000 in
theorem walk (a : Option Addr) (len cap : Nat) (X : Nat → Nat) (wd : Int) (w : World) (hm : len ≤ maxLen) (h : LstF w a len X) (hwd : (Lit.int .i64 wd).wf = true) :
    Calls Try.prog 8 #[.slice a len cap, .int .i64 wd] w fun x w' => x = .returned (.bool true) ∧ Below w.heap.size w w' := by
  have H := Lib.hid h
  unfold maxLen at hm
  clear h
  by_cases hl : len ≤ 1048576
  · have hl' : (len : Int) ≤ 1048576 := by omega
    obtain ⟨N, hN⟩ : ∃ N, mvN len X wd = N := ⟨_, rfl⟩
    obtain ⟨ok, hok⟩ : ∃ ok, mvB len X wd = ok := ⟨_, rfl⟩
    obtain ⟨Z, hZ⟩ : ∃ Z, mvX X wd.toNat = Z := ⟨_, rfl⟩
    have hleN : N ≤ 1000 := by have := hN ▸ mvN_le len X wd; omega
    have HW := Lib.hid (show WfF N Z from hZ ▸ (mvX_wf _ X wd.toNat))
    have HS := Lib.hid (fun (i : Nat) (_ : i < N) => Sim.rfl' (Z i))
    have CS := Lib.hid (fun (W' : World) (a' : Option Addr) (hL : LstF W' a' len X) => spec_moving a' len len X wd W' hl (Nat.le_refl _) hL)
    have CI := Lib.hid (fun (W' : World) (a' : Option Addr) (hL : LstF W' a' len X) => impl_moving a' len len X wd W' hl (Nat.le_refl _) hL)
    rw [hN, hok, hZ] at CS CI
    clear hN hok hZ
    go_enter Try.func8, Try.ntmps8
    go_wp2_with fail
    refine (toFL_any _ _ _ X _ hl H.out).mono ?_
    rintro e w1 ⟨rfl, hb1, hL1, _⟩
    have s1 := hb1.size
    have H1 := Lib.hid (And.intro hb1 hL1)
    clear hb1 hL1
    go_wp2_with fail
    refine (CS.out _ _ H1.out.2).mono ?_
    rintro e w3 ⟨v0, rfl, hv0, hb3⟩
    have s3 := hb3.size
    have H3 := Lib.hid (And.intro (OwnU.of hv0) (H1.out.1.trans (hb3.mono H1.out.1.size)))
    clear hv0 hb3
    go_wp2_with fail
    -- x0
    refine (toFL_any _ _ _ X _ hl (H.out.keep H3.out.2)).mono ?_
    rintro e w4 ⟨rfl, hb4, hL4, hr4⟩
    have s4 := hb4.size
    have s4' := hr4.lt
    have H4 := Lib.hid (And.intro (H3.out.1.below (Nat.le_refl _) hb4) (And.intro (H3.out.2.trans (hb4.mono H3.out.2.size)) (And.intro hL4 hr4)))
    clear hb4 hL4 hr4
    go_wp2_with fail
    -- g0
    refine (CI.out _ _ H4.out.2.2.1).mono ?_
    rintro e w6 ⟨v1, rfl, hv1, hb6⟩
    have s6 := hb6.size
    have H6 := Lib.hid (And.intro (H4.out.1.below s4 hb6) (And.intro (H4.out.2.1.trans (hb6.mono H4.out.2.1.size)) (And.intro (H4.out.2.2.1.keep hb6) (And.intro (H4.out.2.2.2.of_block (hb6.block _ (by omega))) (OwnU.of hv1)))))
    clear hv1 hb6
    go_wp2_with fail
    refine (eqFF_any _ H6.out.2.2.2.2.1 H6.out.1.1 HW.out HW.out HS.out (by omega)).mono ?_
    rintro e w7 ⟨rfl, hb7⟩
    have s7 := hb7.size
    have H7 := Lib.hid (And.intro (H6.out.1.below (by omega) hb7) (And.intro (H6.out.2.1.trans (hb7.mono H6.out.2.1.size)) (And.intro (H6.out.2.2.1.keep hb7) (And.intro (H6.out.2.2.2.1.of_block (hb7.block _ (by omega))) (H6.out.2.2.2.2.below (Nat.le_refl _) hb7)))))
    clear hb7
    cases ok
    all_goals
      go_wp2_with fail
      -- the list is as it was
      refine (toFL_any _ _ _ X _ hl (H.out.keep H7.out.2.1)).mono ?_
      rintro e w8 ⟨rfl, hb8, hL8, _⟩
      have s8 := hb8.size
      have H8 := Lib.hid (And.intro (And.intro (H7.out.1.below (by omega) hb8) (And.intro (H7.out.2.1.trans (hb8.mono H7.out.2.1.size)) (And.intro (H7.out.2.2.1.keep hb8) (And.intro (H7.out.2.2.2.1.of_block (hb8.block _ (by omega))) (H7.out.2.2.2.2.below s7 hb8))))) hL8)
      clear hb8 hL8
      go_wp2_with fail
      refine (eqFL_any _ _ _ _ _ X _ hl H8.out.1.2.2.1 H8.out.2).mono ?_
      rintro e w9 ⟨rfl, hb9⟩
      have s9 := hb9.size
      have H9 := Lib.hid (And.intro (H8.out.1.1.below (by omega) hb9) (And.intro (H8.out.1.2.1.trans (hb9.mono H8.out.1.2.1.size)) (And.intro (H8.out.1.2.2.2.1.of_block (hb9.block _ (by omega))) (H8.out.1.2.2.2.2.below (by omega) hb9))))
      clear hb9
      go_wp2_with fail
      -- the marks on the argument
      refine (markF_any _ len _ 1 _ _ hl (by omega) H9.out.2.2.1).mono ?_
      rintro e w12 ⟨rfl, ho12⟩
      have s12 := ho12.size
      have s3' := H3.out.2.size
      have H12 := Lib.hid (And.intro (H9.out.1.only (by omega) (.inr (Nat.le_refl _)) ho12) (And.intro (H9.out.2.1.trans (ho12.below s3' H9.out.2.1.size)) (H9.out.2.2.2.only (by omega) (.inl (by omega)) ho12)))
      clear ho12
      have hk13 : ¬ (((1 + len : Nat) : Int) < 0) := by omega
      go_wp2_with fail
      refine (eqFF_any _ H12.out.2.2.1 H12.out.1.1 HW.out HW.out HS.out (by omega)).mono ?_
      rintro e w14 ⟨rfl, hb14⟩
      have s14 := hb14.size
      have H14 := Lib.hid (And.intro (H12.out.1.below (by omega) hb14) (And.intro (H12.out.2.1.trans (hb14.mono H12.out.2.1.size)) (H12.out.2.2.below (by omega) hb14)))
      clear hb14 hk13
      go_wp2_with fail
      refine (markFF_any (base := w4.heap.size) _ (by omega) H14.out.2.2.1 (by omega)).mono ?_
      rintro e w15 ⟨rfl, hv15, hb15⟩
      have s15 := hb15.size
      have H15 := Lib.hid (And.intro (H14.out.1.below (by omega) hb15) (And.intro (H14.out.2.1.trans (hb15.mono (by omega))) (show OwnU w4.heap.size w6.heap.size w15 v1 N mkF from ⟨hv15, H14.out.2.2.2⟩)))
      clear hv15 hb15
      go_wp2_with fail
      refine (heldFF_any _ H15.out.2.2.1 (by omega)).mono ?_
      rintro e w16 ⟨rfl, hb16⟩
      have s16 := hb16.size
      have H16 := Lib.hid (And.intro (H15.out.1.below (by omega) hb16) (And.intro (H15.out.2.1.trans (hb16.mono H15.out.2.1.size)) (H15.out.2.2.below (by omega) hb16)))
      clear hb16
      have hk16 : ¬ (((N + 1 : Nat) : Int) < 0) := by omega
      go_wp2_with fail
      -- the second call
      refine (toFL_any _ _ _ X _ hl (H.out.keep H16.out.2.1)).mono ?_
      rintro e w17 ⟨rfl, hb17, hL17, _⟩
      have s17 := hb17.size
      have H17 := Lib.hid (And.intro (And.intro (H16.out.1.below (by omega) hb17) (And.intro (H16.out.2.1.trans (hb17.mono H16.out.2.1.size)) (H16.out.2.2.below (by omega) hb17))) hL17)
      clear hb17 hL17
      go_wp2_with fail
      refine (CI.out _ _ H17.out.2).mono ?_
      rintro e w19 ⟨v2, rfl, hv2, hb19⟩
      have s19 := hb19.size
      have H19 := Lib.hid (And.intro (H17.out.1.1.below (by omega) hb19) (And.intro (H17.out.1.2.1.trans (hb19.mono H17.out.1.2.1.size)) (And.intro (H17.out.1.2.2.below (by omega) hb19) hv2)))
      clear hv2 hb19
      go_wp2_with fail
      refine (eqFF_any _ H19.out.2.2.2 H19.out.1.1 HW.out HW.out HS.out (by omega)).mono ?_
      rintro e w20 ⟨rfl, hb20⟩
      have s20 := hb20.size
      have H20 := Lib.hid (And.intro (H19.out.2.1.trans (hb20.mono H19.out.2.1.size)) (H19.out.2.2.1.below (by omega) hb20))
      clear hb20
      go_wp2_with fail
      refine (heldFF_any _ H20.out.2.1 (by omega)).mono ?_
      rintro e w21 ⟨rfl, hb21⟩
      have H21 := Lib.hid (H20.out.1.trans (hb21.mono H20.out.1.size))
      clear hb21
      go_wp2_with fail
      go_ret
      exact ⟨rfl, H21.out⟩
  · have hl' : ¬ (len : Int) ≤ 1048576 := by omega
    go_enter Try.func8, Try.ntmps8
    go_wp2_with fail
    go_ret
    exact ⟨rfl, Below.refl _ _⟩
end Go.Proofs.Ytlbapogmcnpmeaa.fnExactMovingMeans
