/- The walk of FnExactLargest: it returns true. -/
import Derived.Test.YtbmojogohffhaaaRows
import Derived.Test.YtbmojogohffhaaaLrg
namespace Go.Proofs.Ytbmojogohffhaaa.fnExactLargest
open Go.ChangeShapes Go.WideShapes Go.ChangeAt Go.RowKit Go.Proofs.Ytbmojogohffhaaa Go.Proofs.Ytbmojogohffhaaa.Flt Go.Proofs.Ytbmojogohffhaaa.Mth Go.Proofs.Ytbmojogohffhaaa.Pnt
set_option linter.unusedVariables false
set_option maxHeartbeats 800000 in
theorem walk (a : Option Addr) (len cap : Nat) (X : Nat → Nat) (w : World) (hm : len ≤ maxLen) (h : Lst w a len X) :
    Calls Try.prog 11 #[.slice a len cap] w fun x w' => x = .returned (.bool true) ∧ Below w.heap.size w w' := by
  have H := Lib.hid h
  unfold maxLen at hm
  clear h
  by_cases hl : len ≤ 1048576
  · go_enter Try.func11, Try.ntmps11
    go_wp2_with fail
    refine (sz_any _ _ _ _ _ (Nat.le_refl _) hl).mono ?_
    rintro e w ⟨rfl, rfl⟩
    have hge : ¬ (((1048576 - len : Nat) : Int) < 0) := by omega
    go_wp2_with fail
    refine (toP_any _ _ _ X _ hl H.out).mono ?_
    rintro e w1 ⟨rfl, hb1, hL1, _⟩
    have H1 := Lib.hid (And.intro hb1 hL1)
    clear hb1 hL1 hge
    go_wp2_with fail
    obtain ⟨v, hv⟩ : ∃ v, lrgV len X = v := ⟨_, rfl⟩
    have Hv := Lib.hid hv
    have Hs := Lib.hid (fun W => same_self (v := v) (hv ▸ lrgV_wf len X) (hv ▸ lrgV_num len X) W)
    have kv := fun W => conv_wid (v := v) (hv ▸ lrgV_num len X) W
    clear hv
    refine (specLrg _ _ _ X _ hl H1.out.2).mono ?_
    rintro e w2 ⟨rfl, hb2⟩
    have H2 := Lib.hid (H1.out.1.trans (hb2.mono H1.out.1.size))
    clear hb2
    rw [Hv.out]
    go_wp2_with fail
    refine (toP_any _ _ _ X _ hl (H.out.keep H2.out)).mono ?_
    rintro e w3 ⟨rfl, hb3, hL3, _⟩
    have H3 := Lib.hid (And.intro (H2.out.trans (hb3.mono H2.out.size)) hL3)
    clear hb3 hL3
    go_wp2_with fail
    refine (implLrg _ _ _ X _ hl H3.out.2).mono ?_
    rintro e w4 ⟨rfl, hb4⟩
    have H4 := Lib.hid (And.intro (H3.out.1.trans (hb4.mono H3.out.1.size)) (H3.out.2.keep hb4))
    clear hb4
    rw [Hv.out]
    go_wp2_with fail
    refine (Hs.out _).mono ?_
    rintro e w' ⟨rfl, rfl⟩
    go_wp2_with fail
    refine (toP_any _ _ _ X _ hl (H.out.keep H4.out.1)).mono ?_
    rintro e w5 ⟨rfl, hb5, hL5, _⟩
    have H5 := Lib.hid (And.intro (H4.out.1.trans (hb5.mono H4.out.1.size)) (And.intro (H4.out.2.keep hb5) hL5))
    clear hb5 hL5
    go_wp2_with fail
    refine (eqP_any _ _ _ _ _ X _ hl H5.out.2.1 H5.out.2.2).mono ?_
    rintro e w6 ⟨rfl, hb6⟩
    have H6 := Lib.hid (H5.out.1.trans (hb6.mono H5.out.1.size))
    clear hb6
    go_wp2_with fail
    go_ret
    exact ⟨rfl, H6.out⟩
  · go_enter Try.func11, Try.ntmps11
    go_wp2_with fail
    refine (sz_big _ _ _ _ _ (by omega) (Nat.le_refl _) (by omega)).mono ?_
    rintro e w ⟨rfl, rfl⟩
    go_wp2_with fail
    go_ret
    exact ⟨rfl, Below.refl _ _⟩
end Go.Proofs.Ytbmojogohffhaaa.fnExactLargest
