/- The walk of FnSigns: it returns true. -/
import Derived.Test.YtjelebcpgcanoaaRows
import Derived.Test.YtjelebcpgcanoaaSame2
import Derived.Test.YtjelebcpgcanoaaDrawF
import Derived.Test.YtjelebcpgcanoaaFnExactSignTextWalk
namespace Go.Proofs.Ytjelebcpgcanoaa.fnSigns
open Go.ChangeShapes Go.WideShapes Go.ChangeAt Go.RowKit Go.Proofs.Ytjelebcpgcanoaa Go.Proofs.Ytjelebcpgcanoaa.Flt Go.Proofs.Ytjelebcpgcanoaa.Mth
set_option linter.unusedVariables false
theorem p1 : ((⟨#[43]⟩ : ByteArray).toList == [43]) = true := by decide +kernel
theorem m1 : ((⟨#[45]⟩ : ByteArray).toList == [43]) = false := by decide +kernel
theorem m2 : ((⟨#[45]⟩ : ByteArray).toList == [45]) = true := by decide +kernel
theorem o1 : ((⟨#[42]⟩ : ByteArray).toList == [43]) = false := by decide +kernel
theorem o2 : ((⟨#[42]⟩ : ByteArray).toList == [45]) = false := by decide +kernel
theorem walk (a : Option Addr) (len cap : Nat) (zs : List Int) (w : World) (hr : IsRow .u8 w a len cap zs) :
    Calls Try.prog 3 #[.slice a len cap] w fun x w' => x = .returned (.bool true) ∧ Below w.heap.size w w' := by
  by_cases hl : (len : Int) ≤ 1048576
  · go_enter Try.func3, Try.ntmps3
    go_wp2_with fail
    refine (Drw.big_no _ _ _ _ hl).mono ?_
    rintro e w' ⟨rfl, rfl⟩
    go_wp2_with fail
    refine (Drw.draw_any a len cap zs _ hr).mono ?_
    rintro e w1 ⟨x, wx, rfl, hb1⟩
    have Hb1 := Lib.hid hb1
    clear hb1 hr
    go_wp2_with fail
    refine (Sgd.impl_plus _ x _ p1).mono ?_
    rintro e w2 ⟨rfl, hb2⟩
    have Hb2 := Lib.hid (Hb1.out.trans (hb2.mono Hb1.out.size))
    clear hb2
    go_wp2_with fail
    refine (Sgd.impl_minus _ x _ m1 m2).mono ?_
    rintro e w3 ⟨rfl, hb3⟩
    have Hb3 := Lib.hid (Hb2.out.trans (hb3.mono Hb2.out.size))
    clear hb3
    go_wp2_with fail
    refine (Sgd.impl_minus _ (Op.negFloat .f32 x) _ m1 m2).mono ?_
    rintro e w4 ⟨rfl, hb4⟩
    have Hb4 := Lib.hid (Hb3.out.trans (hb4.mono Hb3.out.size))
    clear hb4
    go_wp2_with fail
    refine (Sgd.impl_other _ x _ o1 o2).mono ?_
    rintro e w5 ⟨rfl, hb5⟩
    have Hb5 := Lib.hid (Hb4.out.trans (hb5.mono Hb4.out.size))
    clear hb5
    have wn : (Lit.float .f32 (Op.negFloat .f32 x)).wf = true := by
      have h := neg_lt .f32 (w := x) (lt_single' wx)
      exact wf_single (by rw [← width_single]; exact h)
    have hself := sameW_refl Ieee.single x
    have hnn : Op.negFloat .f32 (Op.negFloat .f32 x) = x := neg_neg .f32 (w := x) (lt_single' wx)
    have hne := ne32 x x
    rw [eqW_self, Bool.not_not] at hne
    cases hn : isNaN Ieee.single x
    · rw [hn] at hne
      have hn2 : isNaN Ieee.single (Op.negFloat .f32 x) = false := by rw [← hn]; exact isNaN_neg .f32 (w := x) (lt_single' wx)
      have hs2 : sgn Ieee.single (Op.negFloat .f32 x) = !sgn Ieee.single x := sgn_neg .f32 (w := x) (lt_single' wx)
      cases hs : sgn Ieee.single x
      · have e1 : fnExactSignText.signOf x = ⟨#[43]⟩ := by unfold fnExactSignText.signOf; rw [hn, hs]; rfl
        have e2 : fnExactSignText.signOf (Op.negFloat .f32 x) = ⟨#[45]⟩ := by unfold fnExactSignText.signOf; rw [hn2, hs2, hs]; rfl
        clear hn hn2 hs2 hs
        go_wp2_with fail
        refine (same32_any _ _ _ wx wx).mono ?_
        rintro e w6 ⟨rfl, n, rfl⟩
        go_wp2_with fail
        refine (same32_any _ _ _ wx wx).mono ?_
        rintro e w6 ⟨rfl, m, rfl⟩
        go_wp2_with fail
        refine (fnExactSignText.impl_any _ _ wn).mono ?_
        rintro e w6 ⟨rfl, k, rfl⟩
        go_wp2_with fail
        refine (fnExactSignText.impl_any _ _ wx).mono ?_
        rintro e w6 ⟨rfl, l, rfl⟩
        go_wp2_with fail
        go_ret
        exact ⟨rfl, below_drewN Hb5.out _⟩
      · have e1 : fnExactSignText.signOf x = ⟨#[45]⟩ := by unfold fnExactSignText.signOf; rw [hn, hs]; rfl
        have e2 : fnExactSignText.signOf (Op.negFloat .f32 x) = ⟨#[43]⟩ := by unfold fnExactSignText.signOf; rw [hn2, hs2, hs]; rfl
        clear hn hn2 hs2 hs
        go_wp2_with fail
        refine (same32_any _ _ _ wx wx).mono ?_
        rintro e w6 ⟨rfl, n, rfl⟩
        go_wp2_with fail
        refine (same32_any _ _ _ wx wx).mono ?_
        rintro e w6 ⟨rfl, m, rfl⟩
        go_wp2_with fail
        refine (fnExactSignText.impl_any _ _ wn).mono ?_
        rintro e w6 ⟨rfl, k, rfl⟩
        go_wp2_with fail
        refine (fnExactSignText.impl_any _ _ wx).mono ?_
        rintro e w6 ⟨rfl, l, rfl⟩
        go_wp2_with fail
        go_ret
        exact ⟨rfl, below_drewN Hb5.out _⟩
    · rw [hn] at hne
      clear hn
      go_wp2_with fail
      refine (same32_any _ _ _ wx wx).mono ?_
      rintro e w6 ⟨rfl, n, rfl⟩
      go_wp2_with fail
      refine (same32_any _ _ _ wx wx).mono ?_
      rintro e w6 ⟨rfl, m, rfl⟩
      go_wp2_with fail
      go_ret
      exact ⟨rfl, below_drewN Hb5.out _⟩
  · go_enter Try.func3, Try.ntmps3
    go_wp2_with fail
    refine (Drw.big_yes _ _ _ _ (by omega)).mono ?_
    rintro e w' ⟨rfl, rfl⟩
    go_wp2_with fail
    go_ret
    exact ⟨rfl, Below.refl _ _⟩
end Go.Proofs.Ytjelebcpgcanoaa.fnSigns
