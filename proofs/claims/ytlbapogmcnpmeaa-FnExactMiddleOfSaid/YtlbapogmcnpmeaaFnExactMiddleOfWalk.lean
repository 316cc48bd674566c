/- The walk of FnExactMiddleOf: it returns true. -/
import Derived.Test.YtlbapogmcnpmeaaRows
import Derived.Test.YtlbapogmcnpmeaaSrtT
import Derived.Test.YtlbapogmcnpmeaaAvgR
namespace Go.Proofs.Ytlbapogmcnpmeaa.fnExactMiddleOf
open Go.ChangeShapes Go.WideShapes Go.ChangeAt Go.RowKit Go.Deep Go.Proofs.Ytlbapogmcnpmeaa Go.Proofs.Ytlbapogmcnpmeaa.Flt Go.Proofs.Ytlbapogmcnpmeaa.Mth Go.Proofs.Ytlbapogmcnpmeaa.Sgl Go.Proofs.Ytlbapogmcnpmeaa.Avg
set_option linter.unusedVariables false
set_option maxHeartbeats 800000 in
theorem walk (a : Option Addr) (len cap : Nat) (X : Nat → Nat) (w : World) (hm : len ≤ maxLen) (h : LstF w a len X) :
    Calls Try.prog 7 #[.slice a len cap] w fun x w' => x = .returned (.bool true) ∧ Below w.heap.size w w' := by
  have H := Lib.hid h
  unfold maxLen at hm
  clear h
  by_cases hl : len ≤ 1048576
  · have hl' : (len : Int) ≤ 1048576 := by omega
    obtain ⟨v, hv⟩ : ∃ v, midN len X = v := ⟨_, rfl⟩
    obtain ⟨ok, hok⟩ : ∃ ok, meanB len X = ok := ⟨_, rfl⟩
    have Hv := Lib.hid hv
    have Hok := Lib.hid hok
    have Hs := Lib.hid (fun W => same_wid (x := v) (hv ▸ midN_wf H.out.1) ⟨widen_wl v, (isNaN_widen v).trans (fin_num (hv ▸ midN_fin len X)).symm, fun _ => rfl⟩ ⟨widen_wl v, (isNaN_widen v).trans (fin_num (hv ▸ midN_fin len X)).symm, fun _ => rfl⟩ W)
    have kv := run_widF (x := v) (hv ▸ midN_fin len X)
    clear hv hok
    go_enter Try.func7, Try.ntmps7
    go_wp2_with fail
    refine (toFL_any _ _ _ X _ hl H.out).mono ?_
    rintro e w1 ⟨rfl, hb1, hL1, _⟩
    have H1 := Lib.hid (And.intro hb1 hL1)
    clear hb1 hL1
    go_wp2_with fail
    refine (spec_middle _ _ _ X _ hl H1.out.2).mono ?_
    rintro e w2 ⟨rfl, hb2⟩
    have H2 := Lib.hid (H1.out.1.trans (hb2.mono H1.out.1.size))
    clear hb2
    rw [Hv.out, Hok.out]
    go_wp2_with fail
    refine (toFL_any _ _ _ X _ hl (H.out.keep H2.out)).mono ?_
    rintro e w3 ⟨rfl, hb3, hL3, _⟩
    have H3 := Lib.hid (And.intro (H2.out.trans (hb3.mono H2.out.size)) hL3)
    clear hb3 hL3
    go_wp2_with fail
    refine (impl_middle _ _ _ X _ hl H3.out.2).mono ?_
    rintro e w4 ⟨rfl, hb4⟩
    have H4 := Lib.hid (And.intro (H3.out.1.trans (hb4.mono H3.out.1.size)) (H3.out.2.keep hb4))
    clear hb4
    rw [Hv.out, Hok.out]
    go_wp2_with fail
    refine (Hs.out _).mono ?_
    rintro e w9 ⟨rfl, hw9⟩
    subst w9
    cases ok
    all_goals
      go_wp2_with fail
      refine (toFL_any _ _ _ X _ hl (H.out.keep H4.out.1)).mono ?_
      rintro e w5 ⟨rfl, hb5, hL5, _⟩
      have H5 := Lib.hid (And.intro (H4.out.1.trans (hb5.mono H4.out.1.size)) (And.intro (H4.out.2.keep hb5) hL5))
      clear hb5 hL5
      go_wp2_with fail
      refine (eqFL_any _ _ _ _ _ X _ hl H5.out.2.1 H5.out.2.2).mono ?_
      rintro e w6 ⟨rfl, hb6⟩
      have H6 := Lib.hid (H5.out.1.trans (hb6.mono H5.out.1.size))
      clear hb6
      go_wp2_with fail
      go_ret
      exact ⟨rfl, H6.out⟩
  · have hl' : ¬ (len : Int) ≤ 1048576 := by omega
    go_enter Try.func7, Try.ntmps7
    go_wp2_with fail
    go_ret
    exact ⟨rfl, Below.refl _ _⟩
end Go.Proofs.Ytlbapogmcnpmeaa.fnExactMiddleOf
