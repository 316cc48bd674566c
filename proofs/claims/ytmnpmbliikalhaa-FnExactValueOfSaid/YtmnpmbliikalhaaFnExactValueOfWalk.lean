/- The walk of FnExactValueOf: it returns true. -/
import Derived.Test.YtmnpmbliikalhaaRows
import Derived.Test.YtmnpmbliikalhaaRngVal
namespace Go.Proofs.Ytmnpmbliikalhaa.fnExactValueOf
open Go.ChangeShapes Go.WideShapes Go.ChangeAt Go.RowKit Go.Proofs.Ytmnpmbliikalhaa Go.Proofs.Ytmnpmbliikalhaa.Flt Go.Proofs.Ytmnpmbliikalhaa.Mth Go.Proofs.Ytmnpmbliikalhaa.Rng
set_option linter.unusedVariables false
set_option maxHeartbeats 800000 in
theorem walk (a : Option Addr) (len cap : Nat) (X : Nat → Nat) (k n : Int) (w : World) (hm : len ≤ maxLen) (h : Lst w a len X) (wk : (Lit.int .i64 k).wf = true) (wn : (Lit.int .i64 n).wf = true) :
    Calls Try.prog 14 #[.slice a len cap, .int .i64 k, .int .i64 n] w fun x w' => x = .returned (.bool true) ∧ Below w.heap.size w w' := by
  have H := Lib.hid h
  unfold maxLen at hm
  clear h
  have wv := valV_wf len X k n
  have kv := fun w => run_widX (P := Try.prog) 25 35 (valV len X k n) under25 Try.underlying35 w
  by_cases hl : len ≤ 1048576
  · go_enter Try.func14, Try.ntmps14
    go_wp2_with fail
    refine (sz_small _ _ _ _ hl).mono ?_
    rintro e w ⟨rfl, rfl⟩
    go_wp2_with fail
    refine (toR_any _ _ _ X _ hl H.out).mono ?_
    rintro e w1 ⟨rfl, hb1, hL1⟩
    have H1 := Lib.hid (And.intro hb1 hL1)
    clear hb1 hL1
    go_wp2_with fail
    refine (specVal _ _ _ X k n _ hl H1.out.2).mono ?_
    rintro e w2 ⟨rfl, hb2⟩
    have H2 := Lib.hid (H1.out.1.trans (hb2.mono H1.out.1.size))
    clear hb2
    go_wp2_with fail
    refine (toR_any _ _ _ X _ hl (H.out.keep H2.out)).mono ?_
    rintro e w3 ⟨rfl, hb3, hL3⟩
    have H3 := Lib.hid (And.intro (H2.out.trans (hb3.mono H2.out.size)) hL3)
    clear hb3 hL3
    go_wp2_with fail
    refine (implVal _ _ _ X k n _ hl H3.out.2).mono ?_
    rintro e w4 ⟨rfl, hb4⟩
    have H4 := Lib.hid (And.intro (H3.out.1.trans (hb4.mono H3.out.1.size)) (H3.out.2.keep hb4))
    clear hb4
    go_wp2_with fail
    refine (same_wid wv (widX_wid _ _) (widX_wid _ _) _).mono ?_
    rintro e w4 ⟨rfl, rfl⟩
    go_wp2_with fail
    refine (toR_any _ _ _ X _ hl ((H.out.keep H4.out.1).keep (below_drewN (Below.refl _ _) _))).mono ?_
    rintro e w5 ⟨rfl, hb5, hL5⟩
    have H5 := Lib.hid (And.intro ((below_drewN H4.out.1 _).trans (hb5.mono H4.out.1.size)) (And.intro ((H4.out.2.keep (below_drewN (Below.refl _ _) _)).keep hb5) hL5))
    clear hb5 hL5
    go_wp2_with fail
    refine (eqR_any _ _ _ _ _ X _ hl H5.out.2.1 H5.out.2.2).mono ?_
    rintro e w6 ⟨rfl, hb6⟩
    have H6 := Lib.hid (H5.out.1.trans (hb6.mono H5.out.1.size))
    clear hb6
    go_wp2_with fail
    go_ret
    exact ⟨rfl, H6.out⟩
  · go_enter Try.func14, Try.ntmps14
    go_wp2_with fail
    refine (sz_big _ _ _ _ (by omega) (by omega)).mono ?_
    rintro e w ⟨rfl, rfl⟩
    go_wp2_with fail
    go_ret
    exact ⟨rfl, Below.refl _ _⟩
end Go.Proofs.Ytmnpmbliikalhaa.fnExactValueOf
