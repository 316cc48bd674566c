/- The walk of FnExactAgree: it returns true. -/
import Derived.Test.YtjmmcpeknaaaiaaRows
import Derived.Test.YtjmmcpeknaaaiaaSpnH
import Derived.Deep.RegionHeld
namespace Go.Proofs.Ytjmmcpeknaaaiaa.fnExactAgree
open Go.ChangeShapes Go.WideShapes Go.ChangeAt Go.RowKit Go.Deep Go.Proofs.Ytjmmcpeknaaaiaa Go.Proofs.Ytjmmcpeknaaaiaa.Flt Go.Proofs.Ytjmmcpeknaaaiaa.Mth Go.Proofs.Ytjmmcpeknaaaiaa.Spn
open Ieee (single double)
set_option linter.unusedVariables false
set_option maxRecDepth 20000
theorem ag_wf {n : Nat} {X : Nat → Nat} (h : Wf n X) : (Lit.float .f32 (agS n X).1).wf = true ∧ (Lit.float .f32 (agS n X).2).wf = true := by
  cases ho : okA n X
  · rw [agS_no ho]; exact ⟨by decide, by decide⟩
  · rw [agS_yes ho]
    have h1 : 1 ≤ n := by
      unfold okA at ho
      rw [Bool.and_eq_true] at ho
      exact of_decide_eq_true ho.1
    exact agP_wf h1 h n (Nat.le_refl _)
set_option maxHeartbeats 800000 in
theorem walk (a : Option Addr) (len cap : Nat) (X : Nat → Nat) (w : World) (hm : len ≤ maxLen) (h : Lst w a len X) :
    Calls Try.prog 20 #[.slice a len cap] w fun e w' => e = .returned (.bool true) ∧ Below w.heap.size w w' := by
  have H := Lib.hid h
  unfold maxLen at hm
  clear h
  by_cases hl : len ≤ 1048576
  · have hwf := ag_wf (n := len) (X := X) H.out.1
    have he := fun w => eqSpan_any (agS len X).1 (agS len X).2 w hwf.1 hwf.2
    have hS := fun a' W hL => spec_agree a' len len X W hl hL
    have hI := fun a' W hL => impl_agree a' len len X W hl hL
    clear hwf
    generalize (agS len X).1 = p at *
    generalize (agS len X).2 = q at *
    generalize okA len X = b at *
    unfold pv at hS hI
    go_enter Try.func20, Try.ntmps20
    go_wp2_with fail
    refine (sz_any _ _ _ _ _ (Nat.le_refl _) hl).mono ?_
    rintro e w9 ⟨rfl, hw9⟩
    subst w9
    have hge : ¬ (((1048576 - len : Nat) : Int) < 0) := by omega
    go_wp2_with fail
    refine (toP_any _ _ _ X _ hl H.out).mono ?_
    rintro e w1 ⟨rfl, hb1, hL1, _⟩
    have H1 := Lib.hid (And.intro hb1 hL1)
    clear hb1 hL1
    go_wp2_with fail
    refine (hS _ _ H1.out.2).mono ?_
    rintro e w2 ⟨rfl, hb2⟩
    have H2 := Lib.hid (H1.out.1.trans (hb2.mono H1.out.1.size))
    clear hb2
    go_wp2_with fail
    have H2a := Lib.hid (Below.alloc H2.out H2.out.size (.cells #[.float .f32 p, .float .f32 q] 32))
    refine (toP_any _ _ _ X _ hl (H.out.keep H2a.out)).mono ?_
    rintro e w3 ⟨rfl, hb3, hL3, _⟩
    rw [sz_alloc] at hL3
    have d0 : w3.cell? ⟨w2.heap.size, 0, none⟩ = some (.float .f32 p) := by rw [hb3.cell (by simp)]; go_cell
    have d1 : w3.cell? ⟨w2.heap.size, 1, none⟩ = some (.float .f32 q) := by rw [hb3.cell (by simp)]; go_cell
    have n0 : w2.heap.size < w3.heap.size := World.block_lt_of_cell? w3 _ d0
    have H3 := Lib.hid (And.intro (H2a.out.trans (hb3.mono H2a.out.size)) (And.intro hL3 (And.intro d0 d1)))
    clear hb3 hL3 d0 d1
    go_wp2_with fail
    refine (hI _ _ H3.out.2.1).mono ?_
    rintro e w4 ⟨rfl, hb4⟩
    have d0 : w4.cell? ⟨w2.heap.size, 0, none⟩ = some (.float .f32 p) := by rw [hb4.cell n0]; exact H3.out.2.2.1
    have d1 : w4.cell? ⟨w2.heap.size, 1, none⟩ = some (.float .f32 q) := by rw [hb4.cell n0]; exact H3.out.2.2.2
    have n1 : w2.heap.size < w4.heap.size := World.block_lt_of_cell? w4 _ d0
    have H4 := Lib.hid (And.intro (H3.out.1.trans (hb4.mono H3.out.1.size)) (H3.out.2.1.keep hb4))
    clear hb4 n0
    go_wp2_with fail
    refine (he _).mono ?_
    rintro e w5 ⟨rfl, hb5⟩
    have hL5 := (H4.out.2.keep (Below.alloc (Below.refl _ _) (Nat.le_refl _) _)).keep hb5
    have H5 := Lib.hid (And.intro ((Below.alloc H4.out.1 H4.out.1.size _).trans (hb5.mono (Below.alloc H4.out.1 H4.out.1.size _).size)) hL5)
    clear hb5 hL5 d0 d1 n1
    go_wp2_with fail
    refine (toP_any _ _ _ X _ hl (H.out.keep H5.out.1)).mono ?_
    rintro e w6 ⟨rfl, hb6, hL6, _⟩
    have H6 := Lib.hid (And.intro (H5.out.1.trans (hb6.mono H5.out.1.size)) (And.intro (H5.out.2.keep hb6) hL6))
    clear hb6 hL6
    go_wp2_with fail
    refine (eqP_any _ _ _ _ _ X _ hl H6.out.2.1 H6.out.2.2).mono ?_
    rintro e w7 ⟨rfl, hb7⟩
    have H7 := Lib.hid (H6.out.1.trans (hb7.mono H6.out.1.size))
    clear hb7
    go_wp2_with fail
    go_ret
    exact ⟨rfl, H7.out⟩
  · go_enter Try.func20, Try.ntmps20
    go_wp2_with fail
    refine (sz_big _ _ _ _ _ (by omega) (Nat.le_refl _) (by omega)).mono ?_
    rintro e w9 ⟨rfl, hw9⟩
    subst w9
    go_wp2_with fail
    go_ret
    exact ⟨rfl, Below.refl _ _⟩
end Go.Proofs.Ytjmmcpeknaaaiaa.fnExactAgree
