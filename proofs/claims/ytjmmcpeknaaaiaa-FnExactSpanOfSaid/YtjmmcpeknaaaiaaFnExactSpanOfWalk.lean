/- The walk of FnExactSpanOf: it returns true. -/
import Derived.Test.YtjmmcpeknaaaiaaRows
import Derived.Test.YtjmmcpeknaaaiaaSpnN
import Derived.Deep.RegionHeld
namespace Go.Proofs.Ytjmmcpeknaaaiaa.fnExactSpanOf
open Go.ChangeShapes Go.WideShapes Go.ChangeAt Go.RowKit Go.Deep Go.Proofs.Ytjmmcpeknaaaiaa Go.Proofs.Ytjmmcpeknaaaiaa.Flt Go.Proofs.Ytjmmcpeknaaaiaa.Mth Go.Proofs.Ytjmmcpeknaaaiaa.Spn
open Go.Proofs.Ytjmmcpeknaaaiaa.Sgl (LstF CellsF toFL_any eqFL_any)
open Ieee (single double)
set_option linter.unusedVariables false
set_option maxRecDepth 20000
theorem lo_wf {n : Nat} {X : Nat → Nat} (h : ∀ i, i < n → (Lit.float .f32 (X i)).wf = true) : (Lit.float .f32 (loL n X)).wf = true ∧ (Lit.float .f32 (hiL n X)).wf = true := by
  cases ho : okL n X
  · obtain ⟨e1, e2⟩ := okL_no ho
    rw [e1, e2]; exact ⟨by decide, by decide⟩
  · obtain ⟨e1, e2⟩ := okL_yes ho
    have h1 : 1 ≤ n := by
      unfold okL at ho
      rw [Bool.and_eq_true] at ho
      exact of_decide_eq_true ho.1
    obtain ⟨i, hi, ei⟩ := out_mem ltB X n h1
    obtain ⟨j, hj, ej⟩ := out_mem gtB X n h1
    rw [e1, e2, ei, ej]
    exact ⟨h i hi, h j hj⟩
set_option maxHeartbeats 800000 in
theorem walk (a : Option Addr) (len cap : Nat) (X : Nat → Nat) (w : World) (hm : len ≤ maxLen) (h : LstF w a len X) :
    Calls Try.prog 19 #[.slice a len cap] w fun e w' => e = .returned (.bool true) ∧ Below w.heap.size w w' := by
  have H := Lib.hid h
  unfold maxLen at hm
  clear h
  by_cases hl : len ≤ 1048576
  · have hl' : (len : Int) ≤ 1048576 := by omega
    have hwf := lo_wf (n := len) (X := X) H.out.1
    have he := fun w => eqSpan_any (loL len X) (hiL len X) w hwf.1 hwf.2
    have hS := fun a' W hL => spec_span a' len len X W hl hL
    have hI := fun a' W hL => impl_span a' len len X W hl hL
    clear hwf
    generalize loL len X = p at *
    generalize hiL len X = q at *
    generalize okL len X = b at *
    unfold pv at hS hI
    go_enter Try.func19, Try.ntmps19
    go_wp2_with fail
    refine (toFL_any _ _ _ X _ hl H.out).mono ?_
    rintro e w1 ⟨rfl, hb1, hL1, _⟩
    have H1 := Lib.hid (And.intro hb1 hL1)
    clear hb1 hL1
    go_wp2_with fail
    refine (hS _ _ H1.out.2).mono ?_
    rintro e w2 ⟨rfl, hb2⟩
    have H2 := Lib.hid (H1.out.1.trans (hb2.mono H1.out.1.size))
    clear hb2
    go_wp2_with fail
    have H2a := Lib.hid (Below.alloc H2.out H2.out.size (.cells #[.float .f32 p, .float .f32 q] 32))
    refine (toFL_any _ _ _ X _ hl (H.out.keep H2a.out)).mono ?_
    rintro e w3 ⟨rfl, hb3, hL3, _⟩
    rw [Go.Proofs.Ytjmmcpeknaaaiaa.Sgl.sz_alloc] at hL3
    have d0 : w3.cell? ⟨w2.heap.size, 0, none⟩ = some (.float .f32 p) := by rw [hb3.cell (by simp)]; go_cell
    have d1 : w3.cell? ⟨w2.heap.size, 1, none⟩ = some (.float .f32 q) := by rw [hb3.cell (by simp)]; go_cell
    have n0 : w2.heap.size < w3.heap.size := World.block_lt_of_cell? w3 _ d0
    have H3 := Lib.hid (And.intro (H2a.out.trans (hb3.mono H2a.out.size)) (And.intro hL3 (And.intro d0 d1)))
    clear hb3 hL3 d0 d1
    go_wp2_with fail
    refine (hI _ _ H3.out.2.1).mono ?_
    rintro e w4 ⟨rfl, hb4⟩
    have d0 : w4.cell? ⟨w2.heap.size, 0, none⟩ = some (.float .f32 p) := by rw [hb4.cell n0]; exact H3.out.2.2.1
    have d1 : w4.cell? ⟨w2.heap.size, 1, none⟩ = some (.float .f32 q) := by rw [hb4.cell n0]; exact H3.out.2.2.2
    have n1 : w2.heap.size < w4.heap.size := World.block_lt_of_cell? w4 _ d0
    have H4 := Lib.hid (And.intro (H3.out.1.trans (hb4.mono H3.out.1.size)) (H3.out.2.1.keep hb4))
    clear hb4 n0
    go_wp2_with fail
    refine (he _).mono ?_
    rintro e w5 ⟨rfl, hb5⟩
    have hL5 := (H4.out.2.keep (Below.alloc (Below.refl _ _) (Nat.le_refl _) _)).keep hb5
    have H5 := Lib.hid (And.intro ((Below.alloc H4.out.1 H4.out.1.size _).trans (hb5.mono (Below.alloc H4.out.1 H4.out.1.size _).size)) hL5)
    clear hb5 hL5 d0 d1 n1
    go_wp2_with fail
    refine (toFL_any _ _ _ X _ hl (H.out.keep H5.out.1)).mono ?_
    rintro e w6 ⟨rfl, hb6, hL6, _⟩
    have H6 := Lib.hid (And.intro (H5.out.1.trans (hb6.mono H5.out.1.size)) (And.intro (H5.out.2.keep hb6) hL6))
    clear hb6 hL6
    go_wp2_with fail
    refine (eqFL_any _ _ _ _ _ X _ hl H6.out.2.1 H6.out.2.2).mono ?_
    rintro e w7 ⟨rfl, hb7⟩
    have H7 := Lib.hid (H6.out.1.trans (hb7.mono H6.out.1.size))
    clear hb7
    go_wp2_with fail
    go_ret
    exact ⟨rfl, H7.out⟩
  · have hl' : ¬ (len : Int) ≤ 1048576 := by omega
    go_enter Try.func19, Try.ntmps19
    go_wp2_with fail
    go_ret
    exact ⟨rfl, Below.refl _ _⟩
end Go.Proofs.Ytjmmcpeknaaaiaa.fnExactSpanOf
