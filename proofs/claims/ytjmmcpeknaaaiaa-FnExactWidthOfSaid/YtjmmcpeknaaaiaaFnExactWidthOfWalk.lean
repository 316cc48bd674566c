/- The walk of FnExactWidthOf: it returns true. -/
import Derived.Test.YtjmmcpeknaaaiaaRows
import Derived.Test.YtjmmcpeknaaaiaaSpnV
namespace Go.Proofs.Ytjmmcpeknaaaiaa.fnExactWidthOf
open Go.ChangeShapes Go.WideShapes Go.ChangeAt Go.RowKit Go.Proofs.Ytjmmcpeknaaaiaa Go.Proofs.Ytjmmcpeknaaaiaa.Flt Go.Proofs.Ytjmmcpeknaaaiaa.Mth Go.Proofs.Ytjmmcpeknaaaiaa.Spn
open Ieee (single double)
set_option linter.unusedVariables false
set_option maxRecDepth 20000
theorem wid_wl (x y : Nat) : widW x y < 18446744073709551616 := by
  cases hb : widB x y
  · unfold widW; rw [hb, if_neg Bool.false_ne_true]; omega
  · have h := wid_sub hb
    have h' := hb
    unfold widB at h'
    rw [Bool.and_eq_true, Bool.and_eq_true] at h'
    obtain ⟨r, hr, wr, _⟩ := sub_valD (wid_rung h'.2.2) (wid_rung h'.2.1)
    rw [hr] at h
    cases h
    exact wr
theorem walk (x y : Nat) (w : World) (wx : (Lit.float .f32 x).wf = true) (wy : (Lit.float .f32 y).wf = true) :
    Calls Try.prog 18 #[.agg #[.float .f32 x, .float .f32 y]] w fun e w' => e = .returned (.bool true) ∧ Below w.heap.size w w' := by
  have hs := fun w => spec_width x y w
  have hi := fun w => impl_width x y w
  have ht := fun w => toSpan_ex x y w
  have hf := fun w => sameFloat_any (widW x y) (widW x y) w (wid_wl x y) (wid_wl x y)
  rw [sameW_refl] at hf
  generalize widW x y = v at *
  unfold pv at hs hi
  go_enter Try.func18, Try.ntmps18
  go_wp2_with fail
  refine (ht _).mono ?_
  rintro e w' ⟨rfl, rfl⟩
  go_wp2_with fail
  refine (hs _).mono ?_
  rintro e w1 ⟨rfl, hb1⟩
  have H1 := Lib.hid (Below.trans (show Below w.heap.size w _ by go_grown) (hb1.mono (by simp; omega)))
  have d0 : w1.cell? ⟨w.heap.size, 0, none⟩ = some (.float .f32 x) := by rw [hb1.cell (by simp; omega)]; go_cell
  have d1 : w1.cell? ⟨w.heap.size, 1, none⟩ = some (.float .f32 y) := by rw [hb1.cell (by simp; omega)]; go_cell
  clear hb1
  go_wp2_with fail
  refine (ht _).mono ?_
  rintro e w2 ⟨rfl, hw2⟩
  have H2 := Lib.hid (show Below w.heap.size w w2 by rw [hw2]; exact H1.out.trans (Below.mono (show Below w1.heap.size w1 _ by go_grown) H1.out.size))
  clear hw2 d0 d1
  go_wp2_with fail
  refine (hi _).mono ?_
  rintro e w3 ⟨rfl, hb3⟩
  have H3 := Lib.hid (H2.out.trans (hb3.mono H2.out.size))
  clear hb3
  go_wp2_with fail
  refine (hf _).mono ?_
  rintro e w4 ⟨rfl, hw4⟩
  subst w4
  go_wp2_with fail
  go_ret
  exact ⟨rfl, H3.out⟩
end Go.Proofs.Ytjmmcpeknaaaiaa.fnExactWidthOf
