/- The walk of FnExactNegSpan: it returns true. -/
import Derived.Test.YtjmmcpeknaaaiaaRows
import Derived.Test.YtjmmcpeknaaaiaaSpnV
import Derived.Deep.RegionHeld
namespace Go.Proofs.Ytjmmcpeknaaaiaa.fnExactNegSpan
open Go.ChangeShapes Go.WideShapes Go.ChangeAt Go.RowKit Go.Proofs.Ytjmmcpeknaaaiaa Go.Proofs.Ytjmmcpeknaaaiaa.Flt Go.Proofs.Ytjmmcpeknaaaiaa.Mth Go.Proofs.Ytjmmcpeknaaaiaa.Spn
open Ieee (single double)
set_option linter.unusedVariables false
set_option maxRecDepth 20000
theorem neg_wf {x y : Nat} (wx : x < 4294967296) (wy : y < 4294967296) : (negS x y).1 < 4294967296 ∧ (negS x y).2 < 4294967296 := by
  unfold negS
  split
  · exact ⟨ng_lt wy, ng_lt wx⟩
  · exact ⟨by decide, by decide⟩
theorem walk (x y : Nat) (w : World) (wx : (Lit.float .f32 x).wf = true) (wy : (Lit.float .f32 y).wf = true) :
    Calls Try.prog 14 #[.agg #[.float .f32 x, .float .f32 y]] w fun e w' => e = .returned (.bool true) ∧ Below w.heap.size w w' := by
  have hs := fun w => spec_neg x y w
  have hi := fun w => impl_neg x y w (lt_single wx) (lt_single wy)
  have ht := fun w => toSpan_ex x y w
  have hw := neg_wf (lt_single wx) (lt_single wy)
  have he := fun w => eqSpan_any (negS x y).1 (negS x y).2 w (wf_single hw.1) (wf_single hw.2)
  clear hw
  generalize (negS x y).1 = p at *
  generalize (negS x y).2 = q at *
  generalize leB x y = b at *
  unfold pv at hs hi
  go_enter Try.func14, Try.ntmps14
  go_wp2_with fail
  refine (ht _).mono ?_
  rintro e w' ⟨rfl, rfl⟩
  go_wp2_with fail
  refine (hs _).mono ?_
  rintro e w1 ⟨rfl, hb1⟩
  have H1 := Lib.hid (Below.trans (show Below w.heap.size w _ by go_grown) (hb1.mono (by simp; omega)))
  have d0 : w1.cell? ⟨w.heap.size, 0, none⟩ = some (.float .f32 x) := by rw [hb1.cell (by simp; omega)]; go_cell
  have d1 : w1.cell? ⟨w.heap.size, 1, none⟩ = some (.float .f32 y) := by rw [hb1.cell (by simp; omega)]; go_cell
  have n1 : w.heap.size < w1.heap.size := World.block_lt_of_cell? w1 _ d0
  clear hb1
  go_wp2_with fail
  refine (ht _).mono ?_
  rintro e w2 ⟨rfl, hw2⟩
  have H2 := Lib.hid (show Below w.heap.size w w2 by rw [hw2]; exact H1.out.trans (Below.mono (show Below w1.heap.size w1 _ by go_grown) H1.out.size))
  have e0 : w2.cell? ⟨w1.heap.size, 0, none⟩ = some (.float .f32 p) := by rw [hw2]; go_cell
  have e1 : w2.cell? ⟨w1.heap.size, 1, none⟩ = some (.float .f32 q) := by rw [hw2]; go_cell
  have hz : w1.heap.size < w2.heap.size := by rw [hw2]; simp; omega
  clear hw2 d0 d1 n1
  go_wp2_with fail
  refine (hi _).mono ?_
  rintro e w3 ⟨rfl, hb3⟩
  have H3 := Lib.hid (H2.out.trans (hb3.mono H2.out.size))
  have d0 : w3.cell? ⟨w1.heap.size, 0, none⟩ = some (.float .f32 p) := by rw [hb3.cell hz]; exact e0
  have d1 : w3.cell? ⟨w1.heap.size, 1, none⟩ = some (.float .f32 q) := by rw [hb3.cell hz]; exact e1
  have n0 : w1.heap.size < w3.heap.size := World.block_lt_of_cell? w3 _ d0
  clear hb3 e0 e1
  go_wp2_with fail
  refine (he _).mono ?_
  rintro e w4 ⟨rfl, hb4⟩
  have H4 := Lib.hid ((H3.out.trans (Below.mono (show Below w3.heap.size w3 _ by go_grown) H3.out.size)).trans (hb4.mono (by have := H3.out.size; simp; omega)))
  clear hb4
  go_wp2_with fail
  go_ret
  exact ⟨rfl, H4.out⟩
end Go.Proofs.Ytjmmcpeknaaaiaa.fnExactNegSpan
