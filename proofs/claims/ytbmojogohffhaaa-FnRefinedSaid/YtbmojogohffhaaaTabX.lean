/- DrawTable; what a valid table tells at its points and between them. -/
import Derived.Test.YtbmojogohffhaaaTabW
import Derived.Test.YtbmojogohffhaaaItpL
import Derived.Test.YtbmojogohffhaaaSame2
namespace Go.Proofs.Ytbmojogohffhaaa.Pnt
open Go.ChangeShapes Go.WideShapes Go.ChangeAt Go.RowKit Go.Deep Go.Proofs.Ytbmojogohffhaaa Go.Proofs.Ytbmojogohffhaaa.Flt Go.Proofs.Ytbmojogohffhaaa.Mth Go.Proofs.Ytbmojogohffhaaa.Drw
open Ieee (single double)
set_option linter.unusedVariables false
/-- a valid table and a single -/
def DrwOut (w : World) (e : Ending) (w' : World) : Prop := ∃ g n cap X x, e = .returned (.tuple #[.slice (some ⟨g, 0, none⟩) n cap, .float .f32 x]) ∧ 2 ≤ n ∧ n ≤ 6 ∧ okP n X = true ∧ Wf n X ∧ w.heap.size ≤ g ∧ g < w'.heap.size ∧ Cells w' g 0 n X ∧ (Lit.float .f32 x).wf = true ∧ Below w.heap.size w w' ∧ ∀ i, i < n → At (X (i * 2)) 440 ∧ At (X (i * 2 + 1)) 200
theorem draw_table (a : Option Addr) (len cap : Nat) (zs : List Int) (w : World) (hr : IsRow .u8 w a len cap zs) :
    Calls Try.prog 16 #[.slice a len cap] w (DrwOut w) := by
  go_enter Try.func16, Try.ntmps16
  go_wp2_with fail
  refine (new_any a len cap zs w hr).mono ?_
  rintro e w1 ⟨rfl, hc1, hb1⟩
  have H1 := Lib.hid (And.intro hc1 hb1)
  have hs1 := hb1.size
  clear hc1 hb1 hr
  go_wp2_with fail
  refine (table_any _ _ _ H1.out.1).mono ?_
  rintro e w2 ⟨g, n, cp, X, rfl, n1, n2, hok, hwf, hg, hglt, hcells, hc2, ho2, hat⟩
  have hlt1 := H1.out.1.lt
  have HX := Lib.hid (And.intro hok (And.intro hwf hat))
  have H2 := Lib.hid (And.intro hc2 (And.intro (H1.out.2.trans (ho2.below (Nat.le_refl _) hs1)) hcells))
  clear hok hwf hcells hc2 ho2 hat
  go_wp2_with fail
  refine (at_any _ _ g n cp X _ H2.out.1 n1 n2 (by omega) HX.out.2.2 H2.out.2.2).mono ?_
  rintro e w3 ⟨x, wx, rfl, hc3, ho3⟩
  have hs2 := H2.out.2.1.size
  have H3 := Lib.hid (show Cells w3 g 0 n X ∧ Below w.heap.size w w3 ∧ g < w3.heap.size from ⟨fun i hi => by
    obtain ⟨c0, c1⟩ := H2.out.2.2 i hi
    exact ⟨(ho3.cell (p := ⟨g, 0 + i * 2, none⟩) hglt (by show g ≠ _; omega)).trans c0, (ho3.cell (p := ⟨g, 0 + i * 2 + 1, none⟩) hglt (by show g ≠ _; omega)).trans c1⟩, H2.out.2.1.trans (ho3.below (Nat.le_refl _) hs2), Nat.lt_of_lt_of_le hglt ho3.size⟩)
  clear hc3 ho3
  go_wp2_with fail
  go_ret2
  exact ⟨g, n, cp, X, x, rfl, n1, n2, HX.out.1, HX.out.2.1, by omega, H3.out.2.2, H3.out.1, wx, H3.out.2.1, HX.out.2.2⟩
theorem eqB_refl {x : Nat} (h : isNaN single x = false) : eqB x x = true := by rw [eqB_sv h h]; exact decide_eq_true rfl
/-- a point lies in its table -/
theorem node_in {n : Nat} {X : Nat → Nat} (h : okP n X = true) {k : Nat} (hk : k < n) : segIn n X (X (k * 2)) = true := by
  have num : ∀ j, j < n → isNaN single (X (j * 2)) = false := fun j hj => fin_num (okPt_fin (okP_at h hj)).1
  have hb := okP_bounds h
  have n0 := num 0 (by omega)
  rw [show 0 * 2 = 0 from rfl] at n0
  have le : ∀ i j, i ≤ j → j < n → sv single (X (i * 2)) ≤ sv single (X (j * 2)) := fun i j hij hj => by
    rcases Nat.lt_or_ge i j with e | e
    · have := okP_lt h e hj; omega
    · obtain rfl : i = j := by omega
      exact Int.le_refl _
  unfold segIn
  rw [h, Bool.true_and, geB_sv (num k hk) n0, leB_sv (num k hk) (num (n - 1) (by omega))]
  have h1 := le 0 k (by omega) hk
  have h2 := le k (n - 1) (by omega) (by omega)
  rw [show 0 * 2 = 0 from rfl] at h1
  rw [decide_eq_true h1, decide_eq_true h2]; rfl
theorem node_val {n : Nat} {X : Nat → Nat} (h : okP n X = true) {k : Nat} (hk : k < n) : ipV n X (X (k * 2)) = X (k * 2 + 1) := by
  have hin := node_in h hk
  unfold ipV
  rw [if_pos hin]
  exact itV_at hin hk (eqB_refl (fin_num (okPt_fin (okP_at h hk)).1))
/-- between two points the value is not beyond the first Y and the first Y plus the difference -/
theorem between {n : Nat} {X : Nat → Nat} {x k : Nat} (h : segIn n X x = true) (hk : segN n X x = k) (hn : ∀ j, j < n → eqB (X (j * 2)) x = false) :
    k + 1 < n ∧ floatBits .sub .f32 (X ((k + 1) * 2 + 1)) (X (k * 2 + 1)) = some (subB (X ((k + 1) * 2 + 1)) (X (k * 2 + 1))) ∧
    floatBits .add .f32 (X (k * 2 + 1)) (subB (X ((k + 1) * 2 + 1)) (X (k * 2 + 1))) = some (addB (X (k * 2 + 1)) (subB (X ((k + 1) * 2 + 1)) (X (k * 2 + 1)))) ∧
    ((geB (subB (X ((k + 1) * 2 + 1)) (X (k * 2 + 1))) 0 = true ∧ geB (ipV n X x) (X (k * 2 + 1)) = true ∧ leB (ipV n X x) (addB (X (k * 2 + 1)) (subB (X ((k + 1) * 2 + 1)) (X (k * 2 + 1)))) = true) ∨
     (geB (subB (X ((k + 1) * 2 + 1)) (X (k * 2 + 1))) 0 = false ∧ leB (subB (X ((k + 1) * 2 + 1)) (X (k * 2 + 1))) 0 = true ∧ leB (ipV n X x) (X (k * 2 + 1)) = true ∧ geB (ipV n X x) (addB (X (k * 2 + 1)) (subB (X ((k + 1) * 2 + 1)) (X (k * 2 + 1)))) = true)) := by
  have hok := (segIn_ok h).1
  have hb := okP_bounds hok
  have hs := segN_is (X := X) (x := x) hb.1
  have hno := itV_no h hn
  rw [hk] at hs hno
  have hbt := seg_betw h hs
  have hk1 := hs.1
  have hx := segIn_num h
  have hv : ipV n X x = lnR (X (k * 2)) (X (k * 2 + 1)) (X ((k + 1) * 2)) (X ((k + 1) * 2 + 1)) x := by unfold ipV; rw [if_pos h, hno]
  have hne : sv single (X (k * 2)) ≠ sv single x := fun e => by
    have := hn k (by omega)
    rw [eqB_sv (fin_num hbt.fx0) hx] at this
    exact of_decide_eq_false this e
  have hlt : sv single (X (k * 2)) < sv single x := by have := hbt.lo; omega
  obtain ⟨p1, p2⟩ := hbt.p_sv hlt
  obtain ⟨e1, e2, e3, _, e5⟩ := add_fin hbt.fy0 hbt.dy
  refine ⟨hk1, sub_fin hbt.fy1 hbt.fy0, e1, ?_⟩
  rw [hv]
  have nR := hbt.r_num
  have nY := fin_num hbt.fy0
  have nD := fin_num hbt.dy
  have n0 : isNaN single 0 = false := by decide
  rw [geB_sv nD n0, leB_sv nD n0, geB_sv nR nY, leB_sv nR nY, geB_sv nR e3, leB_sv nR e3, hbt.r_sv, e5]
  have hy := rnd_sv (a := X (k * 2 + 1)) (Nat.le_of_lt (fin_iff.1 hbt.fy0))
  have h0 : sv single 0 = 0 := sv_zero single
  rw [h0]
  generalize sv single (subB (X ((k + 1) * 2 + 1)) (X (k * 2 + 1))) = d at *
  generalize sv single (lnP (X (k * 2)) (X (k * 2 + 1)) (X ((k + 1) * 2)) (X ((k + 1) * 2 + 1)) x) = p at *
  generalize sv single (X (k * 2 + 1)) = y at *
  rcases Int.lt_or_le d 0 with hd | hd
  · right
    obtain ⟨q1, q2⟩ := p2 (by omega)
    have r1 := rnd_mono (show y + p ≤ y by omega)
    have r2 := rnd_mono (show y + d ≤ y + p by omega)
    rw [hy] at r1
    exact ⟨decide_eq_false (by omega), decide_eq_true (by omega), decide_eq_true r1, decide_eq_true r2⟩
  · left
    obtain ⟨q1, q2⟩ := p1 hd
    have r1 := rnd_mono (show y ≤ y + p by omega)
    have r2 := rnd_mono (show y + p ≤ y + d by omega)
    rw [hy] at r1
    exact ⟨decide_eq_true hd, decide_eq_true r1, decide_eq_true r2⟩
end Go.Proofs.Ytbmojogohffhaaa.Pnt
