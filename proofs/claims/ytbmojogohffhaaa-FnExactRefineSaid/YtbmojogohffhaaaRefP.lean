/- Refining a table: the cells after each number. Plain facts. -/
import Derived.Test.YtbmojogohffhaaaWit
import Derived.Test.YtbmojogohffhaaaItpL
import Derived.Test.YtbmojogohffhaaaSngQ
namespace Go.Proofs.Ytbmojogohffhaaa.Pnt
open Go.RowKit Go.Proofs.Ytbmojogohffhaaa Go.Proofs.Ytbmojogohffhaaa.Flt Go.Proofs.Ytbmojogohffhaaa.Sgl
open Ieee (single double)
set_option linter.unusedVariables false
/-- the list after 'i' numbers -/
def refI (n : Nat) (X xs : Nat → Nat) : Nat → Nat × (Nat → Nat)
  | 0 => (n, X)
  | i + 1 => (insN (refI n X xs i).1 (refI n X xs i).2 (xs i), insX (refI n X xs i).1 (refI n X xs i).2 (xs i) (ipV n X (xs i)))
def refA (n : Nat) (X : Nat → Nat) (m : Nat) (xs : Nat → Nat) : Bool := (List.range m).all fun i => segIn n X (xs i)
def refB (n : Nat) (X : Nat → Nat) (m : Nat) (xs : Nat → Nat) : Bool := okP n X && (refA n X m xs && okP (refI n X xs m).1 (refI n X xs m).2)
def refN (n : Nat) (X : Nat → Nat) (m : Nat) (xs : Nat → Nat) : Nat := if refB n X m xs = true then (refI n X xs m).1 else 0
def refX (n : Nat) (X : Nat → Nat) (m : Nat) (xs : Nat → Nat) : Nat → Nat := (refI n X xs m).2
theorem refA_no {n m k : Nat} {X xs : Nat → Nat} (hk : k < m) (h : segIn n X (xs k) = false) : refA n X m xs = false := by
  unfold refA
  rw [List.all_eq_false]
  exact ⟨k, by simpa using hk, by rw [h]; simp⟩
theorem refA_yes {n m : Nat} {X xs : Nat → Nat} (h : ∀ i, i < m → segIn n X (xs i) = true) : refA n X m xs = true := by
  unfold refA
  rw [List.all_eq_true]
  intro i hi
  exact h i (by simpa using hi)
theorem refA_at {n m : Nat} {X xs : Nat → Nat} (h : refA n X m xs = true) {i : Nat} (hi : i < m) : segIn n X (xs i) = true := by
  unfold refA at h
  rw [List.all_eq_true] at h
  exact h i (by simpa using hi)
theorem insN_ge (n : Nat) (Z : Nat → Nat) (x : Nat) : n ≤ insN n Z x ∧ insN n Z x ≤ n + 1 := by
  unfold insN; split <;> omega
theorem refI_up (n : Nat) (X xs : Nat → Nat) (i : Nat) : ∀ d, (refI n X xs i).1 ≤ (refI n X xs (i + d)).1
  | 0 => Nat.le_refl _
  | d + 1 => Nat.le_trans (refI_up n X xs i d) (insN_ge _ _ _).1
theorem refI_mono (n : Nat) (X xs : Nat → Nat) {i j : Nat} (h : i ≤ j) : (refI n X xs i).1 ≤ (refI n X xs j).1 := by
  obtain ⟨d, rfl⟩ : ∃ d, j = i + d := ⟨j - i, by omega⟩
  exact refI_up n X xs i d
theorem refB_tab {n m : Nat} {X xs : Nat → Nat} (h : okP n X = false) : refB n X m xs = false := by unfold refB; rw [h]; rfl
theorem refB_seg {n m k : Nat} {X xs : Nat → Nat} (hk : k < m) (h : segIn n X (xs k) = false) : refB n X m xs = false := by
  unfold refB; rw [refA_no hk h, Bool.false_and, Bool.and_false]
theorem refB_long {n m k : Nat} {X xs : Nat → Nat} (hk : k ≤ m) (h : 32 < (refI n X xs k).1) : refB n X m xs = false := by
  have hm := refI_mono n X xs hk
  have : okP (refI n X xs m).1 (refI n X xs m).2 = false := (okP_out (by omega)).symm
  unfold refB; rw [this, Bool.and_false, Bool.and_false]
theorem refB_end {n m : Nat} {X xs : Nat → Nat} (h : okP n X = true) (ha : ∀ i, i < m → segIn n X (xs i) = true) : refB n X m xs = okP (refI n X xs m).1 (refI n X xs m).2 := by
  unfold refB; rw [h, refA_yes ha, Bool.true_and, Bool.true_and]
theorem refN_no {n m : Nat} {X xs : Nat → Nat} (h : refB n X m xs = false) : refN n X m xs = 0 := by unfold refN; rw [if_neg (by rw [h]; exact Bool.false_ne_true)]
theorem refN_yes {n m : Nat} {X xs : Nat → Nat} (h : refB n X m xs = true) : refN n X m xs = (refI n X xs m).1 := by unfold refN; rw [if_pos h]
theorem refB_ok {n m : Nat} {X xs : Nat → Nat} (h : refB n X m xs = true) : okP n X = true ∧ (∀ i, i < m → segIn n X (xs i) = true) ∧ okP (refI n X xs m).1 (refI n X xs m).2 = true := by
  unfold refB at h
  rw [Bool.and_eq_true, Bool.and_eq_true] at h
  exact ⟨h.1, fun i hi => refA_at h.2.1 hi, h.2.2⟩
theorem refN_le (n : Nat) (X : Nat → Nat) (m : Nat) (xs : Nat → Nat) : refN n X m xs ≤ 32 := by
  cases h : refB n X m xs
  · rw [refN_no h]; omega
  · rw [refN_yes h]
    exact (okP_bounds (refB_ok h).2.2).2
theorem insC_at (Z : Nat → Nat) (p x y i : Nat) : insC Z p x y (i * 2) = (if i < p then Z (i * 2) else if i = p then x else Z ((i - 1) * 2)) ∧ insC Z p x y (i * 2 + 1) = (if i < p then Z (i * 2 + 1) else if i = p then y else Z ((i - 1) * 2 + 1)) := by
  unfold insC
  by_cases h1 : i < p
  · rw [if_pos h1, if_pos h1, if_pos (by omega), if_pos (by omega)]; exact ⟨rfl, rfl⟩
  · by_cases h2 : i = p
    · subst h2
      rw [if_neg h1, if_neg h1, if_pos rfl, if_pos rfl, if_neg (by omega), if_pos rfl, if_neg (by omega), if_neg (by omega), if_pos rfl]; exact ⟨rfl, rfl⟩
    · rw [if_neg h1, if_neg h1, if_neg h2, if_neg h2, if_neg (by omega), if_neg (by omega), if_neg (by omega), if_neg (by omega), if_neg (by omega), if_neg (by omega)]
      refine ⟨?_, ?_⟩ <;> congr 1 <;> omega
theorem ins_wf {n : Nat} {Z : Nat → Nat} {x y : Nat} (h : Wf n Z) (wx : (Lit.float .f32 x).wf = true) (wy : (Lit.float .f32 y).wf = true) : Wf (insN n Z x) (insX n Z x y) := by
  have hp := insAt_le n Z x
  unfold insN insX
  split
  · exact h
  · intro i hi
    obtain ⟨e0, e1⟩ := insC_at Z (insAt n Z x) x y i
    rw [e0, e1]
    by_cases h1 : i < insAt n Z x
    · rw [if_pos h1, if_pos h1]; exact h i (by omega)
    · by_cases h2 : i = insAt n Z x
      · rw [if_neg h1, if_neg h1, if_pos h2, if_pos h2]; exact ⟨wx, wy⟩
      · rw [if_neg h1, if_neg h1, if_neg h2, if_neg h2]; exact h (i - 1) (by omega)
theorem refI_wf {n m : Nat} {X xs : Nat → Nat} (h : Wf n X) (hx : WfF m xs) : ∀ i, i ≤ m → Wf (refI n X xs i).1 (refI n X xs i).2
  | 0, _ => h
  | i + 1, hi => ins_wf (refI_wf h hx i (by omega)) (hx i (by omega)) (ipV_wf h _)
theorem refN_wf {n m : Nat} {X xs : Nat → Nat} (h : Wf n X) (hx : WfF m xs) : Wf (refN n X m xs) (refX n X m xs) := by
  cases hb : refB n X m xs
  · rw [refN_no hb]; exact fun i hi => absurd hi (Nat.not_lt_zero _)
  · rw [refN_yes hb]; exact refI_wf h hx m (Nat.le_refl _)
end Go.Proofs.Ytbmojogohffhaaa.Pnt
