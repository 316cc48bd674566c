/- Plain facts: the sorted list rises; its first is the least and its last the greatest; equal elements. -/
import Derived.Test.YtlbapogmcnpmeaaAvgR
namespace Go.Proofs.Ytlbapogmcnpmeaa.Avg
open Go.ChangeShapes Go.WideShapes Go.ChangeAt Go.RowKit Go.Deep Go.Proofs.Ytlbapogmcnpmeaa Go.Proofs.Ytlbapogmcnpmeaa.Flt Go.Proofs.Ytlbapogmcnpmeaa.Mth Go.Proofs.Ytlbapogmcnpmeaa.Sgl
open Ieee (single double)
set_option linter.unusedVariables false
theorem gt_sv {x y : Nat} (hx : finB x = true) (hy : finB y = true) : gtB x y = decide (sv single y < sv single x) := by
  have nx := fin_num hx
  have ny := fin_num hy
  unfold gtB
  rw [gt32]
  unfold ltW
  rw [nx, ny]; rfl
/-- rising by value -/
def Rises (n : Nat) (Z : Nat → Nat) : Prop := ∀ i j, i < j → j < n → sv single (Z i) ≤ sv single (Z j)
theorem posn_spec {Z : Nat → Nat} {x : Nat} (hx : finB x = true) : ∀ q, (∀ j, j < q → finB (Z j) = true) → Rises q Z →
    (∀ i, i < posn Z x q → sv single (Z i) ≤ sv single x) ∧ (∀ i, posn Z x q ≤ i → i < q → sv single x < sv single (Z i))
  | 0, _, _ => ⟨fun i hi => absurd hi (Nat.not_lt_zero _), fun i _ hi => absurd hi (Nat.not_lt_zero _)⟩
  | q + 1, hf, hr => by
    obtain ⟨h1, h2⟩ := posn_spec hx q (fun j hj => hf j (by omega)) (fun i j hij hj => hr i j hij (by omega))
    have hg := gt_sv (hf q (by omega)) hx
    unfold posn
    cases hc : gtB (Z q) x
    · rw [hc] at hg
      have hle := of_decide_eq_false hg.symm
      rw [if_neg (by simp)]
      refine ⟨fun i hi => ?_, fun i h3 h4 => absurd h4 (by omega)⟩
      by_cases e : i = q
      · subst e; omega
      · have := hr i q (by omega) (by omega); omega
    · rw [hc] at hg
      have hlt := of_decide_eq_true hg.symm
      rw [if_pos rfl]
      refine ⟨h1, fun i h3 h4 => ?_⟩
      by_cases e : i = q
      · subst e; exact hlt
      · exact h2 i h3 (by omega)
theorem insF_rises {Z : Nat → Nat} {x q p : Nat} (hp : p ≤ q) (hr : Rises q Z) (h1 : ∀ i, i < p → sv single (Z i) ≤ sv single x) (h2 : ∀ i, p ≤ i → i < q → sv single x < sv single (Z i)) : Rises (q + 1) (insF Z p x) := by
  intro i j hij hj
  unfold insF
  by_cases a1 : i < p
  · rw [if_pos a1]
    by_cases b1 : j < p
    · rw [if_pos b1]; exact hr i j hij (by omega)
    · rw [if_neg b1]
      by_cases b2 : j = p
      · rw [if_pos b2]; exact h1 i a1
      · rw [if_neg b2]; have := h1 i a1; have := h2 (j - 1) (by omega) (by omega); omega
  · rw [if_neg a1, if_neg (show ¬ j < p by omega), if_neg (show ¬ j = p by omega)]
    by_cases a2 : i = p
    · rw [if_pos a2]; have := h2 (j - 1) (by omega) (by omega); omega
    · rw [if_neg a2]; exact hr (i - 1) (j - 1) (by omega) (by omega)
theorem srt_fin {X : Nat → Nat} {n : Nat} (hf : ∀ j, j < n → finB (X j) = true) : ∀ j, j < n → finB (srt X n j) = true := fun j hj => by
  obtain ⟨i, hi, e⟩ := srt_mem X n j hj
  rw [e]; exact hf i hi
theorem srt_rises {X : Nat → Nat} : ∀ n, (∀ j, j < n → finB (X j) = true) → Rises n (srt X n)
  | 0, _ => fun i j _ h => absurd h (Nat.not_lt_zero _)
  | n + 1, hf => by
    have ih := srt_rises n (fun j hj => hf j (by omega))
    obtain ⟨h1, h2⟩ := posn_spec (hf n (by omega)) n (srt_fin (fun j hj => hf j (by omega))) ih
    exact insF_rises (posn_le _ _ _) ih h1 h2
/-- each element of the list stands in the sorted one -/
theorem srt_has (X : Nat → Nat) : ∀ n i, i < n → ∃ j, j < n ∧ srt X n j = X i
  | 0, i, h => absurd h (Nat.not_lt_zero _)
  | n + 1, i, h => by
    have hp := posn_le (srt X n) (X n) n
    show ∃ j, j < n + 1 ∧ insF (srt X n) (posn (srt X n) (X n) n) (X n) j = X i
    generalize posn (srt X n) (X n) n = p at *
    unfold insF
    by_cases e : i = n
    · exact ⟨p, by omega, by rw [if_neg (by omega), if_pos rfl, e]⟩
    · obtain ⟨j, hj, hji⟩ := srt_has X n i (by omega)
      by_cases hjp : j < p
      · exact ⟨j, by omega, by rw [if_pos hjp]; exact hji⟩
      · exact ⟨j + 1, by omega, by rw [if_neg (by omega), if_neg (by omega), Nat.add_sub_cancel]; exact hji⟩
/-- the first is the least, the last the greatest -/
theorem srt_least {X : Nat → Nat} {n i : Nat} (hf : ∀ j, j < n → finB (X j) = true) (hi : i < n) : sv single (srt X n 0) ≤ sv single (X i) ∧ sv single (X i) ≤ sv single (srt X n (n - 1)) := by
  obtain ⟨j, hj, e⟩ := srt_has X n i hi
  have hr := srt_rises n hf
  rw [← e]
  constructor
  · by_cases h0 : j = 0
    · rw [h0]; exact Int.le_refl _
    · exact hr 0 j (by omega) hj
  · by_cases h1 : j = n - 1
    · rw [h1]; exact Int.le_refl _
    · exact hr j (n - 1) (by omega) (by omega)
end Go.Proofs.Ytlbapogmcnpmeaa.Avg
