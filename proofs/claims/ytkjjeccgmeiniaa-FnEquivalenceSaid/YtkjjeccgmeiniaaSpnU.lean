/- Plain facts for spans: the next single by its significand and its exponent, as the model reckons it. No program stands here. -/
import Derived.Test.YtkjjeccgmeiniaaSpnP
namespace Go.Proofs.Ytkjjeccgmeiniaa.Flt
open Ieee Go.RowKit
set_option linter.unusedVariables false
theorem mg_low {r : Nat} (h : r < 8388608) : mg single r = r ∧ ss single r = r ∧ qq single r = 0 := by
  have hb := binade_single
  unfold mg ss qq
  rw [hb, if_pos h, if_pos h, Nat.div_eq_of_lt h]
  exact ⟨rfl, rfl, rfl⟩
theorem mg_high {r d m : Nat} (hm : m < 8388608) (h : r = (d + 1) * 8388608 + m) : mg single r = (8388608 + m) * 2 ^ d ∧ ss single r = 8388608 + m ∧ qq single r = d := by
  have hb := binade_single
  have e1 : r / 8388608 = d + 1 := by omega
  have e2 : r % 8388608 = m := by omega
  unfold mg ss qq
  rw [hb, if_neg (by omega), if_neg (by omega), e1, e2, Nat.add_sub_cancel]
  exact ⟨rfl, rfl, rfl⟩
theorem cases_r (r : Nat) : r < 8388608 ∨ ∃ d m, m < 8388608 ∧ r = (d + 1) * 8388608 + m := by
  by_cases h : r < 8388608
  · exact .inl h
  · exact .inr ⟨r / 8388608 - 1, r % 8388608, by omega, by omega⟩
theorem mg_next (r : Nat) : mg single (r + 1) = (ss single r + 1) * 2 ^ qq single r := by
  rcases cases_r r with h | ⟨d, m, hm, e⟩
  · obtain ⟨_, s, q⟩ := mg_low h
    rw [s, q, Nat.pow_zero, Nat.mul_one]
    by_cases h2 : r + 1 < 8388608
    · exact (mg_low h2).1
    · rw [(mg_high (r := r + 1) (d := 0) (m := 0) (by omega) (by omega)).1]; omega
  · obtain ⟨_, s, q⟩ := mg_high hm e
    rw [s, q]
    by_cases h2 : m + 1 < 8388608
    · rw [(mg_high (r := r + 1) (d := d) (m := m + 1) h2 (by omega)).1, Nat.add_assoc]
    · rw [(mg_high (r := r + 1) (d := d + 1) (m := 0) (by omega) (by omega)).1, Nat.pow_succ]
      have : 8388608 + m + 1 = 2 * 8388608 := by omega
      rw [this]
      generalize 2 ^ d = p
      omega
/-- significand and exponent from which the next one below is made -/
def dnS (r : Nat) : Nat := if ss single r = 8388608 ∧ 0 < qq single r then 16777216 else ss single r
def dnQ (r : Nat) : Nat := if ss single r = 8388608 ∧ 0 < qq single r then qq single r - 1 else qq single r
theorem mg_prev {r : Nat} (h1 : 1 ≤ r) : mg single (r - 1) = (dnS r - 1) * 2 ^ dnQ r ∧ (dnS r = 1 ↔ r = 1) ∧ 1 ≤ dnS r ∧ dnS r ≤ 16777216 := by
  unfold dnS dnQ
  rcases cases_r r with h | ⟨d, m, hm, e⟩
  · obtain ⟨_, s, q⟩ := mg_low h
    rw [s, q, if_neg (by omega), if_neg (by omega), (mg_low (show r - 1 < 8388608 by omega)).1, Nat.pow_zero, Nat.mul_one]
    omega
  · obtain ⟨_, s, q⟩ := mg_high hm e
    rw [s, q]
    by_cases hm0 : m = 0
    · by_cases hd : d = 0
      · rw [if_neg (by omega), if_neg (by omega), (mg_low (show r - 1 < 8388608 by omega)).1, hd, Nat.pow_zero, Nat.mul_one]
        omega
      · rw [if_pos (by omega), if_pos (by omega), (mg_high (r := r - 1) (d := d - 1) (m := 8388607) (by omega) (by omega)).1]
        refine ⟨by rfl, by omega, by omega, by omega⟩
    · rw [if_neg (by omega), if_neg (by omega), (mg_high (r := r - 1) (d := d) (m := m - 1) (by omega) (by omega)).1]
      refine ⟨by congr 1; omega, by omega, by omega, by omega⟩
/-- what is made of a significand and an exponent, narrowed -/
theorem made_nrw {s q R : Nat} (hs : s ≤ 16777216) (hq : q ≤ 300) (hR : R < single.infRung) (h : mg single R = s * 2 ^ q) : A s q < double.infRung ∧ nrw (A s q) = R ∧ floatToFloatBits .f64 (A s q) .f32 = some R := by
  obtain ⟨a1, a2⟩ := A_spec (m := s) (q := q) (by omega) (by omega)
  have hn : nrw (A s q) = R := by
    unfold nrw
    rw [a2]
    refine rr_exact single R (Nat.two_pow_pos W) ?_
    rw [h, Nat.mul_assoc, ← Nat.pow_add, Nat.add_comm q W]
  exact ⟨a1, hn, by rw [narrow_pos a1 (by rw [hn]; exact hR), hn]⟩
end Go.Proofs.Ytkjjeccgmeiniaa.Flt
