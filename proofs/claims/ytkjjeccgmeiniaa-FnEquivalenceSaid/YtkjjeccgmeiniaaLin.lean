/- Plain facts: sums and differences of singles by their values; the line between two points. No program stands here. -/
import Derived.Test.YtkjjeccgmeiniaaFltU
import Derived.Test.YtkjjeccgmeiniaaFltM
namespace Go.Proofs.Ytkjjeccgmeiniaa.Flt
open Ieee Go.RowKit
set_option linter.unusedVariables false
theorem sum_data (f : Format) (s t : Bool) (m n i j : Nat) :
    ∃ u, (Datum.sum (.number s m (f.leastPlace + (i : Int))) (.number t n (f.leastPlace + (j : Int)))).map f.write = some (f.word u (min (rr f (signed s m i + signed t n j).natAbs 1) f.infRung)) ∧ (signed s m i + signed t n j ≠ 0 → u = decide (signed s m i + signed t n j < 0)) := by
  have step : ∀ (T Z : Int) (e : Nat) (b : Bool), T * (2 ^ e : Nat) = Z → ∃ u, (some (Datum.number (if T = 0 then b else decide (T < 0)) T.natAbs (f.leastPlace + (e : Int)))).map f.write = some (f.word u (min (rr f Z.natAbs 1) f.infRung)) ∧ (Z ≠ 0 → u = decide (Z < 0)) := by
    intro T Z e b h
    have hp : 0 < 2 ^ e := Nat.two_pow_pos e
    refine ⟨(if T = 0 then b else decide (T < 0)), ?_, ?_⟩
    · rw [Option.map_some, write_num, nearest_rr]
      rw [show (f.leastPlace + (e : Int) - f.leastPlace).toNat = e by omega, show (f.leastPlace - (f.leastPlace + (e : Int))).toNat = 0 by omega, Nat.pow_zero, ← h, Int.natAbs_mul, Int.natAbs_natCast]
    · intro hz
      have h0 : T ≠ 0 := fun e0 => hz (by rw [← h, e0, Int.zero_mul])
      rw [if_neg h0]
      have : T < 0 ↔ Z < 0 := by
        rw [← h]
        constructor
        · intro ht
          have := Int.mul_lt_mul_of_pos_right ht (show (0 : Int) < ((2 ^ e : Nat) : Int) by exact_mod_cast hp)
          rw [Int.zero_mul] at this; exact this
        · intro ht
          refine Int.not_le.1 fun hn => ?_
          have := Int.mul_nonneg hn (show (0 : Int) ≤ ((2 ^ e : Nat) : Int) from Int.natCast_nonneg _)
          omega
      exact decide_eq_decide.2 this
  unfold Datum.sum
  simp only
  by_cases h : i ≤ j
  · rw [show min (f.leastPlace + (i : Int)) (f.leastPlace + (j : Int)) = f.leastPlace + (i : Int) by omega]
    rw [show (f.leastPlace + (i : Int) - (f.leastPlace + (i : Int))).toNat = 0 by omega, show (f.leastPlace + (j : Int) - (f.leastPlace + (i : Int))).toNat = j - i by omega]
    have e : (signed s m 0 + signed t n (j - i)) * (2 ^ i : Nat) = signed s m i + signed t n j := by
      have h1 := signed_mul s m 0 i
      have h2 := signed_mul t n (j - i) i
      rw [Nat.zero_add] at h1
      rw [Nat.sub_add_cancel h] at h2
      rw [Int.add_mul, ← h1, ← h2]
    exact step _ _ _ _ e
  · rw [show min (f.leastPlace + (i : Int)) (f.leastPlace + (j : Int)) = f.leastPlace + (j : Int) by omega]
    rw [show (f.leastPlace + (j : Int) - (f.leastPlace + (j : Int))).toNat = 0 by omega, show (f.leastPlace + (i : Int) - (f.leastPlace + (j : Int))).toNat = i - j by omega]
    have e : (signed s m (i - j) + signed t n 0) * (2 ^ j : Nat) = signed s m i + signed t n j := by
      have h1 := signed_mul s m (i - j) j
      have h2 := signed_mul t n 0 j
      rw [Nat.zero_add] at h2
      rw [Nat.sub_add_cancel (by omega)] at h1
      rw [Int.add_mul, ← h1, ← h2]
    exact step _ _ _ _ e
/-- a value rounded to a single, in units of the least place -/
def rnd (z : Int) : Int := if z < 0 then -((mg single (min (rr single z.natAbs 1) single.infRung) : Nat) : Int) else ((mg single (min (rr single z.natAbs 1) single.infRung) : Nat) : Int)
theorem rr_zero1 : rr single 0 1 = 0 := rr_zero single (by omega)
theorem word_rnd {u : Bool} {z : Int} (h : z ≠ 0 → u = decide (z < 0)) : sv single (single.word u (min (rr single z.natAbs 1) single.infRung)) = rnd z := by
  rw [word_sv single u (Nat.min_le_right _ _)]
  unfold rnd
  by_cases hz : z = 0
  · subst hz
    rw [Int.natAbs_zero, rr_zero1, Nat.zero_min, mg_zero]
    cases u <;> rfl
  · rw [h hz]
    by_cases hn : z < 0
    · rw [decide_eq_true hn]; simp [hn]
    · rw [decide_eq_false hn]; simp [hn]
/-- the sum of two finite singles -/
theorem add_val {a b : Nat} (ha : rung single a < single.infRung) (hb : rung single b < single.infRung) :
    ∃ r, floatBits .add .f32 a b = some r ∧ r < 4294967296 ∧ isNaN single r = false ∧ rung single r = min (rr single (sv single a + sv single b).natAbs 1) single.infRung ∧ sv single r = rnd (sv single a + sv single b) := by
  show ∃ r, single.add a b = some r ∧ _
  unfold Format.add
  rw [reads_fin single ha, reads_fin single hb]
  obtain ⟨u, h1, h2⟩ := sum_data single (sgn single a) (sgn single b) (ss single (rung single a)) (ss single (rung single b)) (qq single (rung single a)) (qq single (rung single b))
  rw [← sv_signed, ← sv_signed] at h1 h2
  refine ⟨_, h1, ?_, word_nan single u (Nat.min_le_right _ _), rung_word single u (Nat.lt_of_le_of_lt (Nat.min_le_right _ _) (inf_lt single)), word_rnd h2⟩
  exact word_lt32 u (Nat.lt_of_le_of_lt (Nat.min_le_right _ _) (inf_lt single))
/-- the difference of two finite singles -/
theorem sub_val {a b : Nat} (ha : rung single a < single.infRung) (hb : rung single b < single.infRung) :
    ∃ r, floatBits .sub .f32 a b = some r ∧ r < 4294967296 ∧ isNaN single r = false ∧ rung single r = min (rr single (sv single a - sv single b).natAbs 1) single.infRung ∧ sv single r = rnd (sv single a - sv single b) := by
  show ∃ r, single.sub a b = some r ∧ _
  unfold Format.sub
  rw [reads_fin single ha, reads_fin single hb]
  obtain ⟨u, h1, h2⟩ := sum_data single (sgn single a) (!sgn single b) (ss single (rung single a)) (ss single (rung single b)) (qq single (rung single a)) (qq single (rung single b))
  rw [signed_not, ← sv_signed, ← sv_signed, ← Int.sub_eq_add_neg] at h1 h2
  refine ⟨_, h1, ?_, word_nan single u (Nat.min_le_right _ _), rung_word single u (Nat.lt_of_le_of_lt (Nat.min_le_right _ _) (inf_lt single)), word_rnd h2⟩
  exact word_lt32 u (Nat.lt_of_le_of_lt (Nat.min_le_right _ _) (inf_lt single))
/-- the rung of a rounded value -/
def rg (n : Nat) : Nat := min (rr single n 1) single.infRung
theorem rg_mono {n m : Nat} (h : n ≤ m) : rg n ≤ rg m := by
  unfold rg
  have := rr_mono single (N := n) (D := 1) (N' := m) (D' := 1) (by omega) (by omega) (by omega)
  omega
theorem mg_mono {r s : Nat} (h : r ≤ s) : mg single r ≤ mg single s := (mg_le_iff single).2 h
theorem rnd_eq (z : Int) : rnd z = if z < 0 then -((mg single (rg z.natAbs) : Nat) : Int) else ((mg single (rg z.natAbs) : Nat) : Int) := rfl
theorem rnd_mono {y z : Int} (h : y ≤ z) : rnd y ≤ rnd z := by
  rw [rnd_eq, rnd_eq]
  split
  · split
    · have := mg_mono (rg_mono (show z.natAbs ≤ y.natAbs by omega)); omega
    · omega
  · split
    · omega
    · have := mg_mono (rg_mono (show y.natAbs ≤ z.natAbs by omega)); omega
theorem rg_mg {r : Nat} (h : r ≤ single.infRung) : rg (mg single r) = r := by
  unfold rg
  rw [rr_exact single (N := mg single r) (D := 1) r (by omega) (by omega)]
  omega
theorem sv_abs (f : Format) (a : Nat) : (sv f a).natAbs = mg f (rung f a) := by
  unfold sv; split <;> omega
theorem rnd_sv {a : Nat} (h : rung single a ≤ single.infRung) : rnd (sv single a) = sv single a := by
  rw [rnd_eq, sv_abs, rg_mg h]
  unfold sv
  cases hs : sgn single a
  · simp
    intro h; omega
  · simp only [if_true]
    split
    · rfl
    · omega
theorem rnd_neg (z : Int) : rnd (-z) = - rnd z := by
  rw [rnd_eq, rnd_eq, Int.natAbs_neg]
  by_cases h : z = 0
  · subst h
    simp only [Int.natAbs_zero]
    have : rg 0 = 0 := by unfold rg; rw [rr_zero1]; rfl
    rw [this, mg_zero]; rfl
  · split <;> split <;> omega
end Go.Proofs.Ytkjjeccgmeiniaa.Flt
