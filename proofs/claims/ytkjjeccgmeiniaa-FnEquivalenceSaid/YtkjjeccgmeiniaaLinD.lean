/- Plain facts: sums and differences of doubles by their values. No program stands here. -/
import Derived.Test.YtkjjeccgmeiniaaLin
namespace Go.Proofs.Ytkjjeccgmeiniaa.Flt
open Ieee Go.RowKit
set_option linter.unusedVariables false
theorem word_lt64 (s : Bool) {r : Nat} (h : r < double.signWeight) : double.word s r < 18446744073709551616 := by
  have := word_lt' double s h
  rw [width_double] at this; exact this
/-- a value rounded to a double, in units of the least place -/
def rndD (z : Int) : Int := if z < 0 then -((mg double (min (rr double z.natAbs 1) double.infRung) : Nat) : Int) else ((mg double (min (rr double z.natAbs 1) double.infRung) : Nat) : Int)
theorem rr_zero1D : rr double 0 1 = 0 := rr_zero double (by omega)
theorem word_rndD {u : Bool} {z : Int} (h : z ≠ 0 → u = decide (z < 0)) : sv double (double.word u (min (rr double z.natAbs 1) double.infRung)) = rndD z := by
  rw [word_sv double u (Nat.min_le_right _ _)]
  unfold rndD
  by_cases hz : z = 0
  · subst hz
    rw [Int.natAbs_zero, rr_zero1D, Nat.zero_min, mg_zero]
    cases u <;> rfl
  · rw [h hz]
    by_cases hn : z < 0
    · rw [decide_eq_true hn]; simp [hn]
    · rw [decide_eq_false hn]; simp [hn]
/-- the sum of two finite doubles -/
theorem add_valD {a b : Nat} (ha : rung double a < double.infRung) (hb : rung double b < double.infRung) :
    ∃ r, floatBits .add .f64 a b = some r ∧ r < 18446744073709551616 ∧ isNaN double r = false ∧ rung double r = min (rr double (sv double a + sv double b).natAbs 1) double.infRung ∧ sv double r = rndD (sv double a + sv double b) := by
  show ∃ r, double.add a b = some r ∧ _
  unfold Format.add
  rw [reads_fin double ha, reads_fin double hb]
  obtain ⟨u, h1, h2⟩ := sum_data double (sgn double a) (sgn double b) (ss double (rung double a)) (ss double (rung double b)) (qq double (rung double a)) (qq double (rung double b))
  rw [← sv_signed, ← sv_signed] at h1 h2
  refine ⟨_, h1, ?_, word_nan double u (Nat.min_le_right _ _), rung_word double u (Nat.lt_of_le_of_lt (Nat.min_le_right _ _) (inf_lt double)), word_rndD h2⟩
  exact word_lt64 u (Nat.lt_of_le_of_lt (Nat.min_le_right _ _) (inf_lt double))
/-- the difference of two finite doubles -/
theorem sub_valD {a b : Nat} (ha : rung double a < double.infRung) (hb : rung double b < double.infRung) :
    ∃ r, floatBits .sub .f64 a b = some r ∧ r < 18446744073709551616 ∧ isNaN double r = false ∧ rung double r = min (rr double (sv double a - sv double b).natAbs 1) double.infRung ∧ sv double r = rndD (sv double a - sv double b) := by
  show ∃ r, double.sub a b = some r ∧ _
  unfold Format.sub
  rw [reads_fin double ha, reads_fin double hb]
  obtain ⟨u, h1, h2⟩ := sum_data double (sgn double a) (!sgn double b) (ss double (rung double a)) (ss double (rung double b)) (qq double (rung double a)) (qq double (rung double b))
  rw [signed_not, ← sv_signed, ← sv_signed, ← Int.sub_eq_add_neg] at h1 h2
  refine ⟨_, h1, ?_, word_nan double u (Nat.min_le_right _ _), rung_word double u (Nat.lt_of_le_of_lt (Nat.min_le_right _ _) (inf_lt double)), word_rndD h2⟩
  exact word_lt64 u (Nat.lt_of_le_of_lt (Nat.min_le_right _ _) (inf_lt double))
/-- the rung of a rounded value -/
def rgD (n : Nat) : Nat := min (rr double n 1) double.infRung
theorem rg_monoD {n m : Nat} (h : n ≤ m) : rgD n ≤ rgD m := by
  unfold rgD
  have := rr_mono double (N := n) (D := 1) (N' := m) (D' := 1) (by omega) (by omega) (by omega)
  omega
theorem mg_monoD {r s : Nat} (h : r ≤ s) : mg double r ≤ mg double s := (mg_le_iff double).2 h
theorem rnd_eqD (z : Int) : rndD z = if z < 0 then -((mg double (rgD z.natAbs) : Nat) : Int) else ((mg double (rgD z.natAbs) : Nat) : Int) := rfl
theorem rnd_monoD {y z : Int} (h : y ≤ z) : rndD y ≤ rndD z := by
  rw [rnd_eqD, rnd_eqD]
  split
  · split
    · have := mg_monoD (rg_monoD (show z.natAbs ≤ y.natAbs by omega)); omega
    · omega
  · split
    · omega
    · have := mg_monoD (rg_monoD (show y.natAbs ≤ z.natAbs by omega)); omega
theorem rg_mgD {r : Nat} (h : r ≤ double.infRung) : rgD (mg double r) = r := by
  unfold rgD
  rw [rr_exact double (N := mg double r) (D := 1) r (by omega) (by omega)]
  omega
theorem rnd_svD {a : Nat} (h : rung double a ≤ double.infRung) : rndD (sv double a) = sv double a := by
  rw [rnd_eqD, sv_abs, rg_mgD h]
  unfold sv
  cases hs : sgn double a
  · simp
    intro h; omega
  · simp only [if_true]
    split
    · rfl
    · omega
theorem rnd_negD (z : Int) : rndD (-z) = - rndD z := by
  rw [rnd_eqD, rnd_eqD, Int.natAbs_neg]
  by_cases h : z = 0
  · subst h
    simp only [Int.natAbs_zero]
    have : rgD 0 = 0 := by unfold rgD; rw [rr_zero1D]; rfl
    rw [this, mg_zero]; rfl
  · split <;> split <;> omega
end Go.Proofs.Ytkjjeccgmeiniaa.Flt
