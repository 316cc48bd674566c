/- Plain facts for spans: products of singles are exact doubles; sums and products of small singles can be narrowed. No program stands here. -/
import Derived.Test.YtkjjeccgmeiniaaSpnP
namespace Go.Proofs.Ytkjjeccgmeiniaa.Flt
open Ieee Go.RowKit
set_option linter.unusedVariables false
theorem prod_pow (a b i j V : Nat) (hV : 149 ≤ V) : a * 2 ^ i * 2 ^ V * (b * 2 ^ j * 2 ^ V) = a * b * 2 ^ (V - 149 + i + j) * 2 ^ (V + 149) := by
  have e : 2 ^ i * 2 ^ V * (2 ^ j * 2 ^ V) = 2 ^ (V - 149 + i + j) * 2 ^ (V + 149) := by
    rw [← Nat.pow_add, ← Nat.pow_add, ← Nat.pow_add, ← Nat.pow_add]
    congr 1; omega
  generalize 2 ^ (V - 149 + i + j) = s at *
  generalize 2 ^ (V + 149) = t at *
  generalize 2 ^ i = u at *
  generalize 2 ^ j = v at *
  generalize 2 ^ V = p at *
  have h : a * u * p * (b * v * p) = a * b * (u * p * (v * p)) := by ac_rfl
  rw [h, e]
  ac_rfl
/-- the product of two singles, as a double: exact -/
theorem mul_val {x y : Nat} (hx : fnS x = true) (hy : fnS y = true) :
    ∃ p, floatBits .mul .f64 (widen x) (widen y) = some p ∧ p < 18446744073709551616 ∧ isNaN double p = false ∧ rung double p < double.infRung ∧ sv double p * ((PV : Nat) : Int) = vW x * vW y := by
  have rx := fnS_iff.1 hx
  have ry := fnS_iff.1 hy
  have wx := wr_spec rx
  have wy := wr_spec ry
  have hfx : rung double (widen x) < double.infRung := by rw [rung_widen, if_pos rx]; exact wx.1
  have hfy : rung double (widen y) < double.infRung := by rw [rung_widen, if_pos ry]; exact wy.1
  have mx := mg_ss single (rung single x)
  have my := mg_ss single (rung single y)
  have sx := ss_lt single (rung single x)
  have sy := ss_lt single (rung single y)
  rw [binade_single] at sx sy
  have qx : qq single (rung single x) ≤ 253 := by unfold qq; rw [binade_single]; rw [inf_single] at rx; omega
  have qy : qq single (rung single y) ≤ 253 := by unfold qq; rw [binade_single]; rw [inf_single] at ry; omega
  obtain ⟨a, ha⟩ : ∃ a, ss single (rung single x) = a := ⟨_, rfl⟩
  obtain ⟨b, hb⟩ : ∃ b, ss single (rung single y) = b := ⟨_, rfl⟩
  obtain ⟨i, hi⟩ : ∃ i, qq single (rung single x) = i := ⟨_, rfl⟩
  obtain ⟨j, hj⟩ : ∃ j, qq single (rung single y) = j := ⟨_, rfl⟩
  rw [ha, hi] at mx
  rw [hb, hj] at my
  rw [ha] at sx
  rw [hb] at sy
  rw [hi] at qx
  rw [hj] at qy
  have hW : 149 ≤ W := by rw [W_eq]; omega
  have hab : a * b < 9007199254740992 := by
    have := Nat.mul_le_mul (Nat.le_of_lt sx) (Nat.le_of_lt sy)
    omega
  obtain ⟨R, hR⟩ := mg_surj double (W - 149 + i + j) (a * b) (by rw [binade_double]; omega)
  have hprod : mg double (wr (rung single x)) * mg double (wr (rung single y)) = mg double R * PV := by
    rw [wx.2, wy.2, mx, my, hR, ← PV_eq]
    exact prod_pow a b i j W hW
  have hRi : R < double.infRung := by
    rw [← mg_lt_iff double, hR]
    have h1 := (A_spec (m := a * b) (q := i + j) hab (by omega))
    have h2 := (mg_lt_iff double).2 h1.1
    rw [h1.2] at h2
    refine Nat.lt_of_le_of_lt (Nat.mul_le_mul_left _ (Nat.pow_le_pow_right (by omega) (by omega))) h2
  have hq : mulRung double (rung double (widen x)) (rung double (widen y)) = R := by
    unfold mulRung
    rw [rung_widen, if_pos rx, rung_widen, if_pos ry, lamPV, rr_exact double R PV_pos hprod]
    omega
  have hmul : floatBits .mul .f64 (widen x) (widen y) = some (double.word (sgn single x ^^ sgn single y) R) := by
    show double.mul _ _ = _
    rw [mul_rr double least_le_d hfx hfy, hq, sgn_widen, sgn_widen]
  have hle := Nat.le_of_lt hRi
  refine ⟨_, hmul, word_lt64 _ (Nat.lt_of_le_of_lt hle (inf_lt double)), word_nan double _ hle, by rw [rung_word double _ (Nat.lt_of_le_of_lt hle (inf_lt double))]; exact hRi, ?_⟩
  rw [word_sv double _ hle, vW_eq hx, vW_eq hy]
  have hc : ((mg double (wr (rung single x)) : Nat) : Int) * ((mg double (wr (rung single y)) : Nat) : Int) = ((mg double R : Nat) : Int) * ((PV : Nat) : Int) := by exact_mod_cast hprod
  generalize ((mg double (wr (rung single x)) : Nat) : Int) = u at *
  generalize ((mg double (wr (rung single y)) : Nat) : Int) = v at *
  generalize ((mg double R : Nat) : Int) = r at *
  generalize ((PV : Nat) : Int) = p at *
  cases sgn single x <;> cases sgn single y <;> simp [Int.neg_mul, Int.mul_neg] <;> omega
/-- what is not beyond the greatest single can be narrowed -/
theorem nrw_fit {x : Nat} (h : (sv double x).natAbs ≤ mg single 2139095039 * 2 ^ W) : nrw (rung double x) < single.infRung := by
  rw [sv_abs] at h
  have : nrw (rung double x) ≤ 2139095039 := by
    unfold nrw
    exact rr_le single 2139095039 (Nat.two_pow_pos _) h
  rw [inf_single]
  omega
end Go.Proofs.Ytkjjeccgmeiniaa.Flt
