/- Plain facts on positive singles, as they are drawn for ranges. No program stands here. -/
import Derived.Test.YtkjjeccgmeiniaaFltR
namespace Go.Proofs.Ytkjjeccgmeiniaa.Flt
open Ieee
theorem pos_rung {r : Nat} (h : r < 2139095040) : rung single r = r := by unfold rung; rw [sw_single]; exact Nat.mod_eq_of_lt (by omega)
theorem pos_sgn {r : Nat} (h : r < 2139095040) : sgn single r = false := by unfold sgn; rw [sw_single, Nat.div_eq_of_lt (by omega)]; rfl
theorem pos_nan {r : Nat} (h : r < 2139095040) : isNaN single r = false := by unfold isNaN; rw [pos_rung h, inf_single]; exact decide_eq_false (by omega)
theorem pos_sv {r : Nat} (h : r < 2139095040) : sv single r = ((mg single r : Nat) : Int) := by unfold sv; rw [pos_sgn h, pos_rung h]; rfl
theorem pos_lt (r s : Nat) (hr : r < 2139095040) (hs : s < 2139095040) : ltW single r s = decide (r < s) := by
  unfold ltW
  rw [pos_nan hr, pos_nan hs, pos_sv hr, pos_sv hs]
  simp only [Bool.not_false, Bool.true_and]
  apply decide_eq_decide.2
  rw [Int.ofNat_lt]; exact mg_lt_iff _
theorem pos_eq (r s : Nat) (hr : r < 2139095040) (hs : s < 2139095040) : eqW single r s = decide (r = s) := by
  unfold eqW
  rw [pos_nan hr, pos_nan hs, pos_sv hr, pos_sv hs]
  simp only [Bool.not_false, Bool.true_and]
  apply decide_eq_decide.2
  constructor
  · intro h; exact (mg_inj single).1 (by omega)
  · intro h; rw [h]
/-- quotients and products of positive singles -/
theorem pos_quo {r s : Nat} (hr : r < 2139095040) (hs : s < 2139095040) (h0 : s ≠ 0) : floatBits .quo .f32 r s = some (quoRung single r s) := by
  have h := div_rr single least_le (x := r) (y := s) (by rw [pos_rung hr, inf_single]; exact hr) (by rw [pos_rung hs, inf_single]; exact hs) (by rw [pos_rung hs]; exact h0)
  rw [pos_rung hr, pos_rung hs, pos_sgn hr, pos_sgn hs, Bool.xor_false, word_false] at h
  exact h
theorem pos_mul {r s : Nat} (hr : r < 2139095040) (hs : s < 2139095040) : floatBits .mul .f32 r s = some (mulRung single r s) := by
  have h := mul_rr single least_le (x := r) (y := s) (by rw [pos_rung hr, inf_single]; exact hr) (by rw [pos_rung hs, inf_single]; exact hs)
  rw [pos_rung hr, pos_rung hs, pos_sgn hr, pos_sgn hs, Bool.xor_false, word_false] at h
  exact h
theorem mg_pos {r : Nat} (h : r ≠ 0) : 0 < mg single r := Nat.pos_of_ne_zero fun e => h ((mg_eq_zero single).1 e)
theorem quo_mono {r r' s s' : Nat} (hr : r ≤ r') (hs : s' ≤ s) (h0 : s' ≠ 0) : quoRung single r s ≤ quoRung single r' s' := by
  have h := rr_mono single (N := mg single r * 2 ^ lam single) (D := mg single s) (N' := mg single r' * 2 ^ lam single) (D' := mg single s') (mg_pos (by omega)) (mg_pos h0) (Nat.mul_le_mul (Nat.mul_le_mul_right _ ((mg_le_iff single).2 hr)) ((mg_le_iff single).2 hs))
  unfold quoRung
  omega
theorem mul_mono {r r' s s' : Nat} (hr : r ≤ r') (hs : s ≤ s') : mulRung single r s ≤ mulRung single r' s' := by
  have h := rr_mono single (N := mg single r * mg single s) (D := 2 ^ lam single) (N' := mg single r' * mg single s') (D' := 2 ^ lam single) (Nat.two_pow_pos _) (Nat.two_pow_pos _) (Nat.mul_le_mul_right _ (Nat.mul_le_mul ((mg_le_iff single).2 hr) ((mg_le_iff single).2 hs)))
  unfold mulRung
  omega
theorem mg_two : mg single 1073741824 = 2 * P149 := by decide +kernel
theorem mg_three : mg single 1077936128 = 3 * P149 := by decide +kernel
theorem mg_four : mg single 1082130432 = 4 * P149 := by decide +kernel
/-- one binade up is twice the amount -/
theorem mg_up {r : Nat} (h : 8388608 ≤ r) : mg single (r + 8388608) = 2 * mg single r := by
  unfold mg
  rw [binade_single, if_neg (by omega), if_neg (by omega)]
  have e1 : (r + 8388608) % 8388608 = r % 8388608 := Nat.add_mod_right r 8388608
  have e2 : (r + 8388608) / 8388608 = r / 8388608 + 1 := Nat.add_div_right r (by omega)
  have h1 : 1 ≤ r / 8388608 := (Nat.le_div_iff_mul_le (by omega)).2 (by omega)
  rw [e1, e2, show r / 8388608 + 1 - 1 = (r / 8388608 - 1) + 1 by omega, Nat.pow_succ, ← Nat.mul_assoc, Nat.mul_comm 2]
theorem mul_le_of {r s t : Nat} (h : mg single r * mg single s ≤ mg single t * P149) : mulRung single r s ≤ t := by
  unfold mulRung
  refine Nat.le_trans (Nat.min_le_left _ _) (rr_le single _ (Nat.two_pow_pos _) ?_)
  rw [lam_single, P149_eq]; exact h
theorem mul_ge_of {r s t : Nat} (ht : t ≤ single.infRung) (h : mg single t * P149 ≤ mg single r * mg single s) : t ≤ mulRung single r s := by
  unfold mulRung
  have := rr_ge single (N := mg single r * mg single s) (D := 2 ^ lam single) t (Nat.two_pow_pos _) (by rw [lam_single, P149_eq]; exact h)
  omega
theorem quo_le_of {r s t : Nat} (h0 : s ≠ 0) (h : mg single r * P149 ≤ mg single t * mg single s) : quoRung single r s ≤ t := by
  unfold quoRung
  refine Nat.le_trans (Nat.min_le_left _ _) (rr_le single _ (mg_pos h0) ?_)
  rw [lam_single, P149_eq]; exact h
theorem quo_ge_of {r s t : Nat} (h0 : s ≠ 0) (ht : t ≤ single.infRung) (h : mg single t * mg single s ≤ mg single r * P149) : t ≤ quoRung single r s := by
  unfold quoRung
  have := rr_ge single (N := mg single r * 2 ^ lam single) (D := mg single s) t (mg_pos h0) (by rw [lam_single, P149_eq]; exact h)
  omega
/-- times 2, 3, 10: greater, and below the bound of the next round -/
def Bnd (i : Nat) : Nat := 1107296256 + 33554432 * i
theorem bnd_up : ∀ i, i < 6 → mulRung single (Bnd i) 1098907648 = Bnd (i + 1) := by decide +kernel
theorem next_le {i f c : Nat} (hi : i < 6) (hf : f ≤ Bnd i) (hc : c ≤ 1098907648) : mulRung single f c ≤ Bnd (i + 1) := by
  rw [← bnd_up i hi]; exact mul_mono hf hc
theorem next_gt {f c : Nat} (hf : 8388608 ≤ f) (hf' : f ≤ 1400000000) (hc : 1073741824 ≤ c) : f < mulRung single f c := by
  have h1 : f + 8388608 ≤ mulRung single f 1073741824 := mul_ge_of (by rw [inf_single]; omega) (by rw [mg_up hf, mg_two]; exact Nat.le_of_eq (by ac_rfl))
  have h2 := mul_mono (Nat.le_refl f) hc
  omega
theorem half_le (l : Nat) : quoRung single l 1073741824 ≤ l := by
  refine quo_le_of (by omega) ?_
  rw [mg_two]
  refine Nat.mul_le_mul_left _ ?_
  omega
def upper (f : Nat) : Nat := quoRung single (mulRung single f 1077936128) 1082130432
theorem three_ge {f : Nat} (hf : f ≤ 1400000000) : f ≤ mulRung single f 1077936128 := by
  refine mul_ge_of (by rw [inf_single]; omega) ?_
  rw [mg_three]
  refine Nat.mul_le_mul_left _ ?_
  omega
theorem three_le {f : Nat} (hf : 8388608 ≤ f) : mulRung single f 1077936128 ≤ f + 16777216 := by
  refine mul_le_of ?_
  rw [mg_three, show f + 16777216 = f + 8388608 + 8388608 by omega, mg_up (by omega), mg_up hf, show 2 * (2 * mg single f) * P149 = mg single f * (4 * P149) by rw [← Nat.mul_assoc]; ac_rfl]
  refine Nat.mul_le_mul_left _ ?_
  omega
theorem upper_le {f : Nat} (hf : 8388608 ≤ f) : upper f ≤ f := by
  unfold upper
  refine quo_le_of (by omega) ?_
  rw [mg_four]
  have h := (mg_le_iff single).2 (three_le hf)
  rw [show f + 16777216 = f + 8388608 + 8388608 by omega, mg_up (by omega), mg_up hf] at h
  rw [show mg single f * (4 * P149) = 2 * (2 * mg single f) * P149 by rw [← Nat.mul_assoc 2 2]; ac_rfl]
  exact Nat.mul_le_mul_right _ h
theorem upper_pos {f : Nat} (hf : 8388608 ≤ f) (hf' : f ≤ 1400000000) : 0 < upper f := by
  unfold upper
  refine quo_ge_of (by omega) (by rw [inf_single]; omega) ?_
  rw [mg_four]
  have h := (mg_le_iff single).2 (Nat.le_trans hf (three_ge hf'))
  have e1 : mg single 1 = 1 := by decide
  have e2 : mg single 8388608 = 8388608 := by decide
  rw [e2] at h
  rw [e1, Nat.one_mul]
  exact Nat.mul_le_mul_right _ (by omega)
/-- the first Full -/
theorem ofInt_draw : ∀ k : Nat, k < 20 → 1065353216 ≤ floatOfInt .f32 (1 + (k : Int)) ∧ floatOfInt .f32 (1 + (k : Int)) ≤ 1101004800 := by decide +kernel
theorem first_ge : 228737632 ≤ quoRung single 1065353216 1148846080 := by decide +kernel
theorem first_le : quoRung single 1101004800 1065353216 ≤ 1107296256 := by decide +kernel
theorem ofInt_1 : floatOfInt .f32 1 = 1065353216 := by decide +kernel
theorem ofInt_2 : floatOfInt .f32 2 = 1073741824 := by decide +kernel
theorem ofInt_3 : floatOfInt .f32 3 = 1077936128 := by decide +kernel
theorem ofInt_10 : floatOfInt .f32 10 = 1092616192 := by decide +kernel
theorem ofInt_1000 : floatOfInt .f32 1000 = 1148846080 := by decide +kernel
theorem first_bounds {a b : Nat} (ha : 1065353216 ≤ a ∧ a ≤ 1101004800) (hb : 1065353216 ≤ b ∧ b ≤ 1148846080) : 228737632 ≤ quoRung single a b ∧ quoRung single a b ≤ Bnd 0 :=
  ⟨Nat.le_trans first_ge (quo_mono ha.1 hb.2 (by omega)), Nat.le_trans (quo_mono ha.2 hb.1 (by omega)) first_le⟩
end Go.Proofs.Ytkjjeccgmeiniaa.Flt
