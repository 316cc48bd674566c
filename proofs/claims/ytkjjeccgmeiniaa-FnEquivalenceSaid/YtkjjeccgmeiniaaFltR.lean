/- Plain facts: codes and their values, in singles. No program stands here. -/
import Derived.Test.YtkjjeccgmeiniaaFltQ
import Derived.Test.YtkjjeccgmeiniaaFltG
namespace Go.Proofs.Ytkjjeccgmeiniaa.Flt
open Ieee
theorem lam_single : lam single = 149 := by decide
theorem least_le : single.leastPlace ≤ 0 := by decide
def P149 : Nat := 2 ^ 149
theorem P149_eq : 2 ^ 149 = P149 := rfl
theorem P149_pos : 0 < P149 := Nat.two_pow_pos _
theorem mg_one : mg single 1065353216 = P149 := by decide +kernel
/-- the greatest code as a single -/
theorem mg_max : mg single 1191181824 = 32767 * P149 := by decide +kernel
theorem rung_max : rung single 1191181824 = 1191181824 := by decide
theorem sgn_max : sgn single 1191181824 = false := by decide
theorem decode32 (a : Nat) : FloatKind.f32.decode a = single.read a := rfl
theorem whole_cut32 (neg : Bool) (s e : Nat) : Toward.zero.cut neg (s <<< (single.leastPlace + (e : Int)).toNat) (-(single.leastPlace + (e : Int))).toNat = s * 2 ^ e / P149 := by
  rw [cut_zero, Nat.shiftLeft_eq, least_single, ← P149_eq]
  by_cases h : 149 ≤ e
  · obtain ⟨k, rfl⟩ : ∃ k, e = k + 149 := ⟨e - 149, by omega⟩
    rw [show (-149 + ((k + 149 : Nat) : Int)).toNat = k by omega, show (-(-149 + ((k + 149 : Nat) : Int))).toNat = 0 by omega]
    rw [Nat.pow_zero, Nat.div_one, Nat.pow_add, ← Nat.mul_assoc, Nat.mul_div_cancel _ (Nat.two_pow_pos _)]
  · obtain ⟨k, hk⟩ : ∃ k, 149 = k + e := ⟨149 - e, by omega⟩
    rw [show (-149 + (e : Int)).toNat = 0 by omega, show (-(-149 + (e : Int))).toNat = k by omega]
    rw [Nat.pow_zero, Nat.mul_one, hk, Nat.pow_add, Nat.mul_comm (2 ^ k), ← Nat.div_div_eq_div_mul, Nat.mul_div_cancel _ (Nat.two_pow_pos _)]
/-- a finite single, cut toward 0 -/
theorem trunc_single {p : Nat} (h : rung single p < single.infRung) : (single.read p).toInt .zero = some (if sgn single p then -((mg single (rung single p) / P149 : Nat) : Int) else ((mg single (rung single p) / P149 : Nat) : Int)) := by
  rw [reads_fin single h]
  unfold Datum.toInt
  show some (signed _ (Toward.zero.cut _ _ _) 0) = _
  rw [whole_cut32, ← mg_ss, signed_eq, Nat.pow_zero, Nat.mul_one]
/-- the code's amount, of rungs -/
def codeN (r s : Nat) : Nat := mg single (mulRung single (quoRung single r s) 1191181824) / P149
def codeI (x F : Nat) : Int := if (sgn single x ^^ sgn single F) then -(codeN (rung single x) (rung single F) : Int) else (codeN (rung single x) (rung single F) : Int)
theorem quo_le_one {r s : Nat} (hs : s ≠ 0) (h : r ≤ s) : quoRung single r s ≤ 1065353216 := by
  unfold quoRung
  refine Nat.le_trans (Nat.min_le_left _ _) (rr_le single _ (Nat.pos_of_ne_zero fun e => hs ((mg_eq_zero single).1 e)) ?_)
  rw [lam_single, mg_one, P149_eq, Nat.mul_comm]
  exact Nat.mul_le_mul_left _ ((mg_le_iff single).2 h)
theorem mul_le_max {r : Nat} (h : r ≤ 1065353216) : mulRung single r 1191181824 ≤ 1191181824 := by
  unfold mulRung
  refine Nat.le_trans (Nat.min_le_left _ _) (rr_le single _ (Nat.two_pow_pos _) ?_)
  rw [lam_single, P149_eq, Nat.mul_comm]
  refine Nat.mul_le_mul_left _ ?_
  rw [← mg_one]
  exact (mg_le_iff single).2 h
theorem codeN_le {r s : Nat} (hs : s ≠ 0) (h : r ≤ s) : codeN r s ≤ 32767 := by
  unfold codeN
  have h1 := (mg_le_iff single).2 (mul_le_max (quo_le_one hs h))
  rw [mg_max] at h1
  exact (Nat.div_le_iff_le_mul_add_pred P149_pos).2 (by rw [Nat.mul_comm]; omega)
theorem word_lt32 (s : Bool) {r : Nat} (h : r < single.signWeight) : single.word s r < 4294967296 := by
  have := word_lt' single s h
  rw [width_single] at this; exact this
/-- the three steps of a code -/
theorem code_steps {x F : Nat} (hF : rung single F < single.infRung) (h0 : rung single F ≠ 0) (h : rung single x ≤ rung single F) :
    ∃ q p, floatBits .quo .f32 x F = some q ∧ floatBits .mul .f32 q 1191181824 = some p ∧ floatToIntVal .f32 p .i64 = some (codeI x F) := by
  have hx : rung single x < single.infRung := by omega
  have hq := quo_le_one h0 h
  have hm := mul_le_max hq
  have hc := codeN_le h0 h
  have e1 := div_rr single least_le hx hF h0
  have hqi : quoRung single (rung single x) (rung single F) < single.infRung := by rw [inf_single]; omega
  have hqs : quoRung single (rung single x) (rung single F) < single.signWeight := by rw [sw_single]; omega
  have e2 := mul_rr single least_le (x := single.word (sgn single x ^^ sgn single F) (quoRung single (rung single x) (rung single F))) (y := 1191181824) (by rw [rung_word single _ hqs]; exact hqi) (by rw [rung_max, inf_single]; omega)
  rw [rung_word single _ hqs, sgn_word single _ hqs, rung_max, sgn_max, Bool.xor_false] at e2
  refine ⟨_, _, e1, e2, ?_⟩
  have hps : mulRung single (quoRung single (rung single x) (rung single F)) 1191181824 < single.signWeight := by rw [sw_single]; omega
  have hpi : mulRung single (quoRung single (rung single x) (rung single F)) 1191181824 < single.infRung := by rw [inf_single]; omega
  have e3 := trunc_single (p := single.word (sgn single x ^^ sgn single F) (mulRung single (quoRung single (rung single x) (rung single F)) 1191181824)) (by rw [rung_word single _ hps]; exact hpi)
  rw [rung_word single _ hps, sgn_word single _ hps] at e3
  unfold floatToIntVal
  rw [decode32, e3]
  have e4 : (if (sgn single x ^^ sgn single F) = true then -((mg single (mulRung single (quoRung single (rung single x) (rung single F)) 1191181824) / P149 : Nat) : Int) else ((mg single (mulRung single (quoRung single (rung single x) (rung single F)) 1191181824) / P149 : Nat) : Int)) = codeI x F := rfl
  rw [e4]
  have hb : -32767 ≤ codeI x F ∧ codeI x F ≤ 32767 := by
    unfold codeI
    split <;> omega
  simp only
  rw [if_pos]
  rw [i64_min, i64_max]
  omega
theorem codeI_bounds {x F : Nat} (h0 : rung single F ≠ 0) (h : rung single x ≤ rung single F) : -32767 ≤ codeI x F ∧ codeI x F ≤ 32767 := by
  have hc := codeN_le h0 h
  unfold codeI
  split <;> omega
/-- the steps of a value -/
theorem ofInt32 (n : Int) : floatOfInt .f32 n = single.word (decide (n < 0)) (min (rr single (n.natAbs * P149) 1) single.infRung) := by
  show single.nearest _ _ _ = _
  rw [nearest_rr, least_single]
  rfl
theorem ofInt_le {n : Int} (h : n.natAbs ≤ 32767) : min (rr single (n.natAbs * P149) 1) single.infRung ≤ 1191181824 := by
  refine Nat.le_trans (Nat.min_le_left _ _) (rr_le single _ (by omega) ?_)
  rw [mg_max, Nat.mul_one]
  exact Nat.mul_le_mul_right _ h
theorem value_steps {n : Int} {F : Nat} (h : n.natAbs ≤ 32767) (hF : rung single F < single.infRung) :
    ∃ q v, floatBits .quo .f32 (floatOfInt .f32 n) 1191181824 = some q ∧ floatBits .mul .f32 q F = some v := by
  have h1 := ofInt_le h
  have hs : min (rr single (n.natAbs * P149) 1) single.infRung < single.signWeight := by rw [sw_single]; omega
  have hr : rung single (floatOfInt .f32 n) = min (rr single (n.natAbs * P149) 1) single.infRung := by rw [ofInt32, rung_word single _ hs]
  have hx : rung single (floatOfInt .f32 n) < single.infRung := by rw [hr]; exact Nat.lt_of_le_of_lt h1 (by decide)
  have e1 := div_rr single least_le hx (y := 1191181824) (by rw [rung_max, inf_single]; decide) (by rw [rung_max]; decide)
  have hq := quo_le_one (r := rung single (floatOfInt .f32 n)) (s := 1191181824) (fun e => by cases e) (by rw [hr]; exact h1)
  rw [rung_max] at e1
  have hqs : quoRung single (rung single (floatOfInt .f32 n)) 1191181824 < single.signWeight := by rw [sw_single]; omega
  have e2 := mul_rr single least_le (x := single.word (sgn single (floatOfInt .f32 n) ^^ sgn single 1191181824) (quoRung single (rung single (floatOfInt .f32 n)) 1191181824)) (y := F) (by rw [rung_word single _ hqs, inf_single]; omega) hF
  exact ⟨_, _, e1, e2⟩
end Go.Proofs.Ytkjjeccgmeiniaa.Flt
