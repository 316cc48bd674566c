/- Plain facts: whole numbers as doubles, their products and quotients, and how a double is narrowed. No program stands here. -/
import Derived.Test.YtkjjeccgmeiniaaFltR
namespace Go.Proofs.Ytkjjeccgmeiniaa.Flt
open Ieee
def PV : Nat := 2 ^ (W + 149)
theorem PV_eq : 2 ^ (W + 149) = PV := rfl
theorem PV_pos : 0 < PV := Nat.two_pow_pos _
theorem A_sp {m : Nat} (hm : m < 9007199254740992) : A m 149 < double.infRung ∧ mg double (A m 149) = m * PV := by
  have h := A_spec (q := 149) hm (by omega)
  rw [PV_eq] at h
  exact h
theorem lamPV : 2 ^ lam double = PV := by rw [show lam double = W + 149 by rw [W_eq]; decide, PV_eq]
theorem ofIntA {m : Nat} (hm : m < 9007199254740992) : floatOfInt .f64 (m : Int) = A m 149 := by
  have hs' := A_sp hm
  show double.nearest (decide ((m : Int) < 0)) (m : Int).natAbs 0 = _
  rw [decide_eq_false (by omega), Int.natAbs_natCast, nearest_rr]
  rw [show (0 - double.leastPlace).toNat = W + 149 by rw [least_double, W_eq]; rfl, show (double.leastPlace - 0).toNat = 0 by rw [least_double]; rfl]
  rw [PV_eq, Nat.pow_zero, show rr double (m * PV) 1 = A m 149 from rr_exact double _ Nat.one_pos (by rw [hs'.2, Nat.mul_one]), Nat.min_eq_left (Nat.le_of_lt hs'.1), word_false]
theorem one_A : A 1 149 = 4607182418800017408 := by
  rw [← ofIntA (by omega)]; decide +kernel
theorem ten_A : A 10 149 = 4621819117588971520 := by
  rw [← ofIntA (by omega)]; decide +kernel
theorem least_le_d : double.leastPlace ≤ 0 := by decide
theorem mul_A {m n : Nat} (h : m * n < 9007199254740992) (hm : m < 9007199254740992) (hn : n < 9007199254740992) :
    floatBits .mul .f64 (A m 149) (A n 149) = some (A (m * n) 149) := by
  have h1 := A_sp hm
  have h2 := A_sp hn
  have h3 := A_sp h
  show double.mul _ _ = _
  rw [mul_rr double least_le_d (by rw [rung_A hm (by omega)]; exact h1.1) (by rw [rung_A hn (by omega)]; exact h2.1), sgn_A hm (by omega), sgn_A hn (by omega), rung_A hm (by omega), rung_A hn (by omega)]
  unfold mulRung
  rw [h1.2, h2.2, lamPV, rr_exact double (A (m * n) 149) PV_pos (by rw [h3.2]; generalize PV = p; ac_rfl), Nat.min_eq_left (Nat.le_of_lt h3.1)]
  rfl
theorem mg_A_pos {n : Nat} (hn : n < 9007199254740992) (h0 : 0 < n) : rung double (A n 149) ≠ 0 := by
  rw [rung_A hn (by omega)]
  intro e
  have h2 := (A_sp hn).2
  rw [e, mg_zero] at h2
  have := Nat.mul_pos h0 PV_pos
  omega
theorem quo_A {m n : Nat} (hm : m < 9007199254740992) (hn : n < 9007199254740992) (h0 : 0 < n) :
    floatBits .quo .f64 (A m 149) (A n 149) = some (quoRung double (A m 149) (A n 149)) := by
  have h1 := A_sp hm
  have h2 := A_sp hn
  show double.div _ _ = _
  rw [div_rr double least_le_d (by rw [rung_A hm (by omega)]; exact h1.1) (by rw [rung_A hn (by omega)]; exact h2.1) (mg_A_pos hn h0), sgn_A hm (by omega), sgn_A hn (by omega), rung_A hm (by omega), rung_A hn (by omega), show (false ^^ false) = false from rfl, word_false]
/-- a quotient by a whole number is no greater -/
theorem quo_le {m n : Nat} (hm : m < 9007199254740992) (hn : n < 9007199254740992) (h0 : 0 < n) : quoRung double (A m 149) (A n 149) ≤ A m 149 := by
  have h1 := A_sp hm
  have h2 := A_sp hn
  unfold quoRung
  refine Nat.le_trans (Nat.min_le_left _ _) ?_
  refine rr_le double _ (by rw [h2.2]; exact Nat.mul_pos h0 PV_pos) ?_
  rw [h2.2, lamPV]
  generalize mg double (A m 149) = q
  generalize PV = p
  exact Nat.mul_le_mul_left _ (Nat.le_mul_of_pos_left _ h0)
theorem quo_exact {m n : Nat} (h : m * n < 9007199254740992) (hn : n < 9007199254740992) (h0 : 0 < n) (hm : m < 9007199254740992) : quoRung double (A (m * n) 149) (A n 149) = A m 149 := by
  have h1 := A_sp hm
  have h2 := A_sp hn
  have h3 := A_sp h
  unfold quoRung
  rw [h2.2, h3.2, lamPV, rr_exact double (A m 149) (Nat.mul_pos h0 PV_pos) (by rw [h1.2]; generalize PV = p; ac_rfl), Nat.min_eq_left (Nat.le_of_lt h1.1)]
/-- what narrowing makes of a rung of the doubles -/
def nrw (r : Nat) : Nat := rr single (mg double r) (2 ^ W)
theorem pos_rungD {r : Nat} (h : r < double.infRung) : rung double r = r := Nat.mod_eq_of_lt (Nat.lt_trans h double.infRung_lt)
theorem pos_sgnD {r : Nat} (h : r < double.infRung) : sgn double r = false := by
  unfold sgn; rw [Nat.div_eq_of_lt (Nat.lt_trans h double.infRung_lt)]; rfl
theorem narrow_pos {r : Nat} (h : r < double.infRung) (h2 : nrw r < single.infRung) : floatToFloatBits .f64 r .f32 = some (nrw r) := by
  have hr := reads_fin double (w := r) (by rw [pos_rungD h]; exact h)
  rw [pos_rungD h, pos_sgnD h] at hr
  unfold floatToFloatBits
  rw [if_neg (by decide)]
  have hdec : FloatKind.f64.decode r = double.read r := rfl
  rw [hdec, hr]
  have hn : FloatKind.f32.encode (.number false (ss double r) (double.leastPlace + (qq double r : Int))) = nrw r := by
    show single.nearest _ _ _ = _
    rw [nearest_rr]
    have hc : rr single (ss double r * 2 ^ (double.leastPlace + (qq double r : Int) - single.leastPlace).toNat) (2 ^ (single.leastPlace - (double.leastPlace + (qq double r : Int))).toNat) = nrw r := by
      unfold nrw
      refine rr_congr single (Nat.two_pow_pos _) (Nat.two_pow_pos _) ?_
      rw [mg_ss double r, pow2_mul, pow2_mul]
      congr 2
      rw [least_double, least_single, W_eq]
      omega
    rw [hc, Nat.min_eq_left (Nat.le_of_lt h2)]
    rfl
  simp only [hn]
  have hi : (FloatKind.f32.decode (nrw r)).isInfinity = false := isInf_read single hs false h2
  rw [hi]; rfl
theorem nrw_mono {r s : Nat} (h : r ≤ s) : nrw r ≤ nrw s := rr_mono single (Nat.two_pow_pos _) (Nat.two_pow_pos _) (Nat.mul_le_mul_right _ (mg_le double h))
theorem nrw_A {m : Nat} (hm : m < 9007199254740992) : nrw (A m 149) = rr single (m * P149) 1 := by
  unfold nrw
  rw [(A_sp hm).2]
  refine rr_congr single (Nat.two_pow_pos _) Nat.one_pos ?_
  rw [← PV_eq, ← P149_eq, Nat.pow_add, Nat.mul_one, Nat.mul_assoc, Nat.mul_comm (2 ^ W)]
theorem mg_53 : mg single 1509949440 = 9007199254740992 * P149 := by decide +kernel
theorem nrw_fin {r m : Nat} (hm : m < 9007199254740992) (h : r ≤ A m 149) : nrw r < single.infRung := by
  refine Nat.lt_of_le_of_lt (nrw_mono h) ?_
  rw [nrw_A hm]
  have : rr single (m * P149) 1 ≤ 1509949440 := rr_le single _ Nat.one_pos (by rw [mg_53, Nat.mul_one]; exact Nat.mul_le_mul_right _ (by omega))
  rw [inf_single]; omega
/-- the decimal quotient, narrowed -/
def dq (d p : Nat) : Nat := nrw (quoRung double (A d 149) (A p 149))
theorem dq_narrow {d p : Nat} (hd : d < 9007199254740992) (hp : p < 9007199254740992) (h0 : 0 < p) :
    floatToFloatBits .f64 (quoRung double (A d 149) (A p 149)) .f32 = some (dq d p) ∧ dq d p < 2139095040 := by
  have hl := quo_le hd hp h0
  have h1 := (A_sp hd).1
  have h2 := nrw_fin hd hl
  exact ⟨narrow_pos (by omega) h2, by rw [inf_single] at h2; exact h2⟩
/-- a number and its tenfold over ten are the single of the number -/
theorem dq_whole {m : Nat} (hm : m < 16777216) : dq m 1 = floatOfInt .f32 (m : Int) ∧ dq (m * 10) 10 = floatOfInt .f32 (m : Int) := by
  have e : rr single (m * P149) 1 = floatOfInt .f32 (m : Int) := by
    rw [ofInt32, decide_eq_false (by omega), Int.natAbs_natCast, Nat.min_eq_left]
    · rfl
    · have := nrw_fin (m := m) (r := A m 149) (by omega) (Nat.le_refl _)
      rw [nrw_A (by omega)] at this
      omega
  constructor
  · have := quo_exact (m := m) (n := 1) (by omega) (by omega) (by omega) (by omega)
    rw [Nat.mul_one] at this
    unfold dq
    rw [this, nrw_A (by omega), e]
  · unfold dq
    rw [quo_exact (by omega) (by omega) (by omega) (by omega), nrw_A (by omega), e]
end Go.Proofs.Ytkjjeccgmeiniaa.Flt
