/- Plain facts: how far a rounded quotient or product lies from the true one; the value of a code; differences of doubles. No program stands here. -/
import Derived.Test.YtkjjeccgmeiniaaFltS
namespace Go.Proofs.Ytkjjeccgmeiniaa.Flt
open Ieee
set_option linter.unusedVariables false
theorem rne_hi {n d : Nat} (hd : 0 < d) : 2 * (rne n d * d) ≤ 2 * n + d := by
  have h := Nat.div_add_mod n d
  have hm := Nat.mod_lt n hd
  unfold rne
  rw [Nat.add_mul, Nat.mul_comm (n / d) d]
  cases hc : (decide (d < 2 * (n % d)) || (d == 2 * (n % d) && n / d % 2 == 1))
  · simp only [Bool.toNat_false, Nat.zero_mul]; omega
  · simp only [Bool.toNat_true, Nat.one_mul]
    rw [Bool.or_eq_true, Bool.and_eq_true, decide_eq_true_eq, beq_iff_eq] at hc
    omega
theorem rne_lo {n d : Nat} (hd : 0 < d) : 2 * n ≤ 2 * (rne n d * d) + d := by
  have h := Nat.div_add_mod n d
  have hm := Nat.mod_lt n hd
  unfold rne
  rw [Nat.add_mul, Nat.mul_comm (n / d) d]
  cases hc : (decide (d < 2 * (n % d)) || (d == 2 * (n % d) && n / d % 2 == 1))
  · simp only [Bool.toNat_false, Nat.zero_mul]
    rw [Bool.or_eq_false_iff, decide_eq_false_iff_not] at hc
    omega
  · simp only [Bool.toNat_true, Nat.one_mul]; omega
/-- the amount of a rounded number -/
theorem mg_rr (f : Format) {N D : Nat} (hD : 0 < D) : mg f (rr f N D) = rne N (D * 2 ^ ex f N D) * 2 ^ ex f N D := by
  have hB := binade_pos f
  have hM : 0 < D * 2 ^ ex f N D := Nat.mul_pos hD (Nat.two_pow_pos _)
  have h1 := ex_lt f (N := N) hD
  have hs : rne N (D * 2 ^ ex f N D) ≤ 2 * f.binade := rne_le _ hM (by omega)
  have hg : 0 < ex f N D → f.binade ≤ rne N (D * 2 ^ ex f N D) := fun h0 => rne_ge _ hM (ex_ge f h0)
  unfold rr
  generalize ex f N D = E at *
  generalize rne N (D * 2 ^ E) = s at *
  by_cases hs2 : s = 2 * f.binade
  · subst hs2
    have e : E * f.binade + 2 * f.binade = (E + 2) * f.binade := by rw [Nat.add_mul]
    unfold mg
    rw [e, if_neg (by have := Nat.le_mul_of_pos_left f.binade (show 0 < E + 2 by omega); omega), Nat.mul_mod_left, Nat.mul_div_cancel _ hB, Nat.add_zero, show E + 2 - 1 = E + 1 by omega, Nat.pow_succ]
    ac_rfl
  · by_cases hE : E = 0
    · subst hE
      rw [Nat.zero_mul, Nat.zero_add, Nat.pow_zero, Nat.mul_one]
      exact mg_small f (by omega)
    · have hsB := hg (by omega)
      have e1 : (E * f.binade + s) / f.binade = E + 1 := by
        rw [Nat.div_eq_iff hB]
        rw [Nat.add_mul]
        omega
      have e2 : (E * f.binade + s) % f.binade = s - f.binade := by
        have := Nat.div_add_mod (E * f.binade + s) f.binade
        rw [e1, Nat.mul_comm, Nat.add_mul] at this
        omega
      unfold mg
      rw [e1, e2, if_neg (by have := Nat.le_mul_of_pos_left f.binade (show 0 < E by omega); omega), show E + 1 - 1 = E by omega, show f.binade + (s - f.binade) = s by omega]
theorem rr_step (f : Format) {N D : Nat} (hD : 0 < D) : 2 ^ f.fractionBits * (D * 2 ^ ex f N D) ≤ N + 2 ^ f.fractionBits * D := by
  by_cases h : 0 < ex f N D
  · have := ex_ge f h
    have e : f.binade = 2 ^ f.fractionBits := rfl
    rw [e] at this
    omega
  · rw [show ex f N D = 0 by omega, Nat.pow_zero, Nat.mul_one]; omega
theorem rr_hi (f : Format) {N D : Nat} (hD : 0 < D) : 2 * 2 ^ f.fractionBits * (mg f (rr f N D) * D) ≤ 2 * 2 ^ f.fractionBits * N + N + 2 ^ f.fractionBits * D := by
  have hM : 0 < D * 2 ^ ex f N D := Nat.mul_pos hD (Nat.two_pow_pos _)
  have h1 := rne_hi (n := N) hM
  have h2 := rr_step f (N := N) hD
  rw [mg_rr f hD, show rne N (D * 2 ^ ex f N D) * 2 ^ ex f N D * D = rne N (D * 2 ^ ex f N D) * (D * 2 ^ ex f N D) by ac_rfl]
  generalize rne N (D * 2 ^ ex f N D) * (D * 2 ^ ex f N D) = A at *
  generalize D * 2 ^ ex f N D = M at *
  have h3 := Nat.mul_le_mul_left (2 ^ f.fractionBits) h1
  rw [Nat.mul_add] at h3
  rw [show 2 * 2 ^ f.fractionBits * A = 2 ^ f.fractionBits * (2 * A) by ac_rfl, show 2 * 2 ^ f.fractionBits * N = 2 ^ f.fractionBits * (2 * N) by ac_rfl]
  omega
theorem rr_lo (f : Format) {N D : Nat} (hD : 0 < D) : 2 * 2 ^ f.fractionBits * N ≤ 2 * 2 ^ f.fractionBits * (mg f (rr f N D) * D) + N + 2 ^ f.fractionBits * D := by
  have hM : 0 < D * 2 ^ ex f N D := Nat.mul_pos hD (Nat.two_pow_pos _)
  have h1 := rne_lo (n := N) hM
  have h2 := rr_step f (N := N) hD
  rw [mg_rr f hD, show rne N (D * 2 ^ ex f N D) * 2 ^ ex f N D * D = rne N (D * 2 ^ ex f N D) * (D * 2 ^ ex f N D) by ac_rfl]
  generalize rne N (D * 2 ^ ex f N D) * (D * 2 ^ ex f N D) = A at *
  generalize D * 2 ^ ex f N D = M at *
  have h3 := Nat.mul_le_mul_left (2 ^ f.fractionBits) h1
  rw [Nat.mul_add] at h3
  rw [show 2 * 2 ^ f.fractionBits * A = 2 ^ f.fractionBits * (2 * A) by ac_rfl, show 2 * 2 ^ f.fractionBits * N = 2 ^ f.fractionBits * (2 * N) by ac_rfl]
  omega
theorem frac_single : 2 ^ single.fractionBits = 8388608 := by decide
/-- quotients and products that are finite, from both sides -/
theorem quo_err {r s : Nat} (h0 : s ≠ 0) (h : quoRung single r s < single.infRung) :
    16777216 * (mg single (quoRung single r s) * mg single s) ≤ 16777216 * (mg single r * P149) + mg single r * P149 + 8388608 * mg single s ∧
    16777216 * (mg single r * P149) ≤ 16777216 * (mg single (quoRung single r s) * mg single s) + mg single r * P149 + 8388608 * mg single s := by
  have e : quoRung single r s = rr single (mg single r * P149) (mg single s) := by
    unfold quoRung at h ⊢
    rw [lam_single, P149_eq] at h ⊢
    omega
  rw [e]
  have h1 := rr_hi single (N := mg single r * P149) (mg_pos h0)
  have h2 := rr_lo single (N := mg single r * P149) (mg_pos h0)
  rw [frac_single] at h1 h2
  exact ⟨h1, h2⟩
theorem mul_err {r s : Nat} (h : mulRung single r s < single.infRung) :
    16777216 * (mg single (mulRung single r s) * P149) ≤ 16777216 * (mg single r * mg single s) + mg single r * mg single s + 8388608 * P149 ∧
    16777216 * (mg single r * mg single s) ≤ 16777216 * (mg single (mulRung single r s) * P149) + mg single r * mg single s + 8388608 * P149 := by
  have e : mulRung single r s = rr single (mg single r * mg single s) P149 := by
    unfold mulRung at h ⊢
    rw [lam_single, P149_eq] at h ⊢
    omega
  rw [e]
  have h1 := rr_hi single (N := mg single r * mg single s) P149_pos
  have h2 := rr_lo single (N := mg single r * mg single s) P149_pos
  rw [frac_single] at h1 h2
  exact ⟨h1, h2⟩
/-- the rung of a whole number -/
def natRung (c : Nat) : Nat := min (rr single (c * P149) 1) single.infRung
theorem natRung_mg {c : Nat} (h : c ≤ 32767) : mg single (natRung c) = c * P149 ∧ natRung c ≤ 1191181824 := by
  obtain ⟨r, hr⟩ := mg_surj single 149 c (by rw [binade_single]; omega)
  rw [P149_eq] at hr
  have e : rr single (c * P149) 1 = r := rr_exact single r (by omega) (by rw [hr, Nat.mul_one])
  have hle : r ≤ 1191181824 := by
    rw [← mg_le_iff single, hr, mg_max]
    exact Nat.mul_le_mul_right _ h
  unfold natRung
  rw [e, Nat.min_eq_left (by rw [inf_single]; omega)]
  exact ⟨hr, hle⟩
def valN (c F : Nat) : Nat := mulRung single (quoRung single (natRung c) 1191181824) F
theorem val_le {c F : Nat} (h : c ≤ 32767) : valN c F ≤ F := by
  unfold valN
  refine mul_le_of ?_
  rw [Nat.mul_comm]
  refine Nat.mul_le_mul_left _ ?_
  rw [← mg_one]
  exact (mg_le_iff single).2 (quo_le_one (by omega) (natRung_mg h).2)
theorem big_149 : 281474976710656 * 8388608 ≤ P149 := by decide +kernel
/-- the value of a code lies within a sixteen-thousandth of the range -/
theorem close_units {r F : Nat} (hr : r ≤ F) (hF : 228737632 ≤ F) (hFi : F < single.infRung) :
    16000 * mg single (valN (codeN r F) F) ≤ 16000 * mg single r + mg single F ∧ 16000 * mg single r ≤ 16000 * mg single (valN (codeN r F) F) + mg single F := by
  have hF0 : F ≠ 0 := by omega
  have hc := codeN_le hF0 hr
  have hq1 := quo_le_one hF0 hr
  have hp1 := mul_le_max hq1
  have hn := natRung_mg hc
  have hq2 := quo_le_one (r := natRung (codeN r F)) (s := 1191181824) (by omega) hn.2
  have hv := val_le (F := F) hc
  have hinf : single.infRung = 2139095040 := inf_single
  have a1 := quo_err (r := r) hF0 (by omega)
  have a2 := mul_err (r := quoRung single r F) (s := 1191181824) (by omega)
  have a3 : codeN r F = mg single (mulRung single (quoRung single r F) 1191181824) / P149 := rfl
  have a4 := quo_err (r := natRung (codeN r F)) (s := 1191181824) (by omega) (by omega)
  have a5 := mul_err (r := quoRung single (natRung (codeN r F)) 1191181824) (s := F) (by unfold valN at hv; omega)
  have b1 := (mg_le_iff single).2 hr
  have b2 := (mg_le_iff single).2 hq1
  have b3 := (mg_le_iff single).2 hq2
  have b4 := (mg_le_iff single).2 hF
  have b5 : 562949953421312 ≤ mg single 228737632 := by decide +kernel
  have b6 := big_149
  have hL := P149_pos
  have a3' := Nat.div_add_mod (mg single (mulRung single (quoRung single r F) 1191181824)) P149
  have a3'' := Nat.mod_lt (mg single (mulRung single (quoRung single r F) 1191181824)) hL
  rw [← a3] at a3'
  rw [mg_one] at b2 b3
  rw [mg_max] at a2 a4
  rw [hn.1] at a4
  unfold valN
  generalize mg single (mulRung single (quoRung single (natRung (codeN r F)) 1191181824) F) = V at *
  generalize mg single (quoRung single (natRung (codeN r F)) 1191181824) = Q2 at *
  generalize mg single (mulRung single (quoRung single r F) 1191181824) = Pm at *
  generalize mg single (quoRung single r F) = Q1 at *
  generalize codeN r F = c at *
  generalize mg single r = X at *
  generalize hFm : mg single F = Fm at *
  generalize mg single 228737632 = Z at *
  generalize P149 = L at *
  have hFm0 : 0 < Fm := by omega
  -- divide the second and the fourth by L
  have c2a : 16777216 * Pm ≤ 16777216 * (Q1 * 32767) + Q1 * 32767 + 8388608 := by
    refine Nat.le_of_mul_le_mul_right (c := L) ?_ hL
    have := a2.1
    rw [Nat.add_mul, Nat.add_mul]
    rw [show 16777216 * Pm * L = 16777216 * (Pm * L) by ac_rfl, show 16777216 * (Q1 * 32767) * L = 16777216 * (Q1 * (32767 * L)) by ac_rfl, show Q1 * 32767 * L = Q1 * (32767 * L) by ac_rfl]
    exact this
  have c2b : 16777216 * (Q1 * 32767) ≤ 16777216 * Pm + Q1 * 32767 + 8388608 := by
    refine Nat.le_of_mul_le_mul_right (c := L) ?_ hL
    have := a2.2
    rw [Nat.add_mul, Nat.add_mul]
    rw [show 16777216 * Pm * L = 16777216 * (Pm * L) by ac_rfl, show 16777216 * (Q1 * 32767) * L = 16777216 * (Q1 * (32767 * L)) by ac_rfl, show Q1 * 32767 * L = Q1 * (32767 * L) by ac_rfl]
    exact this
  have c4a : 16777216 * (Q2 * 32767) ≤ 16777216 * (c * L) + c * L + 8388608 * 32767 := by
    refine Nat.le_of_mul_le_mul_right (c := L) ?_ hL
    have := a4.1
    rw [Nat.add_mul, Nat.add_mul]
    rw [show 16777216 * (Q2 * 32767) * L = 16777216 * (Q2 * (32767 * L)) by ac_rfl, show 16777216 * (c * L) * L = 16777216 * (c * L * L) by ac_rfl, show 8388608 * 32767 * L = 8388608 * (32767 * L) by ac_rfl]
    exact this
  have c4b : 16777216 * (c * L) ≤ 16777216 * (Q2 * 32767) + c * L + 8388608 * 32767 := by
    refine Nat.le_of_mul_le_mul_right (c := L) ?_ hL
    have := a4.2
    rw [Nat.add_mul, Nat.add_mul]
    rw [show 16777216 * (Q2 * 32767) * L = 16777216 * (Q2 * (32767 * L)) by ac_rfl, show 16777216 * (c * L) * L = 16777216 * (c * L * L) by ac_rfl, show 8388608 * 32767 * L = 8388608 * (32767 * L) by ac_rfl]
    exact this
  -- times Fm
  have d2a := Nat.mul_le_mul_right Fm c2a
  have d2b := Nat.mul_le_mul_right Fm c2b
  have d4a := Nat.mul_le_mul_right Fm c4a
  have d4b := Nat.mul_le_mul_right Fm c4b
  have d3a : c * L * Fm ≤ Pm * Fm := Nat.mul_le_mul_right Fm (by rw [Nat.mul_comm]; omega)
  have d3b : Pm * Fm ≤ c * L * Fm + L * Fm := by rw [← Nat.add_mul]; exact Nat.mul_le_mul_right Fm (by rw [Nat.mul_comm c]; omega)
  have f1 : X * L ≤ L * Fm := by rw [Nat.mul_comm]; exact Nat.mul_le_mul_left L b1
  have f2 : Q1 * Fm ≤ L * Fm := Nat.mul_le_mul_right Fm b2
  have f3 : Q2 * Fm ≤ L * Fm := Nat.mul_le_mul_right Fm b3
  have f4 : c * L * Fm ≤ 32767 * (L * Fm) := by rw [Nat.mul_assoc]; exact Nat.mul_le_mul_right _ hc
  have f5 : 562949953421312 * L ≤ L * Fm := by rw [Nat.mul_comm L]; exact Nat.mul_le_mul_right L (by omega)
  have f6 : 281474976710656 * 8388608 * Fm ≤ L * Fm := Nat.mul_le_mul_right Fm b6
  rw [Nat.add_mul, Nat.add_mul] at d2a d2b d4a d4b
  rw [show 16777216 * Pm * Fm = 16777216 * (Pm * Fm) by ac_rfl, show 16777216 * (Q1 * 32767) * Fm = 549739036672 * (Q1 * Fm) by rw [show (549739036672 : Nat) = 16777216 * 32767 from rfl]; ac_rfl, show Q1 * 32767 * Fm = 32767 * (Q1 * Fm) by ac_rfl] at d2a d2b
  rw [show 16777216 * (Q2 * 32767) * Fm = 549739036672 * (Q2 * Fm) by rw [show (549739036672 : Nat) = 16777216 * 32767 from rfl]; ac_rfl, show 16777216 * (c * L) * Fm = 16777216 * (c * L * Fm) by ac_rfl] at d4a d4b
  have key : 16000 * (V * L) ≤ 16000 * (X * L) + L * Fm ∧ 16000 * (X * L) ≤ 16000 * (V * L) + L * Fm := by
    obtain ⟨a1a, a1b⟩ := a1
    obtain ⟨a5a, a5b⟩ := a5
    clear a2 a4 c2a c2b c4a c4b b1 b2 b3 b4 b5 b6 a3 a3' a3'' hn hq1 hq2 hp1 hv hinf hFi hF0 hr hF
    generalize V * L = v at *
    generalize X * L = x at *
    generalize Q1 * Fm = q1 at *
    generalize Q2 * Fm = q2 at *
    generalize Pm * Fm = p at *
    generalize c * L * Fm = e at *
    generalize L * Fm = T at *
    constructor <;> omega
  constructor
  · refine Nat.le_of_mul_le_mul_right (c := L) ?_ hL
    rw [Nat.add_mul, show 16000 * V * L = 16000 * (V * L) by ac_rfl, show 16000 * X * L = 16000 * (X * L) by ac_rfl, Nat.mul_comm Fm L]
    exact key.1
  · refine Nat.le_of_mul_le_mul_right (c := L) ?_ hL
    rw [Nat.add_mul, show 16000 * V * L = 16000 * (V * L) by ac_rfl, show 16000 * X * L = 16000 * (X * L) by ac_rfl, Nat.mul_comm Fm L]
    exact key.2
end Go.Proofs.Ytkjjeccgmeiniaa.Flt
