/- Plain facts for spans: the middle between a single and the next one, as a double. No program stands here. -/
import Derived.Test.YtjmmcpeknaaaiaaSpnQ
namespace Go.Proofs.Ytjmmcpeknaaaiaa.Spn
open Go.RowKit Go.Proofs.Ytjmmcpeknaaaiaa.Flt
open Ieee (single double)
set_option linter.unusedVariables false
set_option linter.unusedSimpArgs false
theorem vW_amt {x : Nat} (h : fnS x = true) : vW x = if sgn single x = true then -((mg single (rung single x) * 2 ^ W : Nat) : Int) else ((mg single (rung single x) * 2 ^ W : Nat) : Int) := by
  rw [vW_eq h, (wr_spec (fnS_iff.1 h)).2]
theorem vW_word (s : Bool) {r : Nat} (h : r < single.infRung) : vW (single.word s r) = if s = true then -((mg single r * 2 ^ W : Nat) : Int) else ((mg single r * 2 ^ W : Nat) : Int) := by
  have hw : r < single.signWeight := Nat.lt_trans h (inf_lt single)
  have hf : fnS (single.word s r) = true := fnS_iff.2 (by rw [rung_word single s hw]; exact h)
  rw [vW_amt hf, rung_word single s hw, sgn_word single s hw]
/-- the sum of a single and the next one: one significand and the next, under one exponent -/
theorem sum_next {x : Nat} (hx : fnS x = true) (hy : fnS (nuW x) = true) : ∃ (u : Bool) (t : Nat), t + 1 < single.infRung ∧
    vW x + vW (nuW x) = if u = true then -(((mg single t + mg single (t + 1)) * 2 ^ W : Nat) : Int) else (((mg single t + mg single (t + 1)) * 2 ^ W : Nat) : Int) := by
  have hr := fnS_iff.1 hx
  have m0 := mg_zero single
  have i2 : 2 < single.infRung := by rw [inf_single]; omega
  have ex := vW_amt hx
  cases hs : sgn single x
  · have en : nuW x = single.word false (rung single x + 1) := by unfold nuW; rw [if_pos hs, if_neg (by omega)]
    have hlt : rung single x + 1 < single.infRung := by
      have h := fnS_iff.1 hy
      rw [en, rung_word single _ (by have := inf_lt single; omega)] at h
      exact h
    refine ⟨false, rung single x, hlt, ?_⟩
    rw [ex, hs, en, vW_word false hlt]
    simp only [Bool.false_eq_true, if_false]
    rw [Nat.add_mul]
    omega
  · rw [hs] at ex
    simp only [if_true] at ex
    have hs' : ¬ sgn single x = false := by rw [hs]; simp
    by_cases c0 : rung single x = 0
    · have en : nuW x = single.word false 1 := by unfold nuW; rw [if_neg hs', if_pos c0]
      refine ⟨false, 0, by omega, ?_⟩
      rw [ex, en, vW_word false (by omega), c0, m0]
      simp only [Bool.false_eq_true, if_false, Nat.zero_mul, Nat.zero_add]
      omega
    · by_cases c1 : rung single x = 1
      · have en : nuW x = single.word false 0 := by unfold nuW; rw [if_neg hs', if_neg c0, if_pos c1]; rfl
        refine ⟨true, 0, by omega, ?_⟩
        rw [ex, en, vW_word false (by omega), c1, m0]
        simp only [Bool.false_eq_true, if_false, if_true, Nat.zero_mul, Nat.zero_add]
        omega
      · have en : nuW x = single.word true (rung single x - 1) := by unfold nuW; rw [if_neg hs', if_neg c0, if_neg c1]
        refine ⟨true, rung single x - 1, by omega, ?_⟩
        rw [ex, en, vW_word true (by omega), show rung single x - 1 + 1 = rung single x by omega]
        simp only [if_true]
        rw [Nat.add_mul]
        omega
theorem half_amt (t : Nat) (ht : t + 1 < single.infRung) : ∃ R R2, R < double.infRung ∧ mg double R = (mg single t + mg single (t + 1)) * 2 ^ W ∧ mg double R = 2 * mg double R2 := by
  have e1 := mg_ss single t
  have e2 := mg_next t
  have hs := ss_single t
  have hq : qq single t ≤ 253 := by unfold qq; rw [binade_single]; rw [inf_single] at ht; omega
  generalize ss single t = s at *
  generalize qq single t = q at *
  have ea : mg single t + mg single (t + 1) = (2 * s + 1) * 2 ^ q := by rw [e1, e2, ← Nat.add_mul]; congr 1; omega
  obtain ⟨hA, hB⟩ := A_spec (m := 2 * s + 1) (q := q) (by omega) (by omega)
  obtain ⟨V, hV⟩ : ∃ V, W + q = V + 1 := ⟨W - 1 + q, by rw [W_eq]; omega⟩
  obtain ⟨R2, h2⟩ := mg_surj double V (2 * s + 1) (by rw [binade_double]; omega)
  refine ⟨A (2 * s + 1) q, R2, hA, ?_, ?_⟩
  · rw [hB, ea, Nat.mul_assoc, ← Nat.pow_add, Nat.add_comm q W]
  · rw [hB, h2, hV, Nat.pow_succ]
    generalize 2 ^ V = p
    rw [← Nat.mul_assoc, Nat.mul_comm]
theorem two_A : A 2 149 = 4611686018427387904 := by
  rw [← ofIntA (by omega)]; decide +kernel
theorem rnd_fix {S : Int} {R : Nat} (hR : R < double.infRung) (h : S.natAbs = mg double R) : rndD S = S := by
  rw [rnd_eqD, h, rg_mgD (Nat.le_of_lt hR), ← h]
  split <;> omega
/-- the middle -/
theorem mid_val {x : Nat} (hx : fnS x = true) (hy : fnS (nuW x) = true) :
    ∃ a z, floatBits .add .f64 (widen x) (widen (nuW x)) = some a ∧ floatBits .quo .f64 a 4611686018427387904 = some z ∧ z < 18446744073709551616 ∧ rung double z < double.infRung ∧ 2 * sv double z = vW x + vW (nuW x) ∧ nrw (rung double z) < single.infRung := by
  obtain ⟨u, t, ht, eS⟩ := sum_next hx hy
  obtain ⟨R, R2, hR, eR, e2⟩ := half_amt t ht
  have hS : (vW x + vW (nuW x)).natAbs = mg double R := by
    rw [eS, eR]
    cases u
    · simp only [Bool.false_eq_true, if_false, Int.natAbs_natCast]
    · simp only [if_true, Int.natAbs_neg, Int.natAbs_natCast]
  obtain ⟨a, h1, h3, h4, h5, h6⟩ := add_valD (wid_rung hx) (wid_rung hy)
  change rung double a = min (rr double (vW x + vW (nuW x)).natAbs 1) double.infRung at h5
  change sv double a = rndD (vW x + vW (nuW x)) at h6
  rw [hS, rr_mg, Nat.min_eq_left (Nat.le_of_lt hR)] at h5
  rw [rnd_fix hR hS] at h6
  obtain ⟨tA, tB⟩ := A_sp (m := 2) (by omega)
  have rA := rung_A (m := 2) (q := 149) (by omega) (by omega)
  have sA := sgn_A (m := 2) (q := 149) (by omega) (by omega)
  rw [two_A] at tA tB rA sA
  have hR2 : R2 < double.infRung := by
    rw [← mg_lt_iff double]
    have := (mg_lt_iff double).2 hR
    omega
  have hq : quoRung double (rung double a) (rung double 4611686018427387904) = R2 := by
    unfold quoRung
    rw [h5, rA, lamPV, tB, rr_exact double R2 (Nat.mul_pos (by omega) PV_pos) (by rw [e2, Nat.mul_assoc, Nat.mul_left_comm])]
    exact Nat.min_eq_left (Nat.le_of_lt hR2)
  have hd := div_rr double least_le_d (x := a) (y := 4611686018427387904) (by rw [h5]; exact hR) (by rw [rA]; exact tA) (by rw [rA]; omega)
  rw [hq, sA, Bool.xor_false] at hd
  have hle := Nat.le_of_lt hR2
  have hw : R2 < double.signWeight := Nat.lt_trans hR2 (inf_lt double)
  have ez : 2 * sv double (double.word (sgn double a) R2) = vW x + vW (nuW x) := by
    rw [← h6, word_sv double _ hle]
    unfold sv
    rw [h5, e2]
    cases sgn double a
    · simp only [Bool.false_eq_true, if_false]; omega
    · simp only [if_true]; omega
  refine ⟨a, _, h1, hd, word_lt64 _ hw, by rw [rung_word double _ hw]; exact hR2, ez, nrw_fit ?_⟩
  have hm := (mg_le_iff single).2 (show t ≤ 2139095039 by rw [inf_single] at ht; omega)
  have hm1 := (mg_le_iff single).2 (show t + 1 ≤ 2139095039 by rw [inf_single] at ht; omega)
  have hb : mg double R ≤ 2 * (mg single 2139095039 * 2 ^ W) := by
    rw [eR, ← Nat.mul_assoc]
    exact Nat.mul_le_mul_right _ (by omega)
  have : (2 * sv double (double.word (sgn double a) R2)).natAbs = mg double R := by rw [ez, hS]
  omega
/-- the middle lies between, and is rounded to both sides -/
theorem mid_facts {x z : Nat} (wx : x < 4294967296) (hx : fnS x = true) (hy : fnS (nuW x) = true) (hz : 2 * sv double z = vW x + vW (nuW x)) (hi : nrw (rung double z) < single.infRung) :
    vW x < sv double z ∧ sv double z < vW (nuW x) ∧ sv single (rdW z) = sv single x ∧ sv single (ruW z) = sv single (nuW x) := by
  have nx := fn_num hx
  have hxi : ¬ (sgn single x = false ∧ rung single x = single.infRung) := fun e => by have := fnS_iff.1 hx; omega
  have hlt := (nu_facts nx hxi).2.2.1
  have hv : vW x < vW (nuW x) := by
    rcases Int.lt_or_le (vW x) (vW (nuW x)) with c | c
    · exact c
    · have := (vW_le hy hx).1 c; omega
  have e1 : vW x = sv single x * PW := by
    have := sv_widen (fnS_iff.1 hx)
    unfold vW PW
    rw [this]
    exact congrArg _ (Int.natCast_pow 2 W).symm
  have e2 : vW (nuW x) = sv single (nuW x) * PW := by
    have := sv_widen (fnS_iff.1 hy)
    unfold vW PW
    rw [this]
    exact congrArg _ (Int.natCast_pow 2 W).symm
  refine ⟨by omega, by omega, ?_⟩
  exact rd_mid hi wx nx hxi (by rw [← e1]; omega) (by rw [← e2]; omega)
/-- back down again -/
theorem down_up {x : Nat} (wx : x < 4294967296) (hx : isNaN single x = false) (hi : ¬ (sgn single x = false ∧ rung single x = single.infRung)) : isNaN single (ndW (nuW x)) = false ∧ sv single (ndW (nuW x)) = sv single x := by
  obtain ⟨u1, u2, u3, u4⟩ := nu_facts hx hi
  have hy : ¬ (sgn single (nuW x) = true ∧ rung single (nuW x) = single.infRung) := fun e => by
    have h1 : sv single (nuW x) = -((mg single single.infRung : Nat) : Int) := by unfold sv; rw [e.1, e.2]; rfl
    have h2 := (mg_le_iff single).2 (num_le hx)
    rcases sv_cases x with ⟨_, e'⟩ | ⟨_, e'⟩ <;> omega
  obtain ⟨d1, d2, d3, d4⟩ := nd_facts u2 u1 hy
  refine ⟨d1, ?_⟩
  have a1 := d4 x wx hx u3
  rcases Int.lt_or_le (sv single x) (sv single (ndW (nuW x))) with k | k
  · have := u4 _ d1 k; omega
  · omega
theorem sub_self32 {x : Nat} (h : fnS x = true) : ∃ r, floatBits .sub .f32 x x = some r ∧ isNaN single r = false ∧ rung single r = 0 := by
  obtain ⟨r, h1, h2, h3, h4, h5⟩ := sub_val (fnS_iff.1 h) (fnS_iff.1 h)
  refine ⟨r, h1, h3, ?_⟩
  rw [h4, Int.sub_self, Int.natAbs_zero, rr_zero1]
  exact Nat.min_eq_left (Nat.zero_le _)
end Go.Proofs.Ytjmmcpeknaaaiaa.Spn
