/- Plain facts: the drift of a list: whole multiples of singles, their sums, the quotient. No program stands here. -/
import Derived.Test.YtkjjeccgmeiniaaAvgE
import Derived.Test.YtkjjeccgmeiniaaFltN
namespace Go.Proofs.Ytkjjeccgmeiniaa.Flt
open Ieee Go.RowKit
set_option linter.unusedVariables false
theorem ofIntI {m : Int} (hm : m.natAbs < 9007199254740992) : floatOfInt .f64 m = double.word (decide (m < 0)) (A m.natAbs 149) := by
  have hs' := A_sp hm
  show double.nearest (decide (m < 0)) m.natAbs 0 = _
  rw [nearest_rr]
  rw [show (0 - double.leastPlace).toNat = W + 149 by rw [least_double, W_eq]; rfl, show (double.leastPlace - 0).toNat = 0 by rw [least_double]; rfl]
  rw [PV_eq, Nat.pow_zero, show rr double (m.natAbs * PV) 1 = A m.natAbs 149 from rr_exact double _ Nat.one_pos (by rw [hs'.2, Nat.mul_one]), Nat.min_eq_left (Nat.le_of_lt hs'.1)]
def mulD (a b : Nat) : Nat := (floatBits .mul .f64 a b).getD 0
/-- a whole multiple of a double, rounded once -/
theorem mul_int {m : Int} {y : Nat} (hm : m.natAbs < 9007199254740992) (hy : rung double y < double.infRung) :
    floatBits .mul .f64 (floatOfInt .f64 m) y = some (mulD (floatOfInt .f64 m) y) ∧ floatBits .mul .f64 y (floatOfInt .f64 m) = some (mulD (floatOfInt .f64 m) y) ∧
    mulD (floatOfInt .f64 m) y = double.word (decide (m < 0) ^^ sgn double y) (rgD (m.natAbs * mg double (rung double y))) := by
  have hA := A_sp hm
  have hw : A m.natAbs 149 < double.signWeight := Nat.lt_trans hA.1 (inf_lt double)
  have e : mulRung double (A m.natAbs 149) (rung double y) = rgD (m.natAbs * mg double (rung double y)) := by
    unfold mulRung rgD
    rw [hA.2, lamPV, rr_congr double (N' := m.natAbs * mg double (rung double y)) (D' := 1) PV_pos Nat.one_pos (by generalize PV = p; generalize mg double (rung double y) = q; rw [Nat.mul_one]; ac_rfl)]
  have e2 : mulRung double (rung double y) (A m.natAbs 149) = rgD (m.natAbs * mg double (rung double y)) := by
    rw [← e]; unfold mulRung; rw [Nat.mul_comm]
  have h1 : floatBits .mul .f64 (floatOfInt .f64 m) y = some (double.word (decide (m < 0) ^^ sgn double y) (rgD (m.natAbs * mg double (rung double y)))) := by
    rw [ofIntI hm]
    show double.mul _ _ = _
    rw [mul_rr double least_le_d (by rw [rung_word double _ hw]; exact hA.1) hy, rung_word double _ hw, sgn_word double _ hw, e]
  have h2 : floatBits .mul .f64 y (floatOfInt .f64 m) = some (double.word (decide (m < 0) ^^ sgn double y) (rgD (m.natAbs * mg double (rung double y)))) := by
    rw [ofIntI hm]
    show double.mul _ _ = _
    rw [mul_rr double least_le_d hy (by rw [rung_word double _ hw]; exact hA.1), rung_word double _ hw, sgn_word double _ hw, e2, Bool.xor_comm]
  have h3 : mulD (floatOfInt .f64 m) y = double.word (decide (m < 0) ^^ sgn double y) (rgD (m.natAbs * mg double (rung double y))) := by unfold mulD; rw [h1]; rfl
  rw [h3]
  exact ⟨h1, h2, rfl⟩
theorem sv_mul_int {m : Int} {y : Nat} (hm : m.natAbs < 9007199254740992) (hy : rung double y < double.infRung) :
    sv double (mulD (floatOfInt .f64 m) y) = rndD (m * sv double y) ∧ rung double (mulD (floatOfInt .f64 m) y) = rgD (m * sv double y).natAbs ∧ mulD (floatOfInt .f64 m) y < 18446744073709551616 := by
  obtain ⟨_, _, h⟩ := mul_int hm hy
  have ha : (m * sv double y).natAbs = m.natAbs * mg double (rung double y) := by rw [Int.natAbs_mul, sv_abs]
  have hr : rgD (m.natAbs * mg double (rung double y)) ≤ double.infRung := by unfold rgD; omega
  have hw : rgD (m.natAbs * mg double (rung double y)) < double.signWeight := Nat.lt_of_le_of_lt hr (inf_lt double)
  refine ⟨?_, by rw [h, rung_word double _ hw, ha], ?_⟩
  · rw [h, word_sv double _ hr, rnd_eqD, ha]
    have hs : sv double y = if sgn double y = true then -((mg double (rung double y) : Nat) : Int) else ((mg double (rung double y) : Nat) : Int) := rfl
    obtain ⟨q, hq⟩ : ∃ q, mg double (rung double y) = q := ⟨_, rfl⟩
    rw [hq] at hs ⊢
    by_cases hz : m.natAbs * q = 0
    · have z : mg double (rgD (m.natAbs * q)) = 0 := by
        rw [hz]
        have : rgD 0 = 0 := by
          have := rgD_mg (r := 0) (Nat.zero_le _)
          rw [mg_zero] at this
          exact this
        rw [this, mg_zero]
      rw [z]; simp
    · have hm0 : m.natAbs ≠ 0 := fun e => hz (by rw [e, Nat.zero_mul])
      have hq0 : q ≠ 0 := fun e => hz (by rw [e, Nat.mul_zero])
      have key : (m * sv double y < 0) ↔ (decide (m < 0) ^^ sgn double y) = true := by
        rw [hs]
        rcases Int.lt_or_le m 0 with hneg | hpos
        · rw [decide_eq_true hneg]
          cases hsg : sgn double y
          · simp only [Bool.false_eq_true, if_false, Bool.xor_false, iff_true]
            exact Int.mul_neg_of_neg_of_pos hneg (by omega)
          · simp only [if_true, Bool.xor_self, Bool.false_eq_true, iff_false, Int.not_lt]
            exact Int.le_of_lt (Int.mul_pos_of_neg_of_neg hneg (by omega))
        · rw [decide_eq_false (by omega)]
          cases hsg : sgn double y
          · simp only [Bool.false_eq_true, if_false, Bool.xor_self, iff_false, Int.not_lt]
            exact Int.mul_nonneg hpos (by omega)
          · simp only [if_true, Bool.false_xor, iff_true]
            exact Int.mul_neg_of_pos_of_neg (by omega) (by omega)
      by_cases hlt : m * sv double y < 0
      · rw [if_pos hlt, if_pos (key.1 hlt)]
      · rw [if_neg hlt, if_neg (fun e => hlt (key.2 e))]
  · rw [h]; exact word_lt64 _ hw
/-- whole multiples of a single are doubles -/
theorem rnd_rep {x : Nat} {m : Int} (hx : fnS x = true) (hm : m.natAbs ≤ 30000) : rndD (m * vW x) = m * vW x ∧ rgD (m * vW x).natAbs < double.infRung := by
  obtain ⟨R, r1, r2⟩ := rep (fnS_iff.1 hx) hm
  have ha : (m * vW x).natAbs = mg double R := by rw [Int.natAbs_mul, vW_abs hx, r2]
  rw [rnd_eqD, ha, rgD_mg (Nat.le_of_lt r1)]
  refine ⟨?_, r1⟩
  split <;> omega
theorem fin_wid {x : Nat} (hx : fnS x = true) : rung double (widen x) < double.infRung := by
  rw [rung_widen, if_pos (fnS_iff.1 hx)]; exact (wr_spec (fnS_iff.1 hx)).1
theorem prod_val {x : Nat} {m : Int} (hx : fnS x = true) (hm : m.natAbs ≤ 30000) :
    floatBits .mul .f64 (floatOfInt .f64 m) (widen x) = some (mulD (floatOfInt .f64 m) (widen x)) ∧ sv double (mulD (floatOfInt .f64 m) (widen x)) = m * vW x ∧ rung double (mulD (floatOfInt .f64 m) (widen x)) < double.infRung ∧ mulD (floatOfInt .f64 m) (widen x) < 18446744073709551616 := by
  obtain ⟨h1, h2, h3⟩ := sv_mul_int (m := m) (by omega) (fin_wid hx)
  obtain ⟨r1, r2⟩ := rnd_rep hx hm
  have e : sv double (widen x) = vW x := rfl
  rw [e] at h1 h2
  exact ⟨(mul_int (by omega) (fin_wid hx)).1, by rw [h1, r1], by rw [h2]; exact r2, h3⟩
/-- the greatest single's and its opposite's multiples -/
theorem vW_hi : vW 2139095039 = ((mg double (wr 2139095039) : Nat) : Int) := by
  rw [vW_eq (by decide), show sgn single 2139095039 = false by decide, show rung single 2139095039 = 2139095039 by decide]; rfl
theorem vW_lo : vW 4286578687 = -((mg double (wr 2139095039) : Nat) : Int) := by
  rw [vW_eq (by decide), show sgn single 4286578687 = true by decide, show rung single 4286578687 = 2139095039 by decide]; rfl
theorem Bd.abs {k a : Nat} (h : Bd 4286578687 2139095039 k a) : (sv double a).natAbs ≤ k * mg double (wr 2139095039) := by
  have h1 := h.l
  have h2 := h.h
  rw [vW_lo, Int.mul_neg] at h1
  rw [vW_hi] at h2
  have e : (k : Int) * ((mg double (wr 2139095039) : Nat) : Int) = ((k * mg double (wr 2139095039) : Nat) : Int) := by rw [Int.natCast_mul]
  rw [e] at h1 h2
  omega
theorem Bd.of_abs {k a : Nat} (hw : a < 18446744073709551616) (hf : rung double a < double.infRung) (h : (sv double a).natAbs ≤ k * mg double (wr 2139095039)) : Bd 4286578687 2139095039 k a := by
  have e : (k : Int) * ((mg double (wr 2139095039) : Nat) : Int) = ((k * mg double (wr 2139095039) : Nat) : Int) := by rw [Int.natCast_mul]
  refine ⟨hw, hf, ?_, ?_⟩
  · rw [vW_lo, Int.mul_neg, e]; omega
  · rw [vW_hi, e]; omega
theorem vW_top {x : Nat} (hx : fnS x = true) : (vW x).natAbs ≤ mg double (wr 2139095039) := by
  have h1 := fnS_iff.1 hx
  have e : single.infRung = 2139095040 := by decide
  rw [vW_abs hx]
  have h2 := (wr_spec h1).2
  have h3 := (wr_spec (show 2139095039 < single.infRung by rw [e]; omega)).2
  rw [h2, h3]
  exact Nat.mul_le_mul_right _ (mg_le single (by omega))
theorem fn_hiD : fnS 2139095039 = true := by decide
theorem fn_loD : fnS 4286578687 = true := by decide
theorem prod_bd {x : Nat} {m : Int} (hx : fnS x = true) (hm : m.natAbs ≤ 63) : Bd 4286578687 2139095039 63 (mulD (floatOfInt .f64 m) (widen x)) := by
  obtain ⟨_, h1, h2, h3⟩ := prod_val hx (m := m) (by omega)
  refine Bd.of_abs h3 h2 ?_
  rw [h1, Int.natAbs_mul]
  exact Nat.mul_le_mul hm (vW_top hx)
/-! the drift -/
def drC (n k : Nat) : Int := 2 * (k : Int) - ((n : Int) - 1)
def drS (n : Nat) (X : Nat → Nat) : Nat → Nat
  | 0 => 0
  | k + 1 => addW (drS n X k) (mulD (floatOfInt .f64 (drC n k)) (widen (X k)))
theorem drC_abs {n k : Nat} (hk : k < n) (hn : n ≤ 64) : (drC n k).natAbs ≤ 63 := by unfold drC; omega
theorem dr_bd {n : Nat} {X : Nat → Nat} (hn : n ≤ 64) (hf : ∀ j, j < n → fnS (X j) = true) : ∀ k, k ≤ n → Bd 4286578687 2139095039 (63 * k) (drS n X k)
  | 0, _ => Bd.zero _ _
  | k + 1, h => by
    have h1 := dr_bd hn hf k (by omega)
    have h2 := prod_bd (hf k (by omega)) (drC_abs (n := n) (k := k) (by omega) hn)
    have := (h1.add fn_loD fn_hiD h2 (by omega)).2.1
    rwa [show 63 * k + 63 = 63 * (k + 1) by omega] at this
theorem dr_step {n k : Nat} {X : Nat → Nat} (hn : n ≤ 64) (hf : ∀ j, j < n → fnS (X j) = true) (hk : k < n) :
    floatBits .mul .f64 (floatOfInt .f64 (drC n k)) (widen (X k)) = some (mulD (floatOfInt .f64 (drC n k)) (widen (X k))) ∧
    floatBits .add .f64 (drS n X k) (mulD (floatOfInt .f64 (drC n k)) (widen (X k))) = some (drS n X (k + 1)) ∧
    sv double (drS n X (k + 1)) = rndD (sv double (drS n X k) + drC n k * vW (X k)) := by
  have hm := drC_abs (n := n) (k := k) hk hn
  obtain ⟨p1, p2, _⟩ := prod_val (hf k hk) (m := drC n k) (by omega)
  obtain ⟨a1, a2, a3, _⟩ := (dr_bd hn hf k (by omega)).add fn_loD fn_hiD (prod_bd (hf k hk) hm) (by omega)
  exact ⟨p1, a1, by rw [← p2]; exact a3⟩
/-- a quotient by a whole number -/
theorem quo_int {y n : Nat} (h0 : 0 < n) (hn : n < 9007199254740992) (hy : rung double y < double.infRung) :
    floatBits .quo .f64 y (floatOfInt .f64 (n : Int)) = some (quoW y n) ∧ quoW y n = double.word (sgn double y) (min (rr double (mg double (rung double y)) n) double.infRung) := by
  have hA := A_sp hn
  have hq : floatBits .quo .f64 y (floatOfInt .f64 (n : Int)) = some (double.word (sgn double y) (min (rr double (mg double (rung double y)) n) double.infRung)) := by
    rw [ofIntA hn]
    show double.div _ _ = _
    rw [div_rr double least_le_d hy (by rw [rung_A hn (by omega)]; exact hA.1) (mg_A_pos hn h0), sgn_A hn (by omega), Bool.xor_false, rung_A hn (by omega)]
    unfold quoRung
    rw [hA.2, lamPV]
    rw [rr_congr double (N := mg double (rung double y) * PV) (D := n * PV) (N' := mg double (rung double y)) (D' := n) (Nat.mul_pos h0 PV_pos) h0 (by generalize PV = p; ac_rfl)]
  have hqW : quoW y n = double.word (sgn double y) (min (rr double (mg double (rung double y)) n) double.infRung) := by unfold quoW; rw [hq]; rfl
  exact ⟨by rw [hq, hqW], hqW⟩
def drD (n : Nat) : Nat := n * (n * n - 1)
theorem drD_pos {n : Nat} (h : 2 ≤ n) (hn : n ≤ 64) : 0 < drD n ∧ drD n < 9007199254740992 := by
  unfold drD
  have h1 : n * n ≤ 64 * 64 := Nat.mul_le_mul hn hn
  have h2 : 2 * 2 ≤ n * n := Nat.mul_le_mul h h
  have h3 : 0 < n * (n * n - 1) := Nat.mul_pos (by omega) (by omega)
  have h4 : n * (n * n - 1) ≤ 64 * (64 * 64) := Nat.mul_le_mul hn (by omega)
  omega
/-- six times the sum -/
def drT (n : Nat) (X : Nat → Nat) : Nat := mulD (floatOfInt .f64 6) (drS n X n)
def drF (n : Nat) (X : Nat → Nat) : Nat := quoW (drT n X) (drD n)
theorem six_bits : floatOfInt .f64 6 = 4618441417868443648 := by decide +kernel
theorem dr_end {n : Nat} {X : Nat → Nat} (h2 : 2 ≤ n) (hn : n ≤ 64) (hf : ∀ j, j < n → fnS (X j) = true) :
    floatBits .mul .f64 (drS n X n) 4618441417868443648 = some (drT n X) ∧ floatBits .quo .f64 (drT n X) (floatOfInt .f64 (drD n : Int)) = some (drF n X) ∧ drF n X < 18446744073709551616 ∧ isNaN double (drF n X) = false := by
  have hb := dr_bd hn hf n (Nat.le_refl _)
  have ha := hb.abs
  obtain ⟨s1, s2, s3⟩ := sv_mul_int (m := 6) (y := drS n X n) (by omega) hb.f
  have hbt := (rnd_between (lo := 4286578687) (hi := 2139095039) (k := 30000) (z := 6 * sv double (drS n X n)) fn_loD fn_hiD (Nat.le_refl _) (by
    rw [vW_lo]; have := Nat.mul_le_mul_right (mg double (wr 2139095039)) (show 63 * n ≤ 4032 by omega); generalize mg double (wr 2139095039) = q at *; omega) (by
    rw [vW_hi]; have := Nat.mul_le_mul_right (mg double (wr 2139095039)) (show 63 * n ≤ 4032 by omega); generalize mg double (wr 2139095039) = q at *; omega)).2
  have hf6 : rung double (drT n X) < double.infRung := by unfold drT; rw [s2]; exact hbt
  obtain ⟨d1, d2⟩ := drD_pos h2 hn
  obtain ⟨q1, q2⟩ := quo_int d1 d2 hf6
  have m2 := (mul_int (m := 6) (y := drS n X n) (by omega) hb.f).2.1
  rw [six_bits] at m2
  have hw : min (rr double (mg double (rung double (drT n X))) (drD n)) double.infRung < double.signWeight := Nat.lt_of_le_of_lt (Nat.min_le_right _ _) (inf_lt double)
  refine ⟨by rw [m2]; unfold drT; rw [six_bits], q1, ?_, ?_⟩
  · unfold drF; rw [q2]; exact word_lt64 _ hw
  · unfold drF; rw [q2]
    exact decide_eq_false (by rw [rung_word double _ hw]; exact Nat.not_lt.2 (Nat.min_le_right _ _))
/-- elements that are all alike have no drift -/
theorem dr_const {n x : Nat} {X : Nat → Nat} (h2 : 2 ≤ n) (hn : n ≤ 64) (hx : fnS x = true) (hX : ∀ j, j < n → X j = x) : rung double (drF n X) = 0 := by
  have hf : ∀ j, j < n → fnS (X j) = true := fun j hj => by rw [hX j hj]; exact hx
  have hs : ∀ k, k ≤ n → sv double (drS n X k) = ((k : Int) * ((k : Int) - n)) * vW x := by
    intro k
    induction k with
    | zero => intro _; rw [show drS n X 0 = 0 from rfl, show sv double 0 = 0 from (sv_eq_zero double).2 (by decide)]; simp
    | succ k ih =>
      intro hk
      obtain ⟨_, _, e⟩ := dr_step hn hf (show k < n by omega)
      have hc : (k : Int) * ((k : Int) - n) + drC n k = ((k + 1 : Nat) : Int) * (((k + 1 : Nat) : Int) - n) := by
        unfold drC
        rw [Int.natCast_succ, Int.add_mul, Int.mul_sub, Int.mul_sub, Int.mul_add]
        omega
      have hb : (((k + 1 : Nat) : Int) * (((k + 1 : Nat) : Int) - n)).natAbs ≤ 30000 := by
        rw [Int.natAbs_mul]
        have := Nat.mul_le_mul (show ((k + 1 : Nat) : Int).natAbs ≤ 64 by omega) (show (((k + 1 : Nat) : Int) - n).natAbs ≤ 64 by omega)
        omega
      rw [e, ih (by omega), hX k (by omega), ← Int.add_mul, hc]
      exact (rnd_rep hx hb).1
  have h0 : sv double (drS n X n) = 0 := by rw [hs n (Nat.le_refl _), Int.sub_self, Int.mul_zero, Int.zero_mul]
  have r0 : rung double (drS n X n) = 0 := (sv_eq_zero double).1 h0
  have hb := dr_bd hn hf n (Nat.le_refl _)
  obtain ⟨s1, s2, s3⟩ := sv_mul_int (m := 6) (y := drS n X n) (by omega) hb.f
  have z : rgD 0 = 0 := by
    have := rgD_mg (r := 0) (Nat.zero_le _)
    rw [mg_zero] at this
    exact this
  have r6 : rung double (drT n X) = 0 := by unfold drT; rw [s2, h0]; exact z
  obtain ⟨d1, d2⟩ := drD_pos h2 hn
  obtain ⟨_, q2⟩ := quo_int (y := drT n X) d1 d2 (by rw [r6, inf_double]; omega)
  unfold drF
  rw [q2, r6, mg_zero]
  have e0 : min (rr double 0 (drD n)) double.infRung = 0 :=
    Nat.le_zero.1 (Nat.le_trans (Nat.min_le_left _ _) (rr_le double (N := 0) (D := drD n) 0 d1 (Nat.zero_le _)))
  rw [e0]
  exact rung_word double _ (Nat.lt_of_le_of_lt (Nat.zero_le _) (inf_lt double))
end Go.Proofs.Ytkjjeccgmeiniaa.Flt
