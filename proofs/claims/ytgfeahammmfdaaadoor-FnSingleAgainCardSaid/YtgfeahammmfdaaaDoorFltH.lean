/- Plain facts: the top binary digit of a whole number times a power of two, and what is left. No program stands here. -/
import Derived.Test.YtgfeahammmfdaaaDoorFltG
namespace Go.Proofs.YtgfeahammmfdaaaDoor.Flt
open Ieee
theorem A_parts {m q : Nat} (h0 : 0 < m) (hm : m < 9007199254740992) (hq : q ≤ 1000) :
    4503599627370496 ≤ A m q ∧ A m q < 9218868437227405312 ∧ 1 ≤ A m q / 4503599627370496 ∧ A m q / 4503599627370496 ≤ 2046 ∧ A m q / 4503599627370496 * 4503599627370496 = A (2 ^ m.log2) q := by
  have hs := A_spec hm hq
  have hlt := A_lt hm hq
  have hex := ex_mg double (A m q)
  unfold ex at hex
  rw [hs.2, Nat.div_one, log2_shift (by omega), show double.fractionBits = 52 by decide] at hex
  have hqq : qq double (A m q) = A m q / 4503599627370496 - 1 := by unfold qq; rw [binade_double]
  rw [hqq] at hex
  have hW := W_eq
  obtain ⟨E, hE⟩ : ∃ E, E = A m q / 4503599627370496 := ⟨_, rfl⟩
  rw [← hE] at hex ⊢
  have hE1 : E + 51 = m.log2 + (W + q) := by omega
  have hE2 : E ≤ 2046 := by omega
  refine ⟨by omega, hlt, by omega, hE2, ?_⟩
  have hp : mg double (E * 4503599627370496) = 2 ^ m.log2 * 2 ^ (W + q) := by
    unfold mg
    rw [binade_double, if_neg (by omega), Nat.mul_mod_left, Nat.add_zero, Nat.mul_div_cancel _ (by omega), ← Nat.pow_add, ← hE1]
    show P52 * _ = _
    rw [← P52_pow, ← Nat.pow_add]
    congr 1
    omega
  unfold A
  exact (rr_exact double _ (by omega) (by rw [hp, Nat.mul_one])).symm
theorem A_mono {m n q : Nat} (hm : m < 9007199254740992) (hq : q ≤ 1000) (h : n < m) : A n q < A m q := by
  rw [← mg_lt_iff double, (A_spec hm hq).2, (A_spec (show n < 9007199254740992 by omega) hq).2]
  exact Nat.mul_lt_mul_of_pos_right h (Nat.two_pow_pos _)
theorem sum_sub (s1 s2 e1 e2 V1 V2 : Nat) (L : Int) (h1 : s1 * 2 ^ e1 = V1) (h2 : s2 * 2 ^ e2 = V2) (h : V2 ≤ V1) :
    ∃ T b, Datum.sum (.number false s1 (L + (e1 : Int))) (.number true s2 (L + (e2 : Int))) = some (.number false T (L + ((b : Nat) : Int))) ∧ T * 2 ^ b = V1 - V2 := by
  obtain ⟨b, d1, d2, rfl, rfl, hb⟩ : ∃ b d1 d2, e1 = b + d1 ∧ e2 = b + d2 ∧ (d1 = 0 ∨ d2 = 0) := ⟨min e1 e2, e1 - min e1 e2, e2 - min e1 e2, by omega, by omega, by omega⟩
  have hmin : min (L + ((b + d1 : Nat) : Int)) (L + ((b + d2 : Nat) : Int)) = L + (b : Int) := by omega
  have hx : s1 * 2 ^ d1 * 2 ^ b = V1 := by rw [← h1, Nat.mul_assoc, ← Nat.pow_add, Nat.add_comm d1]
  have hy : s2 * 2 ^ d2 * 2 ^ b = V2 := by rw [← h2, Nat.mul_assoc, ← Nat.pow_add, Nat.add_comm d2]
  have hxy : s2 * 2 ^ d2 ≤ s1 * 2 ^ d1 := by
    refine Nat.le_of_mul_le_mul_right (c := 2 ^ b) ?_ (Nat.two_pow_pos _)
    rw [hx, hy]; exact h
  refine ⟨s1 * 2 ^ d1 - s2 * 2 ^ d2, b, ?_, by rw [Nat.sub_mul, hx, hy]⟩
  unfold Datum.sum
  simp only
  rw [hmin, show (L + ((b + d1 : Nat) : Int) - (L + (b : Int))).toNat = d1 by omega, show (L + ((b + d2 : Nat) : Int) - (L + (b : Int))).toNat = d2 by omega, signed_eq, signed_eq]
  simp only [Bool.false_eq_true, if_false, if_true]
  have htot : ((s1 * 2 ^ d1 : Nat) : Int) + -((s2 * 2 ^ d2 : Nat) : Int) = ((s1 * 2 ^ d1 - s2 * 2 ^ d2 : Nat) : Int) := by omega
  rw [htot]
  congr 2
  by_cases hz : ((s1 * 2 ^ d1 - s2 * 2 ^ d2 : Nat) : Int) = 0
  · rw [if_pos hz]; rfl
  · rw [if_neg hz]; exact decide_eq_false (by omega)
theorem sub_A {m n q : Nat} (hm : m < 9007199254740992) (hq : q ≤ 1000) (h : n ≤ m) : floatBits .sub .f64 (A m q) (A n q) = some (A (m - n) q) := by
  have hn : n < 9007199254740992 := by omega
  have hs := A_spec hm hq
  have ht := A_spec hn hq
  have hu := A_spec (show m - n < 9007199254740992 by omega) hq
  have hr1 := reads_fin double (w := A m q) (by rw [rung_A hm hq]; exact hs.1)
  rw [rung_A hm hq, sgn_A hm hq] at hr1
  have hr2 := reads_fin double (w := A n q) (by rw [rung_A hn hq]; exact ht.1)
  rw [rung_A hn hq, sgn_A hn hq] at hr2
  have m1 := mg_ss double (A m q)
  rw [hs.2] at m1
  have m2 := mg_ss double (A n q)
  rw [ht.2] at m2
  obtain ⟨T, b, h1, h2⟩ := sum_sub _ _ _ _ _ _ double.leastPlace m1.symm m2.symm (Nat.mul_le_mul_right _ h)
  show double.sub (A m q) (A n q) = _
  unfold Format.sub
  rw [hr1, hr2]
  show (Datum.sum _ (.number true _ _)).map double.write = _
  rw [h1, Option.map_some, write_num]
  have h3 := nearest_exact' double false T b 0 (A (m - n) q) (Nat.le_of_lt hu.1) (by rw [h2, hu.2, Nat.pow_zero, Nat.mul_one, Nat.sub_mul])
  rw [show double.leastPlace + (b : Int) - ((0 : Nat) : Int) = double.leastPlace + (b : Int) by omega] at h3
  rw [h3, word_false]
theorem lt_false {a b : Nat} (ha : a < 9218868437227405312) (hb : b < 9218868437227405312) (h : b ≤ a) : (FloatKind.f64.format.order a b == some .lt) = false := by
  have f : ∀ c, c < 9218868437227405312 → rung double c = c ∧ sgn double c = false ∧ isNaN double c = false := by
    intro c hc
    have e1 : rung double c = c := by unfold rung; rw [sw_double]; exact Nat.mod_eq_of_lt (by omega)
    exact ⟨e1, by unfold sgn; rw [sw_double, Nat.div_eq_of_lt (by omega)]; rfl, by unfold isNaN; rw [e1, inf_double]; exact decide_eq_false (by omega)⟩
  obtain ⟨a1, a2, a3⟩ := f a ha
  obtain ⟨b1, b2, b3⟩ := f b hb
  rw [lt64]
  unfold ltW
  rw [a3, b3]
  simp only [Bool.not_false, Bool.true_and]
  refine decide_eq_false ?_
  unfold sv
  rw [a1, a2, b1, b2]
  have := mg_le double h
  simp only [Bool.false_eq_true, if_false]
  omega
theorem log2_even {n : Nat} (h : 2 ≤ n) : 2 ^ n.log2 % 2 = 0 ∧ 2 ^ n.log2 ≤ n ∧ 0 < 2 ^ n.log2 := by
  have h1 : 1 ≤ n.log2 := (Nat.le_log2 (by omega)).2 (by omega)
  refine ⟨?_, Nat.log2_self_le (by omega), Nat.two_pow_pos _⟩
  rw [show n.log2 = n.log2 - 1 + 1 by omega, Nat.pow_succ]; omega
theorem c2 : mg double 4611686018427387904 = 2 ^ (W + 150) := mg_const (by decide) (by decide) (by decide)
end Go.Proofs.YtgfeahammmfdaaaDoor.Flt
