/- Plain facts: a number less itself, whole parts, tests of amounts. No program stands here. -/
import Derived.Test.YtkjjeccgmeiniaaFltF
namespace Go.Proofs.Ytkjjeccgmeiniaa.Flt
open Ieee
def isFinD (a : Nat) : Bool := decide (rung double a < double.infRung)
theorem sum_opp (s : Bool) (m : Nat) (p : Int) : Datum.sum (.number s m p) (.number (!s) m p) = some (.number false 0 p) := by
  have h : signed s m 0 + signed (!s) m 0 = 0 := by rw [signed_eq, signed_eq]; cases s <;> simp <;> omega
  unfold Datum.sum
  simp only
  rw [Int.min_self, Int.sub_self, Int.toNat_zero, h]
  cases s <;> rfl
theorem sub_self {a : Nat} (h : isFinD a = true) : floatBits .sub .f64 a a = some 0 := by
  have hf := of_decide_eq_true h
  have hrd := reads_fin double hf
  show double.sub a a = some 0
  unfold Format.sub
  rw [hrd]
  show (Datum.sum _ (.number (!sgn double a) _ _)).map double.write = _
  rw [sum_opp, Option.map_some, write_num]
  have : double.nearest false 0 (double.leastPlace + (qq double (rung double a) : Int)) = 0 := by unfold Format.nearest; rw [if_pos rfl]; rfl
  rw [this]
theorem sub_nofin {a : Nat} (h : isFinD a = false) : floatBits .sub .f64 a a = none := by
  have hf := of_decide_eq_false h
  show double.sub a a = none
  unfold Format.sub
  rcases reads double hd a with ⟨m, e, hr, _, h'⟩ | ⟨hr, h'⟩ | ⟨t, hr, h'⟩
  · omega
  · rw [h']; cases sgn double a <;> rfl
  · rw [h']; rfl
theorem isFin_widen (x : Nat) : isFinD (widen x) = decide (rung single x < single.infRung) := by
  unfold isFinD
  rw [rung_widen]
  by_cases h : rung single x < single.infRung
  · rw [if_pos h, decide_eq_true h]; exact decide_eq_true (wr_spec h).1
  · rw [if_neg h, decide_eq_false h]; exact decide_eq_false (by omega)
theorem isFin_nan {a : Nat} (h : isNaN double a = true) : isFinD a = false := by
  have := of_decide_eq_true h
  unfold isFinD; exact decide_eq_false (by omega)
theorem ss_single (r : Nat) : ss single r < 16777216 := by have := ss_lt single r; rw [binade_single] at this; omega
theorem ss_single_ge {r : Nat} (h : 0 < qq single r) : 8388608 ≤ ss single r := by have := ss_ge single r h; rw [binade_single] at this; omega
/-- a finite single, widened: its sign and its amount -/
theorem widen_A {x : Nat} (h : rung single x < single.infRung) : widen x = double.word (sgn single x) (A (ss single (rung single x)) (qq single (rung single x))) := by
  unfold widen; rw [if_pos h, wr_A]
theorem ss_pos {r : Nat} (h : r ≠ 0) : 0 < ss single r := by
  have := mg_eq_zero single (r := r)
  rw [mg_ss] at this
  refine Nat.pos_of_ne_zero fun e => h (this.1 (by rw [e]; simp))
/-- whole numbers are cut to themselves -/
theorem cut_zero (neg : Bool) (n d : Nat) : Toward.zero.cut neg n d = n / 2 ^ d := by
  unfold Toward.cut
  simp only [Nat.shiftLeft_eq, Nat.one_mul, Bool.toNat_false, Nat.add_zero]
  by_cases h : d ≤ n.log2 + 2
  · rw [Nat.min_eq_left h]
  · rw [Nat.min_eq_right (by omega)]
    have hn : n < 2 ^ (n.log2 + 1) := Nat.lt_log2_self
    have h2 : 2 ^ (n.log2 + 1) ≤ 2 ^ (n.log2 + 2) := Nat.pow_le_pow_right (by omega) (by omega)
    have h3 : 2 ^ (n.log2 + 2) ≤ 2 ^ d := Nat.pow_le_pow_right (by omega) (by omega)
    rw [Nat.div_eq_of_lt (by omega), Nat.div_eq_of_lt (by omega)]
/-- the whole part of s * 2 ^ e units of the least place, where 1 is 2 ^ (W + 149) units -/
theorem whole_cut (s e : Nat) : Toward.zero.cut false (s <<< (double.leastPlace + (e : Int)).toNat) (-(double.leastPlace + (e : Int))).toNat = s * 2 ^ e / 2 ^ (W + 149) := by
  rw [cut_zero, Nat.shiftLeft_eq, least_double]
  by_cases h : W + 149 ≤ e
  · obtain ⟨k, rfl⟩ : ∃ k, e = k + (W + 149) := ⟨e - (W + 149), by omega⟩
    rw [show (-1074 + ((k + (W + 149) : Nat) : Int)).toNat = k by rw [W_eq]; omega, show (-(-1074 + ((k + (W + 149) : Nat) : Int))).toNat = 0 by rw [W_eq]; omega]
    rw [Nat.pow_zero, Nat.div_one, Nat.pow_add, ← Nat.mul_assoc, Nat.mul_div_cancel _ (Nat.two_pow_pos _)]
  · obtain ⟨k, hk⟩ : ∃ k, W + 149 = k + e := ⟨W + 149 - e, by omega⟩
    rw [show (-1074 + (e : Int)).toNat = 0 by rw [W_eq] at h; omega, show (-(-1074 + (e : Int))).toNat = k by rw [W_eq] at hk h; omega]
    rw [Nat.pow_zero, Nat.mul_one, hk, Nat.pow_add, Nat.mul_comm (2 ^ k), ← Nat.div_div_eq_div_mul, Nat.mul_div_cancel _ (Nat.two_pow_pos _)]
theorem whole_A {m q : Nat} (hm : m < 9007199254740992) (hq : q ≤ 1000) : (double.read (A m q)).integral .zero = .number false (m * 2 ^ q / 2 ^ 149) 0 := by
  have hs := A_spec hm hq
  have hrd := reads_fin double (w := A m q) (by rw [rung_A hm hq]; exact hs.1)
  rw [rung_A hm hq, sgn_A hm hq] at hrd
  have hmg := mg_ss double (A m q)
  rw [hs.2] at hmg
  rw [hrd]
  show Datum.number false (Toward.zero.cut false _ _) 0 = _
  rw [whole_cut, ← hmg, Nat.pow_add, Nat.pow_add, show m * (2 ^ W * 2 ^ q) = 2 ^ W * (m * 2 ^ q) by rw [Nat.mul_left_comm], Nat.mul_div_mul_left _ _ (Nat.two_pow_pos W)]
theorem i64_min : IntKind.i64.min = -9223372036854775808 := rfl
theorem i64_max : IntKind.i64.max = 9223372036854775807 := rfl
theorem decode64 (a : Nat) : FloatKind.f64.decode a = double.read a := rfl
theorem toInt_num {d : Datum} {F : Nat} (h : d.integral .zero = .number false F 0) : d.toInt .zero = some (F : Int) := by
  unfold Datum.toInt
  rw [h]
  show some (signed false F 0) = _
  rw [signed_eq]; simp
theorem toIntVal {a F : Nat} (h : (double.read a).integral .zero = .number false F 0) (hF : F < 9007199254740992) : floatToIntVal .f64 a .i64 = some (F : Int) := by
  unfold floatToIntVal
  rw [decode64, toInt_num h]
  simp only
  rw [if_pos]
  rw [i64_min, i64_max]
  omega
theorem toInt_A {m : Nat} (hm : m < 9007199254740992) : floatToIntVal .f64 (A m 149) .i64 = some (m : Int) := by
  refine toIntVal ?_ hm
  rw [whole_A hm (by omega), Nat.mul_div_cancel _ (Nat.two_pow_pos 149)]
theorem two_odd : ∀ (n : Nat), 0 < n → ∃ m t, m % 2 = 1 ∧ n = m * 2 ^ t := by
  intro n
  induction n using Nat.strongRecOn with
  | ind n ih =>
    intro hn
    by_cases h : n % 2 = 1
    · exact ⟨n, 0, h, by simp⟩
    · obtain ⟨m, t, h1, h2⟩ := ih (n / 2) (by omega) (by omega)
      exact ⟨m, t + 1, h1, by rw [Nat.pow_succ, ← Nat.mul_assoc, ← h2]; omega⟩
end Go.Proofs.Ytkjjeccgmeiniaa.Flt
