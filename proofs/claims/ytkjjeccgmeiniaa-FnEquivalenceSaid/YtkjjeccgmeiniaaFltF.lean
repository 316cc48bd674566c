/- Plain facts on doubles that are a whole number below 2 to the 53 times a power of two. No program stands here. -/
import Derived.Test.YtkjjeccgmeiniaaFltE
namespace Go.Proofs.Ytkjjeccgmeiniaa.Flt
open Ieee

theorem pow_cancel {m n a b : Nat} (h : m * 2 ^ a = n * 2 ^ b) (hab : b ≤ a) : m * 2 ^ (a - b) = n := by
  have e : m * 2 ^ (a - b) * 2 ^ b = n * 2 ^ b := by rw [Nat.mul_assoc, ← Nat.pow_add, Nat.sub_add_cancel hab]; exact h
  exact Nat.eq_of_mul_eq_mul_right (Nat.two_pow_pos _) e
theorem nearest_exact' (f : Format) (s : Bool) (m a b r : Nat) (hr : r ≤ f.infRung) (h : m * 2 ^ a = mg f r * 2 ^ b) : f.nearest s m (f.leastPlace + (a : Int) - (b : Int)) = f.word s r := by
  refine nearest_exact f s m _ r hr ?_
  by_cases hab : b ≤ a
  · rw [show (f.leastPlace + (a : Int) - (b : Int) - f.leastPlace).toNat = a - b by omega, show (f.leastPlace - (f.leastPlace + (a : Int) - (b : Int))).toNat = 0 by omega, Nat.pow_zero, Nat.mul_one]
    exact pow_cancel h hab
  · rw [show (f.leastPlace + (a : Int) - (b : Int) - f.leastPlace).toNat = 0 by omega, show (f.leastPlace - (f.leastPlace + (a : Int) - (b : Int))).toNat = b - a by omega, Nat.pow_zero, Nat.mul_one]
    exact (pow_cancel h.symm (by omega)).symm
theorem reads_fin (f : Format) {w : Nat} (h : rung f w < f.infRung) : f.read w = .number (sgn f w) (ss f (rung f w)) (f.leastPlace + (qq f (rung f w) : Int)) := by
  unfold ss qq
  by_cases h1 : rung f w < f.binade
  · rw [if_pos h1, Nat.div_eq_of_lt h1]
    unfold rung at h1
    simp only [Format.read, h1, if_true, sgn, rung]; simp
  · rw [if_neg h1]
    unfold rung at h h1
    simp only [Format.read, h1, h, if_true, if_false, sgn, rung]

theorem pow_up (k : Nat) : 9007199254740992 * 2 ^ k = 4503599627370496 * 2 ^ (k + 1) := by
  rw [Nat.pow_succ]
  generalize 2 ^ k = y
  omega
/-- 2 to the power of 51, of 52: behind names -/
def P51 : Nat := 2251799813685248
def P52 : Nat := 4503599627370496
theorem P52_eq : P52 = 2 * P51 := rfl
theorem P51_pow : 2 ^ 51 = P51 := rfl
theorem read_two' : double.read 4611686018427387904 = .number false P52 (-51) := read_two
/-- the word of m times 2 to the power of q, in units of the least place of the singles -/
def A (m q : Nat) : Nat := rr double (m * 2 ^ (W + q)) 1
theorem A_spec {m q : Nat} (hm : m < 9007199254740992) (hq : q ≤ 1000) : A m q < double.infRung ∧ mg double (A m q) = m * 2 ^ (W + q) := by
  obtain ⟨r, hr⟩ := mg_surj double (W + q) m (by rw [binade_double]; omega)
  have e : A m q = r := by unfold A; exact rr_exact double r (by omega) (by omega)
  rw [e]
  refine ⟨?_, hr⟩
  rw [← mg_lt_iff double, hr, mg_inf_double]
  calc m * 2 ^ (W + q) ≤ m * 2 ^ (W + 1000) := Nat.mul_le_mul_left _ (Nat.pow_le_pow_right (by omega) (by omega))
    _ < 9007199254740992 * 2 ^ (W + 1000) := Nat.mul_lt_mul_of_pos_right hm (Nat.two_pow_pos _)
    _ = 4503599627370496 * 2 ^ (W + 1000 + 1) := pow_up _
    _ ≤ 4503599627370496 * 2 ^ Z := Nat.mul_le_mul_left _ (Nat.pow_le_pow_right (by omega) (by rw [W_eq, Z_eq]; omega))
theorem A_lt {m q : Nat} (hm : m < 9007199254740992) (hq : q ≤ 1000) : A m q < 9218868437227405312 := by
  have := (A_spec hm hq).1; rw [inf_double] at this; exact this
theorem rung_A {m q : Nat} (hm : m < 9007199254740992) (hq : q ≤ 1000) : rung double (A m q) = A m q := by
  have := A_lt hm hq
  unfold rung; rw [sw_double]; exact Nat.mod_eq_of_lt (by omega)
theorem sgn_A {m q : Nat} (hm : m < 9007199254740992) (hq : q ≤ 1000) : sgn double (A m q) = false := by
  have := A_lt hm hq
  unfold sgn; rw [sw_double, Nat.div_eq_of_lt (by omega)]; rfl
theorem nan_A {m q : Nat} (hm : m < 9007199254740992) (hq : q ≤ 1000) : isNaN double (A m q) = false := by
  have := (A_spec hm hq).1
  unfold isNaN; rw [rung_A hm hq]; exact decide_eq_false (by omega)
theorem sv_A {m q : Nat} (hm : m < 9007199254740992) (hq : q ≤ 1000) : sv double (A m q) = ((m * 2 ^ (W + q) : Nat) : Int) := by
  unfold sv; rw [sgn_A hm hq, rung_A hm hq, (A_spec hm hq).2]; rfl
theorem A_up (m q : Nat) : A (2 * m) q = A m (q + 1) := by
  unfold A
  rw [show 2 * m * 2 ^ (W + q) = m * 2 ^ (W + (q + 1)) by rw [← Nat.add_assoc, Nat.pow_succ _ (W + q)]; grind]
theorem A_shift (m k q : Nat) : A (m * 2 ^ k) q = A m (q + k) := by
  unfold A
  rw [Nat.mul_assoc, ← Nat.pow_add, show k + (W + q) = W + (q + k) by omega]
theorem A_zero (q : Nat) : A 0 q = 0 := by
  unfold A; exact rr_exact double 0 (by omega) (by rw [mg_zero]; simp)
theorem product_num (s t : Bool) (m n : Nat) (i j : Int) : Datum.product (.number s m i) (.number t n j) = some (.number (s ^^ t) (m * n) (i + j)) := rfl
theorem write_num (f : Format) (s : Bool) (m : Nat) (i : Int) : f.write (.number s m i) = f.nearest s m i := rfl
theorem word_false (f : Format) (r : Nat) : f.word false r = r := rfl
theorem mul_two_pow (m y : Nat) : m * (y * 2) = 2 * (m * y) := by rw [Nat.mul_comm y 2, Nat.mul_left_comm]
theorem A_two {m q : Nat} (hm : m < 9007199254740992) (hq : q + 1 ≤ 1000) : mg double (A m (q + 1)) = 2 * mg double (A m q) := by
  rw [(A_spec hm hq).2, (A_spec hm (show q ≤ 1000 by omega)).2, ← Nat.add_assoc, Nat.pow_succ _ (W + q), mul_two_pow]
theorem P_two (s y P : Nat) : s * (2 * P) * y = 2 * (s * y) * P := by
  rw [Nat.mul_left_comm, Nat.mul_assoc 2, Nat.mul_assoc 2, Nat.mul_right_comm s P y]
theorem mul2_read {w s : Nat} {e : Nat} (h : double.read w = .number false s (double.leastPlace + (e : Int))) : double.mul w 4611686018427387904 = some (double.nearest false (s * P52) (double.leastPlace + (e : Int) - ((51 : Nat) : Int))) := by
  unfold Format.mul
  rw [read_two', h, product_num, Option.map_some, write_num, Bool.xor_self]
  rw [show double.leastPlace + (e : Int) + -51 = double.leastPlace + (e : Int) - ((51 : Nat) : Int) by omega]
theorem mul2_near {s e r : Nat} (hr : r ≤ double.infRung) (h : mg double r = 2 * (s * 2 ^ e)) : double.nearest false (s * P52) (double.leastPlace + (e : Int) - ((51 : Nat) : Int)) = r := by
  rw [nearest_exact' double false (s * P52) e 51 r hr, word_false]
  rw [h, P52_eq, P51_pow, P_two]
theorem mul2_A {m q : Nat} (hm : m < 9007199254740992) (hq : q + 1 ≤ 1000) : mul2 (A m q) = A m (q + 1) := by
  have hs := A_spec hm (show q ≤ 1000 by omega)
  have ht := A_spec hm hq
  have hrd := reads_fin double (w := A m q) (by rw [rung_A hm (by omega)]; exact hs.1)
  rw [rung_A hm (by omega), sgn_A hm (by omega)] at hrd
  have h2 := A_two hm hq
  rw [mg_ss double (A m q)] at h2
  unfold mul2
  rw [mul2_read hrd, mul2_near (Nat.le_of_lt ht.1) h2, Option.getD_some]
theorem P52_pow : 2 ^ 52 = P52 := rfl
theorem P52_log : P52.log2 = 52 := by decide
theorem P52_pos : 0 < P52 := by decide
theorem quot_two (s : Nat) (i : Int) (mo : Nat) (h : 54 + 52 - s.log2 = mo + 52) : Datum.quotient 54 (.number false s i) (.number false P52 (-51)) = some (.number false (2 * (s * 2 ^ mo)) (i - -51 - ((mo + 52 : Nat) : Int) - 1)) := by
  have hne : ¬ P52 = 0 := by have := P52_pos; omega
  unfold Datum.quotient
  simp only
  rw [if_neg hne, P52_log, h, Nat.shiftLeft_eq, Nat.pow_add, P52_pow, ← Nat.mul_assoc, Nat.mul_div_cancel _ P52_pos, Nat.mul_mod_left, Bool.xor_self]
  rfl
theorem div2_read {w s : Nat} {e mo : Nat} (h : double.read w = .number false s (double.leastPlace + (e : Int))) (hmo : 54 + 52 - s.log2 = mo + 52) : double.div w 4611686018427387904 = some (double.nearest false (2 * (s * 2 ^ mo)) (double.leastPlace + ((e + 50 : Nat) : Int) - ((mo + 52 : Nat) : Int))) := by
  unfold Format.div
  rw [read_two', h, show double.fractionBits + 2 = 54 by decide, quot_two s _ mo hmo, Option.map_some, write_num]
  rw [show double.leastPlace + (e : Int) - -51 - ((mo + 52 : Nat) : Int) - 1 = double.leastPlace + ((e + 50 : Nat) : Int) - ((mo + 52 : Nat) : Int) by omega]
def P50 : Nat := 1125899906842624
theorem P50_pow : 2 ^ 50 = P50 := rfl
theorem P52_four : P52 = 4 * P50 := rfl
theorem P_half (s y x R P : Nat) (h : s * y = 2 * R) : 2 * (s * x) * (y * P) = R * (x * (4 * P)) := by
  have e : 2 * (s * x) * (y * P) = (s * y) * (2 * (x * P)) := by grind
  rw [e, h]
  grind
theorem div2_near {s e mo r : Nat} (hr : r ≤ double.infRung) (h : 2 * mg double r = s * 2 ^ e) : double.nearest false (2 * (s * 2 ^ mo)) (double.leastPlace + ((e + 50 : Nat) : Int) - ((mo + 52 : Nat) : Int)) = r := by
  rw [nearest_exact' double false _ (e + 50) (mo + 52) r hr, word_false]
  rw [Nat.pow_add 2 e 50, Nat.pow_add 2 mo 52, P52_pow, P50_pow, P52_four]
  exact P_half s (2 ^ e) (2 ^ mo) (mg double r) P50 h.symm
theorem div2_A {m q : Nat} (hm : m < 9007199254740992) (hq : q + 1 ≤ 1000) : div2 (A m (q + 1)) = A m q := by
  have hs := A_spec hm hq
  have ht := A_spec hm (show q ≤ 1000 by omega)
  have hrd := reads_fin double (w := A m (q + 1)) (by rw [rung_A hm (by omega)]; exact hs.1)
  rw [rung_A hm (by omega), sgn_A hm (by omega)] at hrd
  have hlt := ss_lt double (A m (q + 1))
  rw [binade_double] at hlt
  have h2 := A_two hm hq
  rw [mg_ss double (A m (q + 1))] at h2
  have hl : (ss double (A m (q + 1))).log2 ≤ 52 := by
    by_cases h0 : ss double (A m (q + 1)) = 0
    · rw [h0]; simp
    · have := (Nat.log2_lt h0 (k := 53)).2 (by omega); omega
  unfold div2
  rw [div2_read hrd (mo := 54 - (ss double (A m (q + 1))).log2) (by omega), div2_near (Nat.le_of_lt ht.1) h2.symm, Option.getD_some]
theorem muls_A {m q : Nat} (hm : m < 9007199254740992) (k : Nat) (hq : q + k ≤ 1000) : muls k (A m q) = A m (q + k) := by
  induction k with
  | zero => rfl
  | succ k ih => show mul2 (muls k (A m q)) = _; rw [ih (by omega), mul2_A hm (by omega)]; rfl
theorem divs_A {m q : Nat} (hm : m < 9007199254740992) (k : Nat) (hq : q + k ≤ 1000) : divs k (A m (q + k)) = A m q := by
  induction k generalizing q with
  | zero => rfl
  | succ k ih => show div2 (divs k (A m (q + (k + 1)))) = _; rw [show q + (k + 1) = (q + 1) + k by omega, ih (by omega), div2_A hm (by omega)]
theorem scale_up {m q : Nat} (hm : m < 9007199254740992) (hq : q + 1 ≤ 1000) : scale (A m q) 1 = A m (q + 1) := mul2_A hm hq
theorem scale_down {m q : Nat} (hm : m < 9007199254740992) (hq : q + 1 ≤ 1000) : scale (A m (q + 1)) (-1) = A m q := div2_A hm hq
theorem scale_A {m : Nat} (hm : m < 9007199254740992) {q : Nat} {e : Int} (h0 : 0 ≤ (q : Int) + e) (h1 : (q : Int) + max e 0 ≤ 1000) : scale (A m q) e = A m ((q : Int) + e).toNat := by
  unfold scale
  by_cases he : 0 ≤ e
  · rw [show (-e).toNat = 0 by omega, muls_A hm _ (by omega), show q + e.toNat = ((q : Int) + e).toNat by omega]; rfl
  · rw [show e.toNat = 0 by omega]
    show divs _ (A m q) = _
    obtain ⟨k, hk⟩ : ∃ k, (-e).toNat = k := ⟨_, rfl⟩
    rw [hk, show A m q = A m (((q : Int) + e).toNat + k) by congr 1; omega, divs_A hm _ (by omega)]

/-! comparing with a power of two -/
theorem A_cmp {m q n c : Nat} (hm : m < 9007199254740992) (hq : q ≤ 1000) (hc : c < 9218868437227405312) (hn : mg double c = 2 ^ (W + n)) :
    ltW double (A m q) c = decide (m * 2 ^ q < 2 ^ n) ∧ ltW double c (A m q) = decide (2 ^ n < m * 2 ^ q) ∧ eqW double (A m q) c = decide (m * 2 ^ q = 2 ^ n) := by
  have hcr : rung double c = c := by unfold rung; rw [sw_double]; exact Nat.mod_eq_of_lt (by omega)
  have hcs : sgn double c = false := by unfold sgn; rw [sw_double, Nat.div_eq_of_lt (by omega)]; rfl
  have hcn : isNaN double c = false := by unfold isNaN; rw [hcr, inf_double]; exact decide_eq_false (by omega)
  have hcv : sv double c = ((1 * 2 ^ n * 2 ^ W : Nat) : Int) := by unfold sv; rw [hcs, hcr, hn, Nat.pow_add]; simp [Nat.mul_comm]
  have hav : sv double (A m q) = ((m * 2 ^ q * 2 ^ W : Nat) : Int) := by rw [sv_A hm hq, Nat.pow_add, show m * (2 ^ W * 2 ^ q) = m * 2 ^ q * 2 ^ W by grind]
  have hp : 0 < 2 ^ W := Nat.two_pow_pos _
  unfold ltW eqW
  rw [nan_A hm hq, hcn, hcv, hav, Nat.one_mul]
  simp only [Bool.not_false, Bool.true_and]
  have l1 : (((m * 2 ^ q * 2 ^ W : Nat) : Int) < ((2 ^ n * 2 ^ W : Nat) : Int)) ↔ m * 2 ^ q < 2 ^ n := by
    rw [Int.ofNat_lt]; exact Nat.mul_lt_mul_right hp
  have l2 : (((2 ^ n * 2 ^ W : Nat) : Int) < ((m * 2 ^ q * 2 ^ W : Nat) : Int)) ↔ 2 ^ n < m * 2 ^ q := by
    rw [Int.ofNat_lt]; exact Nat.mul_lt_mul_right hp
  have l3 : (((m * 2 ^ q * 2 ^ W : Nat) : Int) = ((2 ^ n * 2 ^ W : Nat) : Int)) ↔ m * 2 ^ q = 2 ^ n := by
    rw [Int.ofNat_inj]; exact ⟨fun h => Nat.eq_of_mul_eq_mul_right hp h, fun h => by rw [h]⟩
  exact ⟨decide_eq_decide.2 l1, decide_eq_decide.2 l2, decide_eq_decide.2 l3⟩
theorem A_eq {m q n p : Nat} (hm : m < 9007199254740992) (hq : q ≤ 1000) (hn : n < 9007199254740992) (hp : p ≤ 1000) : eqW double (A m q) (A n p) = decide (m * 2 ^ q = n * 2 ^ p) := by
  have hw : 0 < 2 ^ W := Nat.two_pow_pos _
  unfold eqW
  rw [nan_A hm hq, nan_A hn hp, sv_A hm hq, sv_A hn hp]
  simp only [Bool.not_false, Bool.true_and]
  refine decide_eq_decide.2 ?_
  rw [Int.ofNat_inj, Nat.pow_add, Nat.pow_add, show m * (2 ^ W * 2 ^ q) = m * 2 ^ q * 2 ^ W by grind, show n * (2 ^ W * 2 ^ p) = n * 2 ^ p * 2 ^ W by grind]
  exact ⟨fun h => Nat.eq_of_mul_eq_mul_right hw h, fun h => by rw [h]⟩
theorem A_eq_zero {m q : Nat} (hm : m < 9007199254740992) (hq : q ≤ 1000) : eqW double (A m q) 0 = decide (m = 0) := by
  rw [eqW_zero _ (nan_A hm hq), rung_A hm hq]
  refine decide_eq_decide.2 ?_
  rw [← mg_eq_zero double, (A_spec hm hq).2]
  have := Nat.two_pow_pos (W + q)
  constructor
  · intro h; rcases Nat.mul_eq_zero.1 h with h | h <;> omega
  · intro h; rw [h]; simp
/-- a single's amount -/
theorem wr_A {r : Nat} : wr r = A (ss single r) (qq single r) := by
  unfold wr A
  rw [mg_ss, Nat.mul_assoc, ← Nat.pow_add, Nat.add_comm]
theorem mg_const {c n : Nat} (h1 : c % 4503599627370496 = 0) (h2 : ¬ c < 4503599627370496) (h3 : c / 4503599627370496 - 1 + 52 = W + n) : mg double c = 2 ^ (W + n) := by
  unfold mg
  rw [binade_double, if_neg h2, h1, Nat.add_zero, ← h3, Nat.pow_add, Nat.mul_comm]
end Go.Proofs.Ytkjjeccgmeiniaa.Flt
