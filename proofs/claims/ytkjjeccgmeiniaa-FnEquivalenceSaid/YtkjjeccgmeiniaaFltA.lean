/- Plain facts on words of a floating point format: their order is that of whole numbers. No program stands here. -/
import Ieee.Arith
import Derived.Laws.FloatBits
namespace Go.Proofs.Ytkjjeccgmeiniaa.Flt
open Ieee

def rung (f : Format) (w : Nat) : Nat := w % f.signWeight
def sgn (f : Format) (w : Nat) : Bool := w / f.signWeight % 2 == 1
/-- the amount of a rung, in units of the least place; that of infinity goes on where the finite ones end -/
def mg (f : Format) (r : Nat) : Nat := if r < f.binade then r else (f.binade + r % f.binade) * 2 ^ (r / f.binade - 1)
def sv (f : Format) (w : Nat) : Int := if sgn f w then -(mg f (rung f w) : Int) else mg f (rung f w)
def isNaN (f : Format) (w : Nat) : Bool := decide (f.infRung < rung f w)
def isInf (f : Format) (w : Nat) : Bool := decide (rung f w = f.infRung)
def isFin (f : Format) (w : Nat) : Bool := decide (rung f w < f.infRung)

theorem binade_pos (f : Format) : 0 < f.binade := Nat.two_pow_pos _

theorem mg_succ (f : Format) (r : Nat) : mg f r < mg f (r + 1) := by
  have hB := binade_pos f
  unfold mg
  generalize f.binade = B at *
  by_cases h1 : r + 1 < B
  · rw [if_pos (by omega), if_pos h1]; omega
  · rw [if_neg h1]
    have hd := Nat.div_add_mod (r + 1) B
    have hd' := Nat.div_add_mod r B
    have hm := Nat.mod_lt r hB
    have hm' := Nat.mod_lt (r + 1) hB
    by_cases h2 : r < B
    · rw [if_pos h2]
      have : r + 1 = B := by omega
      subst this
      simp
    · rw [if_neg h2]
      have q1 : 1 ≤ r / B := (Nat.le_div_iff_mul_le hB).2 (by omega)
      by_cases h3 : r % B + 1 < B
      · have e1 : (r + 1) / B = r / B := by
          rw [Nat.div_eq_iff hB]
          constructor
          · rw [Nat.mul_comm]; omega
          · rw [Nat.mul_comm]; omega
        have e2 : (r + 1) % B = r % B + 1 := by rw [e1] at hd; omega
        rw [e1, e2]
        exact Nat.mul_lt_mul_of_pos_right (by omega) (Nat.two_pow_pos _)
      · have e1 : (r + 1) / B = r / B + 1 := by
          rw [Nat.div_eq_iff hB, Nat.add_mul]
          rw [Nat.mul_comm] at hd'
          constructor <;> omega
        have e2 : (r + 1) % B = 0 := by
          rw [e1, Nat.mul_add] at hd; omega
        rw [e1, e2]
        have e3 : 2 ^ (r / B + 1 - 1) = 2 * 2 ^ (r / B - 1) := by
          rw [← Nat.pow_succ']; congr 1; omega
        rw [e3, Nat.add_zero, ← Nat.mul_assoc]
        exact Nat.mul_lt_mul_of_pos_right (by omega) (Nat.two_pow_pos _)

theorem mg_lt (f : Format) {r s : Nat} (h : r < s) : mg f r < mg f s := by
  induction s with
  | zero => omega
  | succ s ih =>
    by_cases e : r = s
    · subst e; exact mg_succ f r
    · exact Nat.lt_trans (ih (by omega)) (mg_succ f s)
theorem mg_le (f : Format) {r s : Nat} (h : r ≤ s) : mg f r ≤ mg f s := by
  by_cases e : r = s
  · subst e; exact Nat.le_refl _
  · exact Nat.le_of_lt (mg_lt f (by omega))
theorem mg_lt_iff (f : Format) {r s : Nat} : mg f r < mg f s ↔ r < s :=
  ⟨fun h => by by_cases e : r < s; exact e; exact absurd (mg_le f (Nat.le_of_not_lt e)) (by omega), mg_lt f⟩
theorem mg_le_iff (f : Format) {r s : Nat} : mg f r ≤ mg f s ↔ r ≤ s :=
  ⟨fun h => by by_cases e : r ≤ s; exact e; exact absurd (mg_lt f (Nat.lt_of_not_le e)) (by omega), mg_le f⟩
theorem mg_inj (f : Format) {r s : Nat} : mg f r = mg f s ↔ r = s :=
  ⟨fun h => Nat.le_antisymm ((mg_le_iff f).1 (by omega)) ((mg_le_iff f).1 (by omega)), fun h => by rw [h]⟩
theorem mg_zero (f : Format) : mg f 0 = 0 := by unfold mg; rw [if_pos (binade_pos f)]
theorem mg_eq_zero (f : Format) {r : Nat} : mg f r = 0 ↔ r = 0 := by
  have := mg_inj f (r := r) (s := 0); rw [mg_zero] at this; exact this

/-- how a word reads -/
inductive Reads (f : Format) (w : Nat) : Prop
  | fin (m e : Nat) (hr : rung f w < f.infRung) (hm : m * 2 ^ e = mg f (rung f w)) (h : f.read w = .number (sgn f w) m (f.leastPlace + (e : Int)))
  | inf (hr : rung f w = f.infRung) (h : f.read w = .infinity (sgn f w))
  | nan (t : Nat) (hr : f.infRung < rung f w) (h : f.read w = .nan (sgn f w) t)

theorem infRung_ge (f : Format) (hf : 1 ≤ f.exponentBits) : f.binade ≤ f.infRung := by
  unfold Format.infRung
  have : 2 ^ 1 ≤ 2 ^ f.exponentBits := Nat.pow_le_pow_right (by omega) hf
  exact Nat.le_mul_of_pos_left _ (by omega)

theorem reads (f : Format) (hf : 1 ≤ f.exponentBits) (w : Nat) : Reads f w := by
  have hB := infRung_ge f hf
  by_cases h1 : rung f w < f.binade
  · refine .fin (rung f w) 0 (by omega) (by unfold mg; rw [if_pos h1]; simp) ?_
    unfold rung at h1
    simp only [Format.read, h1, if_true, sgn, rung]; simp
  · by_cases h2 : rung f w < f.infRung
    · refine .fin (f.binade + rung f w % f.binade) (rung f w / f.binade - 1) h2 (by unfold mg; rw [if_neg h1]) ?_
      unfold rung at h1 h2
      simp only [Format.read, h1, h2, if_true, if_false, sgn, rung]
    · by_cases h3 : rung f w = f.infRung
      · refine .inf h3 ?_
        unfold rung at h1 h2 h3
        unfold Format.read
        simp only
        rw [if_neg h1, if_neg h2, if_pos h3]; rfl
      · refine .nan (rung f w - f.infRung) (by omega) ?_
        unfold rung at h1 h2 h3
        simp only [Format.read, h1, h2, h3, if_false, sgn, rung]

theorem compare_mul (x y : Int) (c : Nat) (hc : 0 < c) : compare (x * (c : Int)) (y * (c : Int)) = compare x y := by
  have hc' : (0 : Int) < c := by omega
  show compareOfLessAndEq _ _ = compareOfLessAndEq _ _
  unfold compareOfLessAndEq
  have h1 : x * (c : Int) < y * (c : Int) ↔ x < y := Int.mul_lt_mul_right hc'
  have h2 : x * (c : Int) = y * (c : Int) ↔ x = y := ⟨fun h => Int.eq_of_mul_eq_mul_right (by omega) h, fun h => by rw [h]⟩
  simp only [h1, h2]

theorem signed_mul (s : Bool) (m e k : Nat) : signed s m (e + k) = signed s m e * (2 ^ k : Nat) := by
  unfold signed
  cases s
  · simp only [Bool.false_eq_true, if_false]; rw [Nat.shiftLeft_eq, Nat.shiftLeft_eq, Nat.pow_add, ← Nat.mul_assoc, Int.natCast_mul]
  · simp only [if_true]; rw [Nat.shiftLeft_eq, Nat.shiftLeft_eq, Nat.pow_add, ← Nat.mul_assoc, Int.natCast_mul, Int.neg_mul]
theorem signed_eq (s : Bool) (m e : Nat) : signed s m e = if s then -((m * 2 ^ e : Nat) : Int) else ((m * 2 ^ e : Nat) : Int) := by
  unfold signed; rw [Nat.shiftLeft_eq]

theorem order_num (s t : Bool) (m n : Nat) (L : Int) (i j : Nat) :
    Datum.order (.number s m (L + (i : Int))) (.number t n (L + (j : Int))) = some (compare (signed s m i) (signed t n j)) := by
  simp only [Datum.order]
  by_cases h : i ≤ j
  · have e : min (L + (i : Int)) (L + (j : Int)) = L + (i : Int) := by omega
    rw [e, show (L + (i : Int) - (L + (i : Int))).toNat = 0 by omega, show (L + (j : Int) - (L + (i : Int))).toNat = j - i by omega]
    have h1 := signed_mul s m 0 i
    have h2 := signed_mul t n (j - i) i
    rw [Nat.zero_add] at h1
    rw [Nat.sub_add_cancel h] at h2
    rw [h1, h2, compare_mul _ _ _ (Nat.two_pow_pos _)]
  · have e : min (L + (i : Int)) (L + (j : Int)) = L + (j : Int) := by omega
    rw [e, show (L + (j : Int) - (L + (j : Int))).toNat = 0 by omega, show (L + (i : Int) - (L + (j : Int))).toNat = i - j by omega]
    have h1 := signed_mul t n 0 j
    have h2 := signed_mul s m (i - j) j
    rw [Nat.zero_add] at h1
    rw [Nat.sub_add_cancel (by omega)] at h2
    rw [h1, h2, compare_mul _ _ _ (Nat.two_pow_pos _)]

theorem sv_num (f : Format) (w m e : Nat) (h : m * 2 ^ e = mg f (rung f w)) : signed (sgn f w) m e = sv f w := by
  rw [signed_eq, h]; rfl

theorem compare_lt {x y : Int} (h : x < y) : compare x y = .lt := by show compareOfLessAndEq _ _ = _; simp [compareOfLessAndEq, h]
theorem compare_gt {x y : Int} (h : y < x) : compare x y = .gt := by
  have h1 : ¬ x < y := by omega
  have h2 : x ≠ y := by omega
  show compareOfLessAndEq _ _ = _; simp [compareOfLessAndEq, h1, h2]
theorem compare_eq {x y : Int} (h : x = y) : compare x y = .eq := by subst h; show compareOfLessAndEq _ _ = _; simp [compareOfLessAndEq]
theorem compare_eq_iff {x y : Int} : compare x y = .eq ↔ x = y := by
  constructor
  · intro h
    rcases Int.lt_trichotomy x y with h1 | h1 | h1
    · rw [compare_lt h1] at h; cases h
    · exact h1
    · rw [compare_gt h1] at h; cases h
  · exact compare_eq
theorem compare_lt_iff {x y : Int} : compare x y = .lt ↔ x < y := by
  constructor
  · intro h
    rcases Int.lt_trichotomy x y with h1 | h1 | h1
    · exact h1
    · rw [compare_eq h1] at h; cases h
    · rw [compare_gt h1] at h; cases h
  · exact compare_lt
theorem compare_gt_iff {x y : Int} : compare x y = .gt ↔ y < x := by
  constructor
  · intro h
    rcases Int.lt_trichotomy x y with h1 | h1 | h1
    · rw [compare_lt h1] at h; cases h
    · rw [compare_eq h1] at h; cases h
    · exact h1
  · exact compare_gt

theorem order_nan_left (f : Format) (hf : 1 ≤ f.exponentBits) {a : Nat} (b : Nat) (ha : isNaN f a = true) : f.order a b = none := by
  unfold isNaN at ha
  have ha := of_decide_eq_true ha
  rcases reads f hf a with ⟨m, e, hr, _, _⟩ | ⟨hr, _⟩ | ⟨t, hr, h⟩
  · omega
  · omega
  · unfold Format.order; rw [h]; rfl
theorem order_nan_right (f : Format) (hf : 1 ≤ f.exponentBits) (a : Nat) {b : Nat} (hb : isNaN f b = true) : f.order a b = none := by
  unfold isNaN at hb
  have hb := of_decide_eq_true hb
  rcases reads f hf b with ⟨m, e, hr, _, _⟩ | ⟨hr, _⟩ | ⟨t, hr, h⟩
  · omega
  · omega
  · unfold Format.order; rw [h]; cases f.read a <;> rfl

/-- The order of two words that are no NaNs is that of their amounts with sign. -/
theorem order_sv (f : Format) (hf : 1 ≤ f.exponentBits) {a b : Nat} (ha : isNaN f a = false) (hb : isNaN f b = false) : f.order a b = some (compare (sv f a) (sv f b)) := by
  unfold isNaN at ha hb
  have ha := of_decide_eq_false ha
  have hb := of_decide_eq_false hb
  have hI : 0 < mg f f.infRung := by have := mg_lt f (r := 0) (s := f.infRung) (by have := infRung_ge f hf; have := binade_pos f; omega); omega
  unfold Format.order
  rcases reads f hf a with ⟨m, e, hr, hm, h⟩ | ⟨hr, h⟩ | ⟨t, hr, h⟩
  · rcases reads f hf b with ⟨n, k, hr', hm', h'⟩ | ⟨hr', h'⟩ | ⟨t, hr', h'⟩
    · rw [h, h', order_num, sv_num f a m e hm, sv_num f b n k hm']
    · rw [h, h']
      have hl := mg_lt f hr
      have : sv f b = if sgn f b then -(mg f f.infRung : Int) else mg f f.infRung := by unfold sv; rw [hr']
      rw [this]
      simp only [Datum.order]
      cases hs : sgn f b <;> simp only [Bool.false_eq_true, if_false, if_true]
      · congr 1; symm; apply compare_lt; unfold sv; split <;> omega
      · congr 1; symm; apply compare_gt; unfold sv; split <;> omega
    · omega
  · have hA : sv f a = if sgn f a then -(mg f f.infRung : Int) else mg f f.infRung := by unfold sv; rw [hr]
    rcases reads f hf b with ⟨n, k, hr', hm', h'⟩ | ⟨hr', h'⟩ | ⟨t, hr', h'⟩
    · rw [h, h', hA]
      have hl := mg_lt f hr'
      simp only [Datum.order]
      cases hs : sgn f a <;> simp only [Bool.false_eq_true, if_false, if_true]
      · congr 1; symm; apply compare_gt; unfold sv; split <;> omega
      · congr 1; symm; apply compare_lt; unfold sv; split <;> omega
    · have hB : sv f b = if sgn f b then -(mg f f.infRung : Int) else mg f f.infRung := by unfold sv; rw [hr']
      rw [h, h', hA, hB]
      simp only [Datum.order]
      cases sgn f a <;> cases sgn f b <;> simp only [Bool.false_eq_true, if_false, if_true]
      · congr 1; symm; exact compare_eq rfl
      · congr 1; symm; apply compare_gt; omega
      · congr 1; symm; apply compare_lt; omega
      · congr 1; symm; exact compare_eq rfl
    · omega
  · omega
end Go.Proofs.Ytkjjeccgmeiniaa.Flt
