/- Plain facts: the form of a decimal number without a sign, by places of a text. -/
import Derived.Test.YtgfeahammmfdaaaDoorFltK
import Derived.Lib.IndexBytes
import Derived.Lib.Strings
namespace Go.Proofs.YtgfeahammmfdaaaDoor.Dec
open Go
set_option linter.unusedVariables false
def byt (s : ByteArray) (i : Nat) : Nat := (s.data.toList.getD i 0).toNat
def dg (c : Nat) : Prop := 48 ≤ c ∧ c ≤ 57
/-- the n bytes from place a are digits -/
def digs (s : ByteArray) (a n : Nat) : Prop := ∀ j, j < n → dg (byt s (a + j))
/-- their value -/
def vl (s : ByteArray) (a : Nat) : Nat → Nat
  | 0 => 0
  | n + 1 => 10 * vl s a n + (byt s (a + n) - 48)
theorem digs_zero (s : ByteArray) (a : Nat) : digs s a 0 := fun j hj => absurd hj (Nat.not_lt_zero j)
theorem digs_succ {s : ByteArray} {a n : Nat} (h : digs s a n) (hd : dg (byt s (a + n))) : digs s a (n + 1) := by
  intro j hj
  by_cases e : j = n
  · subst e; exact hd
  · exact h j (by omega)
theorem vl_lt {s : ByteArray} {a : Nat} : ∀ {n : Nat}, digs s a n → vl s a n < 10 ^ n := by
  intro n
  induction n with
  | zero => intro _; exact Nat.one_pos
  | succ n ih =>
    intro h
    have i := ih (fun j hj => h j (by omega))
    have d := h n (by omega)
    unfold dg at d
    show 10 * vl s a n + (byt s (a + n) - 48) < 10 ^ (n + 1)
    rw [Nat.pow_succ]
    omega
theorem pow15 {n : Nat} (h : n ≤ 15) : 10 ^ n ≤ 1000000000000000 := by
  have := Nat.pow_le_pow_right (n := 10) (by omega) h
  exact Nat.le_trans this (by decide)
theorem vl_15 {s : ByteArray} {a n : Nat} (h : digs s a n) (hn : n ≤ 15) : vl s a n < 1000000000000000 := Nat.lt_of_lt_of_le (vl_lt h) (pow15 hn)
/-- the n bytes from place a are a decimal number: d its digits, k of them behind the point -/
def Form (s : ByteArray) (a n d k : Nat) : Prop :=
  (1 ≤ n ∧ n ≤ 15 ∧ digs s a n ∧ d = vl s a n ∧ k = 0) ∨
  (∃ p b, 1 ≤ p ∧ 1 ≤ b ∧ n = p + 1 + b ∧ p + b ≤ 15 ∧ byt s (a + p) = 46 ∧ digs s a p ∧ digs s (a + p + 1) b ∧ d = vl s a p * 10 ^ b + vl s (a + p + 1) b ∧ k = b)
theorem not_dg_46 {c : Nat} (h : c = 46) (hd : dg c) : False := by unfold dg at hd; omega
/-- the point stands at one place only -/
theorem form_point {s : ByteArray} {a n d k i : Nat} (h : Form s a n d k) (hi : i < n) (hb : ¬ dg (byt s (a + i))) : byt s (a + i) = 46 ∧ 1 ≤ i ∧ i + 1 < n ∧ digs s a i ∧ k = n - 1 - i ∧ n ≤ 16 ∧ d = vl s a i * 10 ^ k + vl s (a + i + 1) k ∧ digs s (a + i + 1) k := by
  rcases h with ⟨h1, h2, h3, h4, h5⟩ | ⟨p, b, h1, h2, h3, h4, h5, h6, h7, h8, h9⟩
  · exact absurd (h3 i hi) hb
  · have e : i = p := by
      apply Nat.le_antisymm
      · apply Nat.le_of_not_lt
        intro hlt
        apply hb
        have := h7 (i - p - 1) (by omega)
        rw [show a + p + 1 + (i - p - 1) = a + i by omega] at this
        exact this
      · apply Nat.le_of_not_lt
        intro hlt
        exact hb (h6 i hlt)
    subst e
    subst h9
    exact ⟨h5, h1, by omega, h6, by omega, by omega, h8, h7⟩
theorem form_digs {s : ByteArray} {a n d k : Nat} (h : Form s a n d k) (hd : digs s a n) : 1 ≤ n ∧ n ≤ 15 ∧ d = vl s a n ∧ k = 0 := by
  rcases h with ⟨h1, h2, h3, h4, h5⟩ | ⟨p, b, h1, h2, h3, h4, h5, h6, h7, h8, h9⟩
  · exact ⟨h1, h2, h4, h5⟩
  · exact absurd (hd p (by omega)) (fun h => not_dg_46 h5 h)
theorem form_fun {s : ByteArray} {a n d k d' k' : Nat} (h : Form s a n d k) (h' : Form s a n d' k') : d = d' ∧ k = k' := by
  by_cases hd : digs s a n
  · have x := form_digs h hd
    have y := form_digs h' hd
    exact ⟨by omega, by omega⟩
  · obtain ⟨i, hi, hb⟩ : ∃ i, i < n ∧ ¬ dg (byt s (a + i)) := by
      apply Classical.byContradiction
      intro hn
      apply hd
      intro j hj
      apply Classical.byContradiction
      intro hb
      exact hn ⟨j, hj, hb⟩
    have x := form_point h hi hb
    have y := form_point h' hi hb
    have hk : k = k' := by omega
    subst hk
    exact ⟨by rw [x.2.2.2.2.2.2.1, y.2.2.2.2.2.2.1], rfl⟩
theorem form_small {s : ByteArray} {a n d k : Nat} (h : Form s a n d k) : d < 1000000000000000 ∧ k ≤ 14 ∧ 1 ≤ n ∧ n ≤ 16 := by
  rcases h with ⟨h1, h2, h3, h4, h5⟩ | ⟨p, b, h1, h2, h3, h4, h5, h6, h7, h8, h9⟩
  · exact ⟨by rw [h4]; exact vl_15 h3 h2, by omega, by omega, by omega⟩
  · refine ⟨?_, by omega, by omega, by omega⟩
    have x := vl_lt h6
    have y := vl_lt h7
    have z := pow15 (n := p + b) h4
    rw [Nat.pow_add] at z
    have : (vl s a p + 1) * 10 ^ b ≤ 10 ^ p * 10 ^ b := Nat.mul_le_mul_right _ x
    rw [Nat.add_mul, Nat.one_mul] at this
    omega
open Classical in
/-- what the number is read as: its digits, the places behind its point, and whether it has the form -/
noncomputable def dnum (s : ByteArray) (a n : Nat) : Nat × Nat × Bool := if h : ∃ d k, Form s a n d k then (h.choose, h.choose_spec.choose, true) else (0, 0, false)
theorem dnum_of {s : ByteArray} {a n d k : Nat} (h : Form s a n d k) : dnum s a n = (d, k, true) := by
  unfold dnum
  have hx : ∃ d k, Form s a n d k := ⟨d, k, h⟩
  rw [dif_pos hx]
  obtain ⟨e1, e2⟩ := form_fun hx.choose_spec.choose_spec h
  exact Prod.ext e1 (Prod.ext e2 rfl)
theorem dnum_none {s : ByteArray} {a n : Nat} (h : ¬ ∃ d k, Form s a n d k) : dnum s a n = (0, 0, false) := dif_neg h
theorem byt_extract (s : ByteArray) (a i : Nat) : byt (s.extract a s.size) i = byt s (a + i) := by
  unfold byt
  rw [Lib.extract_to_end s a]
  simp
theorem digs_extract {s : ByteArray} {b a n : Nat} : digs (s.extract b s.size) a n ↔ digs s (b + a) n := by
  unfold digs
  constructor
  · intro h j hj
    have := h j hj
    rw [byt_extract, ← Nat.add_assoc] at this
    exact this
  · intro h j hj
    rw [byt_extract, ← Nat.add_assoc]
    exact h j hj
theorem vl_extract (s : ByteArray) (b a n : Nat) : vl (s.extract b s.size) a n = vl s (b + a) n := by
  induction n with
  | zero => rfl
  | succ n ih =>
    show 10 * vl (s.extract b s.size) a n + (byt (s.extract b s.size) (a + n) - 48) = 10 * vl s (b + a) n + (byt s (b + a + n) - 48)
    rw [ih, byt_extract, Nat.add_assoc]
theorem form_extract {s : ByteArray} {b a n d k : Nat} : Form (s.extract b s.size) a n d k ↔ Form s (b + a) n d k := by
  unfold Form
  simp only [digs_extract, vl_extract, byt_extract, Nat.add_assoc]
theorem dnum_extract (s : ByteArray) (b a n : Nat) : dnum (s.extract b s.size) a n = dnum s (b + a) n := by
  by_cases h : ∃ d k, Form s (b + a) n d k
  · obtain ⟨d, k, h⟩ := h
    rw [dnum_of h, dnum_of (form_extract.2 h)]
  · rw [dnum_none h, dnum_none (fun ⟨d, k, h'⟩ => h ⟨d, k, form_extract.1 h'⟩)]
/-- how far a scan goes -/
def Stop (t : ByteArray) (L c : Nat) : Prop := c ≤ t.size ∧ c ≤ L ∧ digs t 0 c ∧ (c = t.size ∨ c = L ∨ ¬ dg (byt t c))
theorem stop_form {t : ByteArray} {c d k : Nat} (hs : Stop t 15 c) (hc : c < t.size) (h : Form t 0 t.size d k) : byt t c = 46 ∧ 1 ≤ c ∧ c + 1 < t.size ∧ k = t.size - 1 - c ∧ t.size ≤ 16 ∧ d = vl t 0 c * 10 ^ k + vl t (c + 1) k ∧ digs t (c + 1) k := by
  obtain ⟨h1, h2, h3, h4⟩ := hs
  by_cases hd : dg (byt t c)
  · exfalso
    have hc15 : c = 15 := by
      rcases h4 with h4 | h4 | h4
      · omega
      · exact h4
      · exact absurd hd h4
    rcases h with ⟨g1, g2, g3, g4, g5⟩ | ⟨p, b, g1, g2, g3, g4, g5, g6, g7, g8, g9⟩
    · omega
    · rw [Nat.zero_add] at g5
      by_cases hp : p < c
      · have := h3 p hp
        rw [Nat.zero_add] at this
        exact not_dg_46 g5 this
      · omega
  · have := form_point h hc (by rw [Nat.zero_add]; exact hd)
    rw [Nat.zero_add] at this
    exact ⟨this.1, this.2.1, this.2.2.1, this.2.2.2.2.1, this.2.2.2.2.2.1, this.2.2.2.2.2.2.1, this.2.2.2.2.2.2.2⟩
theorem stop_zero {t : ByteArray} (hs : Stop t 15 0) : ¬ ∃ d k, Form t 0 t.size d k := by
  rintro ⟨d, k, h⟩
  by_cases hz : 0 < t.size
  · have := (stop_form hs hz h).2.1
    omega
  · have := (form_small h).2.2.1
    omega
theorem stop_all {t : ByteArray} {c : Nat} (hs : Stop t 15 c) (h0 : 0 < c) (hc : c = t.size) : Form t 0 t.size (vl t 0 c) 0 := by
  obtain ⟨h1, h2, h3, h4⟩ := hs
  subst hc
  exact .inl ⟨h0, h2, h3, rfl, rfl⟩
theorem stop_frac {t : ByteArray} {c b d k : Nat} (hs : Stop t 15 c) (hc : c < t.size) (hb : Stop (t.extract (c + 1) t.size) (15 - c) b) (hz : (t.extract (c + 1) t.size).size = t.size - (c + 1)) (h : Form t 0 t.size d k) :
    b = t.size - (c + 1) ∧ 0 < b := by
  obtain ⟨g1, g2, g3, g4, g5, g6, g7⟩ := stop_form hs hc h
  obtain ⟨h1, h2, h3, h4⟩ := hb
  rw [hz] at h1 h4
  subst g4
  rcases h4 with h4 | h4 | h4
  · omega
  · omega
  · by_cases e : b = t.size - (c + 1)
    · omega
    · exfalso
      apply h4
      rw [byt_extract]
      exact g7 b (by omega)
theorem stop_good {t : ByteArray} {c b : Nat} (hs : Stop t 15 c) (hc : c < t.size) (h0 : 0 < c) (h46 : byt t c = 46) (hb : Stop (t.extract (c + 1) t.size) (15 - c) b) (hb0 : 0 < b) (hbl : b = t.size - (c + 1)) :
    Form t 0 t.size (vl t 0 c * 10 ^ b + vl (t.extract (c + 1) t.size) 0 b) b := by
  obtain ⟨h1, h2, h3, h4⟩ := hs
  obtain ⟨g1, g2, g3, g4⟩ := hb
  refine .inr ⟨c, b, h0, hb0, by omega, by omega, by rw [Nat.zero_add]; exact h46, h3, ?_, ?_, rfl⟩
  · rw [digs_extract] at g3
    rw [Nat.zero_add]
    exact g3
  · rw [vl_extract, Nat.zero_add]
/-- so far no number here is too great -/
theorem up_lt {n c j : Nat} (hn : n < 10 ^ c) (h : c + j < 15) : n * 10 ^ j * 10 < 1000000000000000 := by
  have h1 : (n + 1) * 10 ^ j ≤ 10 ^ c * 10 ^ j := Nat.mul_le_mul_right _ hn
  have h2 := pow15 (n := c + j + 1) (by omega)
  rw [Nat.pow_succ, Nat.pow_add] at h2
  have h3 := Nat.two_pow_pos 1
  have h4 : 0 < 10 ^ j := Nat.pow_pos (by omega)
  rw [Nat.add_mul] at h1
  omega
theorem extract_size (t : ByteArray) (a : Nat) : (t.extract a t.size).size = t.size - a := by
  show (t.extract a t.size).data.size = _
  rw [← Array.length_toList, Lib.extract_to_end, List.length_drop, Array.length_toList]
  rfl
/-- how far the model's scan of s has come, at place i: the digits so far, how many, the place of the point (below 0: none yet) -/
def St (s : ByteArray) (i d c : Nat) (pt : Int) : Prop :=
  1 ≤ i ∧ ((pt = -1 ∧ digs s 1 (i - 1) ∧ d = vl s 1 (i - 1) ∧ c = i - 1) ∨
    (∃ p : Nat, pt = (p : Int) ∧ 1 < p ∧ p < i ∧ p + 1 < s.size ∧ byt s p = 46 ∧ digs s 1 (p - 1) ∧ digs s (p + 1) (i - 1 - p) ∧ d = vl s 1 (p - 1) * 10 ^ (i - 1 - p) + vl s (p + 1) (i - 1 - p) ∧ c = i - 2))
theorem st_zero (s : ByteArray) : St s 1 0 0 (-1) := ⟨Nat.le_refl _, .inl ⟨rfl, digs_zero s 1, rfl, rfl⟩⟩
theorem st_point {s : ByteArray} {i d c : Nat} {pt : Int} (h : St s i d c pt) (hp : pt < 0) (h46 : byt s i = 46) (h1 : 1 < i) (h2 : i + 1 < s.size) : St s (i + 1) d c i := by
  obtain ⟨h0, h⟩ := h
  rcases h with ⟨g1, g2, g3, g4⟩ | ⟨p, g1, _⟩
  · refine ⟨by omega, .inr ⟨i, rfl, h1, by omega, h2, h46, g2, ?_, ?_, by omega⟩⟩
    · rw [show i + 1 - 1 - i = 0 by omega]; exact digs_zero _ _
    · rw [show i + 1 - 1 - i = 0 by omega, g3]
      show _ = vl s 1 (i - 1) * 1 + 0
      omega
  · omega
theorem vl_add (s : ByteArray) (a n : Nat) : vl s a (n + 1) = 10 * vl s a n + (byt s (a + n) - 48) := rfl
theorem st_digit {s : ByteArray} {i d c : Nat} {pt : Int} (h : St s i d c pt) (hd : dg (byt s i)) : St s (i + 1) (10 * d + (byt s i - 48)) (c + 1) pt := by
  obtain ⟨h0, h⟩ := h
  rcases h with ⟨g1, g2, g3, g4⟩ | ⟨p, g1, g2, g3, g4, g5, g6, g7, g8, g9⟩
  · refine ⟨by omega, .inl ⟨g1, ?_, ?_, by omega⟩⟩
    · have := digs_succ g2 (by rw [show 1 + (i - 1) = i by omega]; exact hd)
      rw [show i - 1 + 1 = i + 1 - 1 by omega] at this
      exact this
    · rw [g3, show i + 1 - 1 = i - 1 + 1 by omega, vl_add, show 1 + (i - 1) = i by omega]
  · refine ⟨by omega, .inr ⟨p, g1, g2, by omega, g4, g5, g6, ?_, ?_, by omega⟩⟩
    · have := digs_succ g7 (by rw [show p + 1 + (i - 1 - p) = i by omega]; exact hd)
      rw [show i - 1 - p + 1 = i + 1 - 1 - p by omega] at this
      exact this
    · rw [g8, show i + 1 - 1 - p = i - 1 - p + 1 by omega, vl_add, show p + 1 + (i - 1 - p) = i by omega, Nat.pow_succ]
      generalize vl s 1 (p - 1) = x
      generalize 10 ^ (i - 1 - p) = y
      rw [← Nat.mul_assoc]
      omega
theorem st_lt {s : ByteArray} {i d c : Nat} {pt : Int} (h : St s i d c pt) : d < 10 ^ c ∧ c ≤ i ∧ -1 ≤ pt ∧ pt < i := by
  obtain ⟨h0, h⟩ := h
  rcases h with ⟨g1, g2, g3, g4⟩ | ⟨p, g1, g2, g3, g4, g5, g6, g7, g8, g9⟩
  · exact ⟨by rw [g3, g4]; exact vl_lt g2, by omega, by omega, by omega⟩
  · refine ⟨?_, by omega, by omega, by omega⟩
    have x := vl_lt g6
    have y := vl_lt g7
    have hc : c = (p - 1) + (i - 1 - p) := by omega
    rw [hc, Nat.pow_add, g8]
    have : (vl s 1 (p - 1) + 1) * 10 ^ (i - 1 - p) ≤ 10 ^ (p - 1) * 10 ^ (i - 1 - p) := Nat.mul_le_mul_right _ x
    rw [Nat.add_mul, Nat.one_mul] at this
    omega
/-- a sign that is neither digit nor a point that may stand here -/
theorem st_bad {s : ByteArray} {i d c : Nat} {pt : Int} (h : St s i d c pt) (hi : i < s.size) (hd : ¬ dg (byt s i)) (hn : byt s i = 46 → 0 ≤ pt ∨ ¬ 1 < i ∨ ¬ i + 1 < s.size) : ¬ ∃ d k, Form s 1 (s.size - 1) d k := by
  rintro ⟨d', k', hf⟩
  obtain ⟨h0, h⟩ := h
  have e : 1 + (i - 1) = i := by omega
  have fp := form_point hf (i := i - 1) (by omega) (by rw [e]; exact hd)
  rw [e] at fp
  rcases hn fp.1 with h | h | h
  · rcases ‹_ ∨ _› with ⟨g1, _⟩ | ⟨p, g1, g2, g3, g4, g5, g6, g7, g8, g9⟩
    · omega
    · have := fp.2.2.2.1 (p - 1) (by omega)
      rw [show 1 + (p - 1) = p by omega] at this
      exact not_dg_46 g5 this
  · omega
  · omega
theorem st_end {s : ByteArray} {d c : Nat} {pt : Int} (h : St s s.size d c pt) (h2 : 2 ≤ s.size) (hc : c ≤ 15) :
    ∃ k : Nat, Form s 1 (s.size - 1) d k ∧ ((pt < 0 ∧ k = 0) ∨ (0 ≤ pt ∧ (k : Int) = s.size - 1 - pt)) := by
  obtain ⟨h0, h⟩ := h
  rcases h with ⟨g1, g2, g3, g4⟩ | ⟨p, g1, g2, g3, g4, g5, g6, g7, g8, g9⟩
  · exact ⟨0, .inl ⟨by omega, by omega, g2, g3, rfl⟩, .inl ⟨by omega, rfl⟩⟩
  · refine ⟨s.size - 1 - p, .inr ⟨p - 1, s.size - 1 - p, by omega, by omega, by omega, by omega, ?_, g6, ?_, ?_, rfl⟩, .inr ⟨by omega, by omega⟩⟩
    · rw [show 1 + (p - 1) = p by omega]; exact g5
    · rw [show 1 + (p - 1) + 1 = p + 1 by omega]; exact g7
    · rw [show 1 + (p - 1) + 1 = p + 1 by omega]; exact g8
theorem st_many {s : ByteArray} {d c : Nat} {pt : Int} (h : St s s.size d c pt) (h2 : 2 ≤ s.size) (hc : 15 < c) : ¬ ∃ d k, Form s 1 (s.size - 1) d k := by
  rintro ⟨d', k', hf⟩
  obtain ⟨h0, h⟩ := h
  rcases h with ⟨g1, g2, g3, g4⟩ | ⟨p, g1, g2, g3, g4, g5, g6, g7, g8, g9⟩
  · have := form_digs hf g2
    omega
  · have fp := form_point hf (i := p - 1) (by omega) (by rw [show 1 + (p - 1) = p by omega]; intro hd; exact not_dg_46 g5 hd)
    omega
end Go.Proofs.YtgfeahammmfdaaaDoor.Dec
