/- Plain facts on rounding to the nearest, ties to even: over whole numbers and their quotients. No program stands here. -/
import Derived.Test.YtkjjeccgmeiniaaFltA
namespace Go.Proofs.Ytkjjeccgmeiniaa.Flt
open Ieee

/-- n / d as the nearest whole number, of two the even one -/
def rne (n d : Nat) : Nat := n / d + (decide (d < 2 * (n % d)) || (d == 2 * (n % d) && n / d % 2 == 1)).toNat

theorem rne_mono {n d n' d' : Nat} (hd : 0 < d) (hd' : 0 < d') (h : n * d' ≤ n' * d) : rne n d ≤ rne n' d' := by
  have e := Nat.div_add_mod n d
  have e' := Nat.div_add_mod n' d'
  have l := Nat.mod_lt n hd
  have l' := Nat.mod_lt n' hd'
  unfold rne
  generalize n / d = q at *
  generalize n' / d' = q' at *
  generalize n % d = r at *
  generalize n' % d' = r' at *
  subst e; subst e'
  have hq : q ≤ q' := by
    refine Nat.le_of_not_lt fun hlt => ?_
    have h1 : (q' + 1) * (d * d') ≤ q * (d * d') := Nat.mul_le_mul_right _ hlt
    have h2 : r' * d < d' * d := Nat.mul_lt_mul_of_pos_right l' hd
    have h3 : (d * q + r) * d' = q * (d * d') + r * d' := by grind
    have h4 : (d' * q' + r') * d = q' * (d * d') + r' * d := by grind
    have h5 : (q' + 1) * (d * d') = q' * (d * d') + d' * d := by grind
    omega
  by_cases hlt : q < q'
  · have : (decide (d < 2 * r) || (d == 2 * r && q % 2 == 1)).toNat ≤ 1 := Bool.toNat_le _
    omega
  · obtain rfl : q = q' := by omega
    have h3 : r * d' ≤ r' * d := by
      have h3 : (d * q + r) * d' = q * (d * d') + r * d' := by grind
      have h4 : (d' * q + r') * d = q * (d * d') + r' * d := by grind
      omega
    have hb : (decide (d < 2 * r) || (d == 2 * r && q % 2 == 1)) = true → (decide (d' < 2 * r') || (d' == 2 * r' && q % 2 == 1)) = true := by
      intro hb
      by_cases c : d < 2 * r
      · have h4 : d * d' < 2 * r * d' := Nat.mul_lt_mul_of_pos_right c hd'
        have h5 : d' * d < (2 * r') * d := by grind
        have h6 := Nat.lt_of_mul_lt_mul_right h5
        simp [h6]
      · simp only [decide_eq_true_eq, Bool.or_eq_true, Bool.and_eq_true, beq_iff_eq, c, false_or] at hb ⊢
        obtain ⟨c1, c2⟩ := hb
        have h5 : d' * d ≤ (2 * r') * d := by
          have : d * d' = 2 * r * d' := by rw [← c1]
          grind
        have h6 := Nat.le_of_mul_le_mul_right h5 hd
        omega
    refine Nat.add_le_add_left ?_ q
    cases hx : (decide (d < 2 * r) || (d == 2 * r && q % 2 == 1))
    · simp
    · rw [hb hx]; exact Nat.le_refl _

theorem rne_congr {n d n' d' : Nat} (hd : 0 < d) (hd' : 0 < d') (h : n * d' = n' * d) : rne n d = rne n' d' :=
  Nat.le_antisymm (rne_mono hd hd' (Nat.le_of_eq h)) (rne_mono hd' hd (Nat.le_of_eq h.symm))
theorem rne_one (n : Nat) : rne n 1 = n := by unfold rne; simp [Nat.mod_one]
theorem rne_exact {n d : Nat} (k : Nat) (hd : 0 < d) (h : n = k * d) : rne n d = k := by
  rw [← rne_one k]; exact rne_congr hd (by omega) (by omega)
theorem rne_le {n d : Nat} (k : Nat) (hd : 0 < d) (h : n ≤ k * d) : rne n d ≤ k := by
  rw [← rne_one k]; exact rne_mono hd (by omega) (by omega)
theorem rne_ge {n d : Nat} (k : Nat) (hd : 0 < d) (h : k * d ≤ n) : k ≤ rne n d := by
  rw [← rne_one k]; exact rne_mono (by omega) hd (by omega)

theorem cut_even (neg : Bool) (n drop : Nat) : Toward.even.cut neg n drop = rne n (2 ^ drop) := by
  unfold Toward.cut
  simp only [Nat.shiftLeft_eq, Nat.one_mul]
  have key : ∀ g, Toward.even.cut neg n drop = rne n g → Toward.even.cut neg n drop = rne n g := fun _ h => h
  by_cases h : drop ≤ n.log2 + 2
  · rw [Nat.min_eq_left h]; rfl
  · rw [Nat.min_eq_right (by omega)]
    have hn : n < 2 ^ (n.log2 + 1) := Nat.lt_log2_self
    have h2 : 2 ^ (n.log2 + 2) = 2 * 2 ^ (n.log2 + 1) := by rw [← Nat.pow_succ']
    have h3 : 2 ^ (n.log2 + 2) ≤ 2 ^ drop := Nat.pow_le_pow_right (by omega) (by omega)
    unfold rne
    rw [Nat.div_eq_of_lt (by omega), Nat.mod_eq_of_lt (by omega), Nat.div_eq_of_lt (show n < 2 ^ drop by omega), Nat.mod_eq_of_lt (show n < 2 ^ drop by omega)]
    congr 1
    have a1 : ¬ 2 ^ (n.log2 + 2) < 2 * n := by omega
    have a2 : ¬ 2 ^ drop < 2 * n := by omega
    simp [a1, a2]

/-- how many binades N / D lies above the least one -/
def ex (f : Format) (N D : Nat) : Nat := (N / D).log2 - f.fractionBits
/-- the rung nearest to N / D units of the least place -/
def rr (f : Format) (N D : Nat) : Nat := ex f N D * f.binade + rne N (D * 2 ^ ex f N D)

theorem log2_mono {a b : Nat} (h : a ≤ b) : a.log2 ≤ b.log2 := by
  by_cases ha : a = 0
  · subst ha; simp
  · exact (Nat.le_log2 (by omega)).2 (Nat.le_trans (Nat.log2_self_le ha) h)

theorem div_mono {N D N' D' : Nat} (hD : 0 < D) (hD' : 0 < D') (h : N * D' ≤ N' * D) : N / D ≤ N' / D' := by
  rw [Nat.le_div_iff_mul_le hD']
  have h1 : N / D * D ≤ N := Nat.div_mul_le_self N D
  have h2 : N / D * D' * D ≤ N' * D := by
    calc N / D * D' * D = N / D * D * D' := by grind
      _ ≤ N * D' := Nat.mul_le_mul_right _ h1
      _ ≤ N' * D := h
  exact Nat.le_of_mul_le_mul_right h2 hD

theorem ex_mono (f : Format) {N D N' D' : Nat} (hD : 0 < D) (hD' : 0 < D') (h : N * D' ≤ N' * D) : ex f N D ≤ ex f N' D' := by
  unfold ex; have := log2_mono (div_mono hD hD' h); omega

theorem ex_lt (f : Format) {N D : Nat} (hD : 0 < D) : N < 2 * f.binade * (D * 2 ^ ex f N D) := by
  unfold ex Format.binade
  have h1 : N / D < 2 ^ ((N / D).log2 + 1) := Nat.lt_log2_self
  rw [Nat.div_lt_iff_lt_mul hD] at h1
  refine Nat.lt_of_lt_of_le h1 ?_
  have e : 2 * 2 ^ f.fractionBits * (D * 2 ^ ((N / D).log2 - f.fractionBits)) = 2 ^ (f.fractionBits + 1 + ((N / D).log2 - f.fractionBits)) * D := by
    rw [Nat.pow_add, Nat.pow_add]; grind
  rw [e]
  exact Nat.mul_le_mul_right _ (Nat.pow_le_pow_right (by omega) (by omega))
theorem ex_ge (f : Format) {N D : Nat} (h : 0 < ex f N D) : f.binade * (D * 2 ^ ex f N D) ≤ N := by
  unfold ex Format.binade at *
  have hne : N / D ≠ 0 := by intro e; rw [e] at h; simp at h
  have h1 := Nat.log2_self_le hne
  have h2 : N / D * D ≤ N := Nat.div_mul_le_self N D
  refine Nat.le_trans ?_ h2
  have e : 2 ^ f.fractionBits * (D * 2 ^ ((N / D).log2 - f.fractionBits)) = 2 ^ (f.fractionBits + ((N / D).log2 - f.fractionBits)) * D := by
    rw [Nat.pow_add]; grind
  rw [e]
  exact Nat.mul_le_mul_right _ (Nat.le_trans (Nat.pow_le_pow_right (by omega) (by omega)) h1)

theorem rr_mono (f : Format) {N D N' D' : Nat} (hD : 0 < D) (hD' : 0 < D') (h : N * D' ≤ N' * D) : rr f N D ≤ rr f N' D' := by
  have he := ex_mono f hD hD' h
  have hp : ∀ k : Nat, 0 < 2 ^ k := fun k => Nat.two_pow_pos k
  unfold rr
  by_cases hlt : ex f N D < ex f N' D'
  · have h1 := rne_le (2 * f.binade) (Nat.mul_pos hD (hp (ex f N D))) (Nat.le_of_lt (ex_lt f hD))
    have h2 := rne_ge f.binade (Nat.mul_pos hD' (hp (ex f N' D'))) (ex_ge f (by omega))
    have h3 : (ex f N D + 1) * f.binade ≤ ex f N' D' * f.binade := Nat.mul_le_mul_right _ hlt
    rw [Nat.add_mul] at h3
    omega
  · have e : ex f N D = ex f N' D' := by omega
    rw [← e]
    refine Nat.add_le_add_left (rne_mono (Nat.mul_pos hD (hp _)) (Nat.mul_pos hD' (hp _)) ?_) _
    rw [← Nat.mul_assoc, ← Nat.mul_assoc]
    exact Nat.mul_le_mul_right _ h
theorem rr_congr (f : Format) {N D N' D' : Nat} (hD : 0 < D) (hD' : 0 < D') (h : N * D' = N' * D) : rr f N D = rr f N' D' :=
  Nat.le_antisymm (rr_mono f hD hD' (Nat.le_of_eq h)) (rr_mono f hD' hD (Nat.le_of_eq h.symm))

/-- a rung's binade and significand -/
def qq (f : Format) (r : Nat) : Nat := r / f.binade - 1
def ss (f : Format) (r : Nat) : Nat := if r < f.binade then r else f.binade + r % f.binade
theorem mg_ss (f : Format) (r : Nat) : mg f r = ss f r * 2 ^ qq f r := by
  unfold mg ss qq
  by_cases h : r < f.binade
  · rw [if_pos h, if_pos h, Nat.div_eq_of_lt h]; simp
  · rw [if_neg h, if_neg h]
theorem rung_ss (f : Format) (r : Nat) : r = qq f r * f.binade + ss f r := by
  unfold ss qq
  have hB := binade_pos f
  by_cases h : r < f.binade
  · rw [if_pos h, Nat.div_eq_of_lt h]; simp
  · rw [if_neg h]
    have h1 := Nat.div_add_mod r f.binade
    have h2 : 1 ≤ r / f.binade := (Nat.le_div_iff_mul_le hB).2 (by omega)
    obtain ⟨k, hk⟩ : ∃ k, r / f.binade = k + 1 := ⟨r / f.binade - 1, by omega⟩
    rw [hk] at h1 ⊢
    rw [Nat.mul_add, Nat.mul_comm] at h1
    simp only [Nat.add_sub_cancel]
    omega
theorem ss_lt (f : Format) (r : Nat) : ss f r < 2 * f.binade := by
  unfold ss
  have hB := binade_pos f
  split
  · omega
  · have := Nat.mod_lt r hB; omega
theorem ss_ge (f : Format) (r : Nat) (h : 0 < qq f r) : f.binade ≤ ss f r := by
  unfold ss qq at *
  have hB := binade_pos f
  split
  · rename_i hl; rw [Nat.div_eq_of_lt hl] at h; simp at h
  · omega

theorem ex_mg (f : Format) (r : Nat) : ex f (mg f r) 1 = qq f r := by
  unfold ex
  rw [Nat.div_one, mg_ss]
  have h1 := ss_lt f r
  have h2 := ss_ge f r
  unfold Format.binade at h1 h2
  by_cases h0 : ss f r = 0
  · rw [h0]; simp
    by_cases hq : 0 < qq f r
    · have := h2 hq; have := Nat.two_pow_pos f.fractionBits; omega
    · omega
  · have hne : ss f r * 2 ^ qq f r ≠ 0 := Nat.ne_of_gt (Nat.mul_pos (by omega) (Nat.two_pow_pos _))
    have up : (ss f r * 2 ^ qq f r).log2 < f.fractionBits + 1 + qq f r := by
      rw [Nat.log2_lt hne, Nat.pow_add, Nat.pow_succ]
      exact Nat.mul_lt_mul_of_pos_right (by omega) (Nat.two_pow_pos _)
    by_cases hq : 0 < qq f r
    · have lo : f.fractionBits + qq f r ≤ (ss f r * 2 ^ qq f r).log2 := by
        rw [Nat.le_log2 hne, Nat.pow_add]
        exact Nat.mul_le_mul_right _ (h2 hq)
      omega
    · omega
/-- what a format has is rounded to itself -/
theorem rr_mg (f : Format) (r : Nat) : rr f (mg f r) 1 = r := by
  unfold rr
  rw [ex_mg]
  have h : rne (mg f r) (1 * 2 ^ qq f r) = ss f r := rne_exact _ (by rw [Nat.one_mul]; exact Nat.two_pow_pos _) (by rw [mg_ss, Nat.one_mul])
  rw [h]; exact (rung_ss f r).symm
theorem rr_exact (f : Format) {N D : Nat} (r : Nat) (hD : 0 < D) (h : N = mg f r * D) : rr f N D = r := by
  have h1 := rr_congr f hD (Nat.zero_lt_one) (show N * 1 = mg f r * D by omega)
  rw [rr_mg] at h1; exact h1
theorem rr_le (f : Format) {N D : Nat} (r : Nat) (hD : 0 < D) (h : N ≤ mg f r * D) : rr f N D ≤ r := by
  have h1 := rr_mono f hD (Nat.zero_lt_one) (show N * 1 ≤ mg f r * D by omega)
  rw [rr_mg] at h1; exact h1
theorem rr_ge (f : Format) {N D : Nat} (r : Nat) (hD : 0 < D) (h : mg f r * D ≤ N) : r ≤ rr f N D := by
  have h1 := rr_mono f (Nat.zero_lt_one) hD (show mg f r * D ≤ N * 1 by omega)
  rw [rr_mg] at h1; exact h1

theorem log2_shift {m : Nat} (hm : m ≠ 0) (k : Nat) : (m * 2 ^ k).log2 = m.log2 + k := by
  have hne : m * 2 ^ k ≠ 0 := Nat.ne_of_gt (Nat.mul_pos (by omega) (Nat.two_pow_pos _))
  rw [Nat.log2_eq_iff hne]
  have h1 := Nat.log2_self_le hm
  have h2 : m < 2 ^ (m.log2 + 1) := Nat.lt_log2_self
  constructor
  · rw [Nat.pow_add]; exact Nat.mul_le_mul_right _ h1
  · rw [show m.log2 + k + 1 = m.log2 + 1 + k by omega, Nat.pow_add _ (m.log2 + 1)]; exact Nat.mul_lt_mul_of_pos_right h2 (Nat.two_pow_pos _)
theorem log2_div (m k : Nat) : (m / 2 ^ k).log2 = m.log2 - k := by
  by_cases hm : m = 0
  · subst hm; simp
  have h1 := Nat.log2_self_le hm
  have h2 : m < 2 ^ (m.log2 + 1) := Nat.lt_log2_self
  by_cases h : k ≤ m.log2
  · have hq : m / 2 ^ k ≠ 0 := by
      have : 1 ≤ m / 2 ^ k := (Nat.le_div_iff_mul_le (Nat.two_pow_pos _)).2 (by rw [Nat.one_mul]; exact Nat.le_trans (Nat.pow_le_pow_right (by omega) h) h1)
      omega
    rw [Nat.log2_eq_iff hq]
    constructor
    · rw [Nat.le_div_iff_mul_le (Nat.two_pow_pos _), ← Nat.pow_add, Nat.sub_add_cancel h]; exact h1
    · rw [Nat.div_lt_iff_lt_mul (Nat.two_pow_pos _), ← Nat.pow_add, show m.log2 - k + 1 + k = m.log2 + 1 by omega]; exact h2
  · rw [Nat.div_eq_of_lt (Nat.lt_of_lt_of_le h2 (Nat.pow_le_pow_right (by omega) (by omega)))]
    simp; omega

/-- 'nearest' by rungs -/
theorem nearest_rr (f : Format) (neg : Bool) (m : Nat) (p : Int) :
    f.nearest neg m p = f.word neg (min (rr f (m * 2 ^ (p - f.leastPlace).toNat) (2 ^ (f.leastPlace - p).toNat)) f.infRung) := by
  unfold Format.nearest
  by_cases hm : m = 0
  · subst hm
    rw [if_pos rfl]
    have : rr f (0 * 2 ^ (p - f.leastPlace).toNat) (2 ^ (f.leastPlace - p).toNat) = 0 := rr_exact f 0 (Nat.two_pow_pos _) (by rw [mg_zero]; simp)
    rw [this]; simp
  · rw [if_neg hm]
    simp only [cut_even, Nat.shiftLeft_eq]
    generalize hL : f.leastPlace = L
    have hx : ex f (m * 2 ^ (p - L).toNat) (2 ^ (L - p).toNat) = (max (p + m.log2 - f.fractionBits) L - L).toNat := by
      unfold ex
      rw [log2_div, log2_shift hm]
      omega
    unfold rr
    rw [hx]
    congr 2
    congr 1
    refine rne_congr (Nat.two_pow_pos _) (Nat.mul_pos (Nat.two_pow_pos _) (Nat.two_pow_pos _)) ?_
    rw [← Nat.pow_add, Nat.mul_assoc, Nat.mul_assoc, ← Nat.pow_add, ← Nat.pow_add]
    congr 2
    omega
end Go.Proofs.Ytkjjeccgmeiniaa.Flt
