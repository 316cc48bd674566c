/- Plain facts on words: sign and rung, the sign turned, equal words, widening. No program stands here. -/
import Derived.Test.YtkjjeccgmeiniaaFltB
import Derived.Laws.FloatArith
namespace Go.Proofs.Ytkjjeccgmeiniaa.Flt
open Ieee

theorem sw_pos (f : Format) : 0 < f.signWeight := Nat.two_pow_pos _
theorem rung_lt (f : Format) (w : Nat) : rung f w < f.signWeight := Nat.mod_lt _ (sw_pos f)
theorem sgn_word (f : Format) (s : Bool) {r : Nat} (h : r < f.signWeight) : sgn f (f.word s r) = s := by
  have hp := sw_pos f
  unfold sgn Format.word
  cases s
  · simp [Nat.div_eq_of_lt h]
  · rw [if_pos rfl, Nat.add_div_left _ hp, Nat.div_eq_of_lt h]; rfl
theorem rung_word (f : Format) (s : Bool) {r : Nat} (h : r < f.signWeight) : rung f (f.word s r) = r := by
  unfold rung Format.word
  cases s
  · simp [Nat.mod_eq_of_lt h]
  · rw [if_pos rfl, Nat.add_mod_left, Nat.mod_eq_of_lt h]
theorem two_sw (f : Format) : 2 ^ f.width = 2 * f.signWeight := by
  unfold Format.width Format.signWeight
  rw [Nat.add_assoc, Nat.add_comm 1, Nat.pow_succ, Nat.mul_comm]
theorem word_eq (f : Format) {w : Nat} (h : w < 2 ^ f.width) : w = f.word (sgn f w) (rung f w) := by
  rw [two_sw] at h
  have hp := sw_pos f
  unfold sgn rung Format.word
  by_cases c : w < f.signWeight
  · simp [Nat.div_eq_of_lt c, Nat.mod_eq_of_lt c]
  · have e1 : w / f.signWeight = 1 := by rw [Nat.div_eq_iff hp]; omega
    have e2 := Nat.div_add_mod w f.signWeight
    rw [e1] at e2 ⊢
    simp; omega
theorem word_inj (f : Format) {a b : Nat} (ha : a < 2 ^ f.width) (hb : b < 2 ^ f.width) (hs : sgn f a = sgn f b) (hr : rung f a = rung f b) : a = b := by
  rw [word_eq f ha, word_eq f hb, hs, hr]

theorem sv_eq_zero (f : Format) {w : Nat} : sv f w = 0 ↔ rung f w = 0 := by
  rw [← mg_eq_zero f]; unfold sv; split <;> omega
theorem sv_inj (f : Format) {a b : Nat} (ha : a < 2 ^ f.width) (hb : b < 2 ^ f.width) (h0 : rung f a ≠ 0) (h : sv f a = sv f b) : a = b := by
  have hz : sv f a ≠ 0 := fun e => h0 ((sv_eq_zero f).1 e)
  have hk : sgn f a = sgn f b ∧ mg f (rung f a) = mg f (rung f b) := by
    unfold sv at h hz
    cases h1 : sgn f a <;> cases h2 : sgn f b <;> simp only [h1, h2, Bool.false_eq_true, if_false, if_true] at h hz <;> first | (refine ⟨rfl, ?_⟩; omega) | omega
  exact word_inj f ha hb hk.1 ((mg_inj f).1 hk.2)

/-- A word that equals itself is no NaN. -/
theorem order_self (f : Format) (hf : 1 ≤ f.exponentBits) (a : Nat) : f.order a a = if isNaN f a then none else some .eq := by
  cases h : isNaN f a
  · rw [order_sv f hf h h, compare_eq rfl]; rfl
  · rw [order_nan_left f hf a h]; rfl

/-- the same: equal with the same sign of 0, or both NaN -/
def sameW (f : Format) (a b : Nat) : Bool := if isNaN f a || isNaN f b then isNaN f a && isNaN f b else a == b
theorem sameW_refl (f : Format) (a : Nat) : sameW f a a = true := by unfold sameW; cases isNaN f a <;> simp
theorem sameW_symm (f : Format) (a b : Nat) : sameW f a b = sameW f b a := by
  unfold sameW; cases isNaN f a <;> cases isNaN f b <;> simp [Bool.beq_comm]

/-! the sign turned -/
theorem xor_top (n w : Nat) (h : w < 2 ^ n) : w ^^^ 2 ^ n = 2 ^ n + w := by
  have h1 := Nat.two_pow_add_eq_or_of_lt h 1
  rw [Nat.mul_one] at h1
  rw [h1]
  apply Nat.eq_of_testBit_eq
  intro i
  rw [Nat.testBit_xor, Nat.testBit_or, Nat.testBit_two_pow]
  by_cases e : n = i
  · subst e; simp [Nat.testBit_lt_two_pow h]
  · simp [e]
theorem xor_top' (n w : Nat) (h : w < 2 ^ n) : (2 ^ n + w) ^^^ 2 ^ n = w := by
  rw [← xor_top n w h, Nat.xor_assoc, Nat.xor_self, Nat.xor_zero]
theorem neg_word (f : Format) (s : Bool) {r : Nat} (h : r < f.signWeight) : f.word s r ^^^ 2 ^ (f.exponentBits + f.fractionBits) = f.word (!s) r := by
  unfold Format.word Format.signWeight at *
  cases s
  · simp [xor_top _ _ h]
  · simp [xor_top' _ _ h]
theorem neg_eq (k : FloatKind) {w : Nat} (h : w < 2 ^ k.format.width) : Op.negFloat k w = k.format.word (!sgn k.format w) (rung k.format w) := by
  unfold Op.negFloat
  rw [word_eq k.format h]
  rw [neg_word _ _ (rung_lt _ _), sgn_word _ _ (rung_lt _ _), rung_word _ _ (rung_lt _ _)]
theorem word_lt' (f : Format) (s : Bool) {r : Nat} (h : r < f.signWeight) : f.word s r < 2 ^ f.width := Format.word_lt f s h
theorem neg_lt (k : FloatKind) {w : Nat} (h : w < 2 ^ k.format.width) : Op.negFloat k w < 2 ^ k.format.width := by
  rw [neg_eq k h]; exact word_lt' _ _ (rung_lt _ _)
theorem sgn_neg (k : FloatKind) {w : Nat} (h : w < 2 ^ k.format.width) : sgn k.format (Op.negFloat k w) = !sgn k.format w := by
  rw [neg_eq k h, sgn_word _ _ (rung_lt _ _)]
theorem rung_neg (k : FloatKind) {w : Nat} (h : w < 2 ^ k.format.width) : rung k.format (Op.negFloat k w) = rung k.format w := by
  rw [neg_eq k h, rung_word _ _ (rung_lt _ _)]
theorem sv_neg (k : FloatKind) {w : Nat} (h : w < 2 ^ k.format.width) : sv k.format (Op.negFloat k w) = - sv k.format w := by
  unfold sv; rw [sgn_neg k h, rung_neg k h]; cases sgn k.format w <;> simp
theorem isNaN_neg (k : FloatKind) {w : Nat} (h : w < 2 ^ k.format.width) : isNaN k.format (Op.negFloat k w) = isNaN k.format w := by
  unfold isNaN; rw [rung_neg k h]
theorem neg_neg (k : FloatKind) {w : Nat} (h : w < 2 ^ k.format.width) : Op.negFloat k (Op.negFloat k w) = w := by
  refine word_inj k.format (neg_lt k (neg_lt k h)) h ?_ ?_
  · rw [sgn_neg k (neg_lt k h), sgn_neg k h, Bool.not_not]
  · rw [rung_neg k (neg_lt k h), rung_neg k h]

/-- every significand at every place above the least is of some rung -/
theorem mg_small (f : Format) {s : Nat} (h : s < 2 * f.binade) : mg f s = s := by
  have hB := binade_pos f
  unfold mg
  by_cases c : s < f.binade
  · rw [if_pos c]
  · have e1 : s / f.binade = 1 := by rw [Nat.div_eq_iff hB]; omega
    have e2 := Nat.div_add_mod s f.binade
    rw [e1] at e2
    rw [if_neg c, e1]; simp; omega
theorem mg_surj (f : Format) (q : Nat) : ∀ s, s < 2 * f.binade → ∃ r, mg f r = s * 2 ^ q := by
  have hB := binade_pos f
  induction q with
  | zero => intro s h; exact ⟨s, by rw [mg_small f h]; simp⟩
  | succ q ih =>
    intro s h
    by_cases c : s < f.binade
    · obtain ⟨r, hr⟩ := ih (2 * s) (by omega)
      exact ⟨r, by rw [hr, Nat.pow_succ]; grind⟩
    · refine ⟨(q + 1) * f.binade + s, ?_⟩
      have e1 : ((q + 1) * f.binade + s) / f.binade = q + 2 := by
        rw [Nat.div_eq_iff hB]
        have : (q + 2) * f.binade = (q + 1) * f.binade + f.binade := by grind
        omega
      have e2 := Nat.div_add_mod ((q + 1) * f.binade + s) f.binade
      rw [e1] at e2
      unfold mg
      have : f.binade ≤ (q + 1) * f.binade := Nat.le_mul_of_pos_left _ (by omega)
      rw [if_neg (by omega), e1]
      have e3 : f.binade * (q + 2) = (q + 1) * f.binade + f.binade := by grind
      have e4 : f.binade + ((q + 1) * f.binade + s) % f.binade = s := by omega
      rw [e4]; rfl

/-! the two formats -/
theorem hs : 1 ≤ single.exponentBits := by decide
theorem hd : 1 ≤ double.exponentBits := by decide
theorem least_single : single.leastPlace = -149 := by decide
theorem least_double : double.leastPlace = -1074 := by decide
theorem inf_lt (f : Format) : f.infRung < f.signWeight := f.infRung_lt
theorem inf_single : single.infRung = 2139095040 := by decide
theorem sw_single : single.signWeight = 2147483648 := by decide
theorem inf_double : double.infRung = 9218868437227405312 := by decide
theorem sw_double : double.signWeight = 9223372036854775808 := by decide
theorem width_single : 2 ^ single.width = 4294967296 := by decide
theorem width_double : 2 ^ double.width = 18446744073709551616 := by decide
theorem binade_single : single.binade = 8388608 := by decide
theorem binade_double : double.binade = 4503599627370496 := by decide

theorem nearest_exact (f : Format) (s : Bool) (m : Nat) (p : Int) (r : Nat) (hr : r ≤ f.infRung) (h : m * 2 ^ (p - f.leastPlace).toNat = mg f r * 2 ^ (f.leastPlace - p).toNat) : f.nearest s m p = f.word s r := by
  rw [nearest_rr, rr_exact f r (Nat.two_pow_pos _) h, Nat.min_eq_left hr]

/-- the places between the two formats' least; and the binades of the doubles: kept behind names, so that no power is reckoned out -/
def W : Nat := 925
def Z : Nat := 2046
theorem W_eq : W = 925 := rfl
theorem Z_eq : Z = 2046 := rfl

/-- widening keeps sign and amount -/
theorem qq_lt_single {r : Nat} (h : r < single.infRung) : qq single r ≤ 253 := by
  unfold qq
  rw [inf_single] at h
  have : r / single.binade < 255 := by rw [Nat.div_lt_iff_lt_mul (binade_pos _), binade_single]; omega
  omega
theorem mg_inf_double : mg double double.infRung = 4503599627370496 * 2 ^ Z := by
  unfold mg
  rw [if_neg (by decide), show double.infRung % double.binade = 0 by decide, show double.infRung / double.binade - 1 = Z by decide, binade_double, Nat.add_zero]
theorem widen_rung {r : Nat} (h : r < single.infRung) : ∃ d, d < double.infRung ∧ mg double d = mg single r * 2 ^ W := by
  have h1 := ss_lt single r
  have h2 := qq_lt_single h
  obtain ⟨d, hdd⟩ := mg_surj double (qq single r + W) (ss single r) (by rw [binade_single] at h1; rw [binade_double]; omega)
  have e : mg double d = mg single r * 2 ^ W := by rw [hdd, mg_ss single, Nat.pow_add, Nat.mul_assoc]
  refine ⟨d, ?_, e⟩
  rw [← mg_lt_iff double, hdd, mg_inf_double]
  calc ss single r * 2 ^ (qq single r + W) ≤ ss single r * 2 ^ (253 + W) := Nat.mul_le_mul_left _ (Nat.pow_le_pow_right (by omega) (by omega))
    _ < 4503599627370496 * 2 ^ (253 + W) := Nat.mul_lt_mul_of_pos_right (by rw [binade_single] at h1; omega) (Nat.two_pow_pos _)
    _ ≤ 4503599627370496 * 2 ^ Z := Nat.mul_le_mul_left _ (Nat.pow_le_pow_right (by omega) (by rw [W_eq, Z_eq]; omega))
/-- the rung of the widened number -/
def wr (r : Nat) : Nat := rr double (mg single r * 2 ^ W) 1
theorem wr_spec {r : Nat} (h : r < single.infRung) : wr r < double.infRung ∧ mg double (wr r) = mg single r * 2 ^ W := by
  obtain ⟨d, h1, h2⟩ := widen_rung h
  have : wr r = d := by unfold wr; exact rr_exact double d (by omega) (by omega)
  rw [this]; exact ⟨h1, h2⟩
/-- the word of the widened number: of a single that is no NaN -/
def widen (b : Nat) : Nat := double.word (sgn single b) (if rung single b < single.infRung then wr (rung single b) else double.infRung)

theorem isInf_read (f : Format) (hf : 1 ≤ f.exponentBits) (s : Bool) {r : Nat} (h : r < f.infRung) : (f.read (f.word s r)).isInfinity = false := by
  have hl := inf_lt f
  rcases reads f hf (f.word s r) with ⟨m, e, hr, _, h'⟩ | ⟨hr, _⟩ | ⟨t, hr, _⟩
  · rw [h']; rfl
  · rw [rung_word f s (by omega)] at hr; omega
  · rw [rung_word f s (by omega)] at hr; omega

theorem widen_bits {b : Nat} (h : isNaN single b = false) : floatToFloatBits .f32 b .f64 = some (widen b) := by
  unfold isNaN at h
  have h := of_decide_eq_false h
  unfold floatToFloatBits widen
  rw [if_neg (by decide)]
  have hdec : FloatKind.f32.decode b = single.read b := rfl
  rw [hdec]
  rcases reads single hs b with ⟨m, e, hr, hm, h'⟩ | ⟨hr, h'⟩ | ⟨t, hr, _⟩
  · rw [h', if_pos hr]
    obtain ⟨w1, w2⟩ := wr_spec hr
    have hn : FloatKind.f64.encode (.number (sgn single b) m (single.leastPlace + (e : Int))) = double.word (sgn single b) (wr (rung single b)) := by
      show double.nearest _ _ _ = _
      refine nearest_exact double _ _ _ _ (Nat.le_of_lt w1) ?_
      rw [w2, ← hm, least_single, least_double, show (-149 + (e : Int) - -1074).toNat = e + W by rw [W_eq]; omega, show (-1074 - (-149 + (e : Int))).toNat = 0 by omega, Nat.pow_add]
      grind
    simp only [hn]
    have hi : (FloatKind.f64.decode (double.word (sgn single b) (wr (rung single b)))).isInfinity = false := isInf_read double hd _ w1
    rw [hi]; rfl
  · rw [h', if_neg (by omega)]; rfl
  · omega
theorem widen_lt (b : Nat) : widen b < 2 ^ double.width := by
  unfold widen
  have := inf_lt double
  refine word_lt' _ _ ?_
  split
  · rename_i hr; have := (wr_spec hr).1; omega
  · exact inf_lt double
theorem sgn_widen (b : Nat) : sgn double (widen b) = sgn single b := by
  unfold widen
  have := inf_lt double
  refine sgn_word _ _ ?_
  split
  · rename_i hr; have := (wr_spec hr).1; omega
  · exact inf_lt double
theorem rung_widen (b : Nat) : rung double (widen b) = if rung single b < single.infRung then wr (rung single b) else double.infRung := by
  unfold widen
  have := inf_lt double
  refine rung_word _ _ ?_
  split
  · rename_i hr; have := (wr_spec hr).1; omega
  · exact inf_lt double
theorem isNaN_widen (b : Nat) : isNaN double (widen b) = false := by
  unfold isNaN
  rw [rung_widen]
  refine decide_eq_false ?_
  split
  · rename_i hr; have := (wr_spec hr).1; omega
  · omega
/-- the amount of a widened finite number -/
theorem sv_widen {b : Nat} (h : rung single b < single.infRung) : sv double (widen b) = sv single b * 2 ^ W := by
  unfold sv
  rw [sgn_widen, rung_widen, if_pos h, (wr_spec h).2]
  cases sgn single b <;> simp [Int.neg_mul]
theorem wr_inj {r s : Nat} (hr : r < single.infRung) (hs' : s < single.infRung) (h : wr r = wr s) : r = s := by
  have h1 := (wr_spec hr).2
  have h2 := (wr_spec hs').2
  rw [h, h2] at h1
  exact ((mg_inj single).1 (Nat.eq_of_mul_eq_mul_right (Nat.two_pow_pos _) h1)).symm
theorem widen_inj {a b : Nat} (ha : a < 2 ^ single.width) (hb : b < 2 ^ single.width) (na : isNaN single a = false) (nb : isNaN single b = false) : widen a = widen b ↔ a = b := by
  constructor
  · intro h
    unfold isNaN at na nb
    have na := of_decide_eq_false na
    have nb := of_decide_eq_false nb
    have h1 : sgn single a = sgn single b := by rw [← sgn_widen a, ← sgn_widen b, h]
    have h2 := rung_widen a
    rw [h, rung_widen b] at h2
    refine word_inj single ha hb h1 ?_
    by_cases ca : rung single a < single.infRung <;> by_cases cb : rung single b < single.infRung
    · rw [if_pos ca, if_pos cb] at h2; exact (wr_inj cb ca h2).symm
    · rw [if_pos ca, if_neg cb] at h2; have := (wr_spec ca).1; omega
    · rw [if_neg ca, if_pos cb] at h2; have := (wr_spec cb).1; omega
    · omega
  · intro h; rw [h]
end Go.Proofs.Ytkjjeccgmeiniaa.Flt
