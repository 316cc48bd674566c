/- Plain facts for spans: what a span holds, what two have in common, their hull; sums and products of small singles. No program stands here. -/
import Derived.Test.YtkjjeccgmeiniaaSpnU
import Derived.Test.YtkjjeccgmeiniaaSpnM
namespace Go.Proofs.Ytkjjeccgmeiniaa.Flt
end Go.Proofs.Ytkjjeccgmeiniaa.Flt
namespace Go.Proofs.Ytkjjeccgmeiniaa.Spn
open Go.RowKit Go.Proofs.Ytkjjeccgmeiniaa.Flt
open Ieee (single double)
set_option linter.unusedVariables false
set_option linter.unusedSimpArgs false
def leB (x y : Nat) : Bool := FloatKind.f32.format.order x y == some .lt || FloatKind.f32.format.order x y == some .eq
def ltB (x y : Nat) : Bool := FloatKind.f32.format.order x y == some .lt
def gtB (x y : Nat) : Bool := FloatKind.f32.format.order x y == some .gt
def leD (x y : Nat) : Bool := FloatKind.f64.format.order x y == some .lt || FloatKind.f64.format.order x y == some .eq
def geD (x y : Nat) : Bool := FloatKind.f64.format.order x y == some .gt || FloatKind.f64.format.order x y == some .eq
theorem le_iff {x y : Nat} : leB x y = true ↔ isNaN single x = false ∧ isNaN single y = false ∧ sv single x ≤ sv single y := by
  unfold leB
  rw [lt32, eq32]
  unfold ltW eqW
  cases isNaN single x <;> cases isNaN single y <;> simp
  omega
theorem lt_iff {x y : Nat} : ltB x y = true ↔ isNaN single x = false ∧ isNaN single y = false ∧ sv single x < sv single y := by
  unfold ltB
  rw [lt32]
  unfold ltW
  cases isNaN single x <;> cases isNaN single y <;> simp
theorem gt_iff {x y : Nat} : gtB x y = true ↔ isNaN single x = false ∧ isNaN single y = false ∧ sv single y < sv single x := by
  unfold gtB
  rw [gt32]
  unfold ltW
  cases isNaN single x <;> cases isNaN single y <;> simp
theorem leD_iff {x y : Nat} : leD x y = true ↔ isNaN double x = false ∧ isNaN double y = false ∧ sv double x ≤ sv double y := by
  unfold leD
  rw [lt64, eq64]
  unfold ltW eqW
  cases isNaN double x <;> cases isNaN double y <;> simp
  omega
theorem geD_iff {x y : Nat} : geD x y = true ↔ isNaN double x = false ∧ isNaN double y = false ∧ sv double y ≤ sv double x := by
  unfold geD
  rw [gt64, eq64]
  unfold ltW eqW
  cases isNaN double x <;> cases isNaN double y <;> simp
  omega
/-- what NegSpan answers -/
def negS (x y : Nat) : Nat × Nat := if leB x y = true then (Op.negFloat .f32 y, Op.negFloat .f32 x) else (0, 0)
/-- what MeetSpans answers: the greater of the low ends, the less of the high ends -/
def meetL (a c : Nat) : Nat := if gtB c a = true then c else a
def meetH (b d : Nat) : Nat := if ltB d b = true then d else b
def meetB (a b c d : Nat) : Bool := leB a b && leB c d && leB (meetL a c) (meetH b d)
def meetS (a b c d : Nat) : Nat × Nat := if meetB a b c d = true then (meetL a c, meetH b d) else (0, 0)
def hullL (a c : Nat) : Nat := if ltB c a = true then c else a
def hullH (b d : Nat) : Nat := if gtB d b = true then d else b
def hullB (a b c d : Nat) : Bool := leB a b && leB c d
def hullS (a b c d : Nat) : Nat × Nat := if hullB a b c d = true then (hullL a c, hullH b d) else (0, 0)
/-- whether a span holds a double -/
def hdB (x y v : Nat) : Bool := leB x y && (geD v (widen x) && leD v (widen y))
theorem hd_iff {x y v : Nat} : hdB x y v = true ↔ leB x y = true ∧ isNaN double v = false ∧ vW x ≤ sv double v ∧ sv double v ≤ vW y := by
  unfold hdB vW
  rw [Bool.and_eq_true, Bool.and_eq_true, geD_iff, leD_iff, isNaN_widen, isNaN_widen]
  constructor
  · rintro ⟨h, ⟨h1, _, h2⟩, _, _, h3⟩
    exact ⟨h, h1, h2, h3⟩
  · rintro ⟨h, h1, h2, h3⟩
    exact ⟨h, ⟨h1, rfl, h2⟩, h1, rfl, h3⟩
theorem fn_num {x : Nat} (h : fnS x = true) : isNaN single x = false := by
  have := fnS_iff.1 h
  exact decide_eq_false (by omega)
theorem neg_le {x y : Nat} (wx : x < 4294967296) (wy : y < 4294967296) : leB (Op.negFloat .f32 y) (Op.negFloat .f32 x) = leB x y := by
  rw [Bool.eq_iff_iff, le_iff, le_iff, ng_num wx, ng_num wy, ng_sv wx, ng_sv wy]
  constructor
  · rintro ⟨h1, h2, h3⟩; exact ⟨h2, h1, by omega⟩
  · rintro ⟨h1, h2, h3⟩; exact ⟨h2, h1, by omega⟩
/-- the comparisons of finite singles by their values -/
theorem le_fn {x y : Nat} (hx : fnS x = true) (hy : fnS y = true) : leB x y = true ↔ vW x ≤ vW y := by
  rw [le_iff, vW_le hx hy]
  exact ⟨fun h => h.2.2, fun h => ⟨fn_num hx, fn_num hy, h⟩⟩
theorem lt_fn {x y : Nat} (hx : fnS x = true) (hy : fnS y = true) : ltB x y = true ↔ vW x < vW y := by
  have h := vW_le hy hx
  rw [lt_iff]
  constructor
  · rintro ⟨_, _, h3⟩
    rcases Int.lt_or_le (vW x) (vW y) with c | c
    · exact c
    · have := h.1 c; omega
  · intro c
    refine ⟨fn_num hx, fn_num hy, ?_⟩
    rcases Int.lt_or_le (sv single x) (sv single y) with k | k
    · exact k
    · have := h.2 k; omega
theorem gt_fn {x y : Nat} (hx : fnS x = true) (hy : fnS y = true) : gtB x y = true ↔ vW y < vW x := by
  have e : gtB x y = ltB y x := by
    rw [Bool.eq_iff_iff, lt_iff, gt_iff]
    exact ⟨fun h => ⟨h.2.1, h.1, h.2.2⟩, fun h => ⟨h.2.1, h.1, h.2.2⟩⟩
  rw [e, lt_fn hy hx]
theorem meetL_fn {a c : Nat} (ha : fnS a = true) (hc : fnS c = true) : fnS (meetL a c) = true ∧ vW a ≤ vW (meetL a c) ∧ vW c ≤ vW (meetL a c) ∧ (meetL a c = a ∨ meetL a c = c) := by
  have h := gt_fn hc ha
  unfold meetL
  by_cases k : gtB c a = true
  · rw [if_pos k]
    have := h.1 k
    exact ⟨hc, by omega, Int.le_refl _, .inr rfl⟩
  · rw [if_neg k]
    exact ⟨ha, Int.le_refl _, by
      rcases Int.lt_or_le (vW a) (vW c) with x | x
      · exact absurd (h.2 x) k
      · exact x, .inl rfl⟩
theorem meetH_fn {b d : Nat} (hb : fnS b = true) (hd : fnS d = true) : fnS (meetH b d) = true ∧ vW (meetH b d) ≤ vW b ∧ vW (meetH b d) ≤ vW d ∧ (meetH b d = b ∨ meetH b d = d) := by
  have h := lt_fn hd hb
  unfold meetH
  by_cases k : ltB d b = true
  · rw [if_pos k]
    have := h.1 k
    exact ⟨hd, by omega, Int.le_refl _, .inr rfl⟩
  · rw [if_neg k]
    exact ⟨hb, Int.le_refl _, by
      rcases Int.lt_or_le (vW d) (vW b) with x | x
      · exact absurd (h.2 x) k
      · exact x, .inl rfl⟩
theorem hullL_fn {a c : Nat} (ha : fnS a = true) (hc : fnS c = true) : fnS (hullL a c) = true ∧ vW (hullL a c) ≤ vW a ∧ vW (hullL a c) ≤ vW c := by
  have h := lt_fn hc ha
  unfold hullL
  by_cases k : ltB c a = true
  · rw [if_pos k]
    have := h.1 k
    exact ⟨hc, by omega, Int.le_refl _⟩
  · rw [if_neg k]
    exact ⟨ha, Int.le_refl _, by
      rcases Int.lt_or_le (vW c) (vW a) with x | x
      · exact absurd (h.2 x) k
      · exact x⟩
theorem hullH_fn {b d : Nat} (hb : fnS b = true) (hd : fnS d = true) : fnS (hullH b d) = true ∧ vW b ≤ vW (hullH b d) ∧ vW d ≤ vW (hullH b d) := by
  have h := gt_fn hd hb
  unfold hullH
  by_cases k : gtB d b = true
  · rw [if_pos k]
    have := h.1 k
    exact ⟨hd, by omega, Int.le_refl _⟩
  · rw [if_neg k]
    exact ⟨hb, Int.le_refl _, by
      rcases Int.lt_or_le (vW b) (vW d) with x | x
      · exact absurd (h.2 x) k
      · exact x⟩
/-- a valid span of finite ends -/
def Vs (a b : Nat) : Prop := fnS a = true ∧ fnS b = true ∧ vW a ≤ vW b
theorem Vs.ok {a b : Nat} (h : Vs a b) : leB a b = true := (le_fn h.1 h.2.1).2 h.2.2
theorem hd_fn {a b v : Nat} (h : Vs a b) : hdB a b v = true ↔ isNaN double v = false ∧ vW a ≤ sv double v ∧ sv double v ≤ vW b := by
  rw [hd_iff]
  exact ⟨fun k => k.2, fun k => ⟨h.ok, k⟩⟩
/-- a number lies in both exactly if it lies in what they have in common -/
theorem both_meet {a b c d : Nat} (h : Vs a b) (k : Vs c d) (v : Nat) : (hdB a b v && hdB c d v) = (meetB a b c d && hdB (meetS a b c d).1 (meetS a b c d).2 v) := by
  obtain ⟨l0, l1, l2, l3⟩ := meetL_fn h.1 k.1
  obtain ⟨g0, g1, g2, g3⟩ := meetH_fn h.2.1 k.2.1
  have hl := le_fn l0 g0
  have hB : meetB a b c d = leB (meetL a c) (meetH b d) := by unfold meetB; rw [h.ok, k.ok]; rfl
  rw [Bool.eq_iff_iff, Bool.and_eq_true, Bool.and_eq_true, hd_fn h, hd_fn k]
  cases hb : leB (meetL a c) (meetH b d)
  · have hm : meetB a b c d = false := by rw [hB, hb]
    have hn : ¬ vW (meetL a c) ≤ vW (meetH b d) := fun e => by rw [hl.2 e] at hb; cases hb
    rw [hm]
    constructor
    · rintro ⟨⟨_, p1, p2⟩, _, p3, p4⟩
      refine absurd ?_ hn
      rcases l3 with e | e <;> rcases g3 with e' | e' <;> rw [e, e'] <;> omega
    · rintro ⟨e, _⟩; cases e
  · have hm : meetB a b c d = true := by rw [hB, hb]
    have hS : meetS a b c d = (meetL a c, meetH b d) := by unfold meetS; rw [if_pos hm]
    have hv : Vs (meetL a c) (meetH b d) := ⟨l0, g0, hl.1 hb⟩
    rw [hm, hS]
    show _ ↔ _ ∧ hdB (meetL a c) (meetH b d) v = true
    rw [hd_fn hv]
    constructor
    · rintro ⟨⟨n, p1, p2⟩, _, p3, p4⟩
      refine ⟨rfl, n, ?_, ?_⟩
      · rcases l3 with e | e <;> rw [e] <;> omega
      · rcases g3 with e | e <;> rw [e] <;> omega
    · rintro ⟨_, n, p1, p2⟩
      exact ⟨⟨n, by omega, by omega⟩, n, by omega, by omega⟩
theorem hull_valid {a b c d : Nat} (h : Vs a b) (k : Vs c d) : hullB a b c d = true ∧ hullS a b c d = (hullL a c, hullH b d) ∧ Vs (hullL a c) (hullH b d) := by
  obtain ⟨l0, l1, l2⟩ := hullL_fn h.1 k.1
  obtain ⟨g0, g1, g2⟩ := hullH_fn h.2.1 k.2.1
  have hB : hullB a b c d = true := by unfold hullB; rw [h.ok, k.ok]; rfl
  exact ⟨hB, by unfold hullS; rw [if_pos hB], l0, g0, by have := h.2.2; omega⟩
theorem either_hull {a b c d : Nat} (h : Vs a b) (k : Vs c d) (v : Nat) (hv : hdB a b v = true ∨ hdB c d v = true) : hdB (hullS a b c d).1 (hullS a b c d).2 v = true := by
  obtain ⟨_, hS, hh⟩ := hull_valid h k
  obtain ⟨l0, l1, l2⟩ := hullL_fn h.1 k.1
  obtain ⟨g0, g1, g2⟩ := hullH_fn h.2.1 k.2.1
  rw [hS]
  show hdB (hullL a c) (hullH b d) v = true
  rw [hd_fn hh]
  rcases hv with hv | hv
  · obtain ⟨n, p, q⟩ := (hd_fn h).1 hv
    exact ⟨n, by omega, by omega⟩
  · obtain ⟨n, p, q⟩ := (hd_fn k).1 hv
    exact ⟨n, by omega, by omega⟩
/-- what a and b have in common, with a, is the same -/
theorem meet_again {a b c d : Nat} (h : Vs a b) (k : Vs c d) (hb : meetB a b c d = true) : meetB (meetL a c) (meetH b d) a b = true ∧ meetS (meetL a c) (meetH b d) a b = (meetL a c, meetH b d) := by
  obtain ⟨l0, l1, l2, l3⟩ := meetL_fn h.1 k.1
  obtain ⟨g0, g1, g2, g3⟩ := meetH_fn h.2.1 k.2.1
  have hl : leB (meetL a c) (meetH b d) = true := by
    unfold meetB at hb
    rw [h.ok, k.ok] at hb
    exact hb
  have e1 : meetL (meetL a c) a = meetL a c := by
    have := gt_fn h.1 l0
    generalize meetL a c = m at *
    unfold meetL
    rw [if_neg (fun e => by have := this.1 e; omega)]
  have e2 : meetH (meetH b d) b = meetH b d := by
    have := lt_fn h.2.1 g0
    generalize meetH b d = m at *
    unfold meetH
    rw [if_neg (fun e => by have := this.1 e; omega)]
  have hB : meetB (meetL a c) (meetH b d) a b = true := by
    unfold meetB
    rw [e1, e2, hl, h.ok]; rfl
  exact ⟨hB, by unfold meetS; rw [if_pos hB, e1, e2]⟩
theorem meet_self {a b : Nat} (h : Vs a b) : meetB a b a b = true ∧ meetS a b a b = (a, b) := by
  have e1 : meetL a a = a := by unfold meetL; split <;> rfl
  have e2 : meetH b b = b := by unfold meetH; split <;> rfl
  have hB : meetB a b a b = true := by unfold meetB; rw [e1, e2, h.ok]; rfl
  exact ⟨hB, by unfold meetS; rw [if_pos hB, e1, e2]⟩
/-! small singles: at most 2 to the power of 25 -/
def R25 : Nat := 1275068416
def Sm (x : Nat) : Prop := x < 4294967296 ∧ rung single x ≤ R25
theorem Sm.fn {x : Nat} (h : Sm x) : fnS x = true := fnS_iff.2 (by have := h.2; unfold R25 at this; rw [inf_single]; omega)
theorem Sm.neg {x : Nat} (h : Sm x) : Sm (Op.negFloat .f32 x) := ⟨ng_lt h.1, by rw [ng_rung h.1]; exact h.2⟩
theorem ng_fn {x : Nat} (h : x < 4294967296) : fnS (Op.negFloat .f32 x) = fnS x := by unfold fnS; rw [ng_rung h]
theorem ng_vW {x : Nat} (h : x < 4294967296) (hf : fnS x = true) : vW (Op.negFloat .f32 x) = -vW x := by
  rw [vW_eq (by rw [ng_fn h]; exact hf), vW_eq hf, ng_sgn h, ng_rung h]
  cases sgn single x <;> simp
theorem sm25 : Sm R25 := ⟨by decide, by decide⟩
theorem vW25 : vW R25 = ((mg double (wr R25) : Nat) : Int) := by
  rw [vW_eq sm25.fn, show sgn single R25 = false by decide, show rung single R25 = R25 by decide]
  rfl
theorem sm_abs {x : Nat} (h : Sm x) : (vW x).natAbs ≤ mg double (wr R25) := by
  rw [vW_abs h.fn]
  have h1 := fnS_iff.1 h.fn
  have h2 := fnS_iff.1 sm25.fn
  rw [show rung single R25 = R25 by decide] at h2
  rw [(wr_spec h1).2, (wr_spec h2).2]
  exact Nat.mul_le_mul_right _ ((mg_le_iff single).2 h.2)
theorem sm_of {x : Nat} (wx : x < 4294967296) (hf : fnS x = true) (h : (vW x).natAbs ≤ mg double (wr R25)) : Sm x := by
  refine ⟨wx, ?_⟩
  rw [vW_abs hf] at h
  have h1 := fnS_iff.1 hf
  have h2 := fnS_iff.1 sm25.fn
  rw [show rung single R25 = R25 by decide] at h2
  rw [(wr_spec h1).2, (wr_spec h2).2] at h
  exact (mg_le_iff single).1 (Nat.le_of_mul_le_mul_right h (Nat.two_pow_pos W))
theorem big25 : 2 * mg single R25 ≤ mg single 2139095039 := by decide +kernel
theorem sq25 : mg single R25 * mg single R25 ≤ mg single 2139095039 * 2 ^ 149 := by decide +kernel
theorem wid_rung {x : Nat} (h : fnS x = true) : rung double (widen x) < double.infRung := by
  rw [rung_widen, if_pos (fnS_iff.1 h)]; exact (wr_spec (fnS_iff.1 h)).1
theorem sm_add {x y : Nat} (hx : Sm x) (hy : Sm y) : ∃ r, floatBits .add .f64 (widen x) (widen y) = some r ∧ r < 18446744073709551616 ∧ isNaN double r = false ∧ rung double r < double.infRung ∧ sv double r = rndD (vW x + vW y) ∧ nrw (rung double r) < single.infRung := by
  obtain ⟨r, h1, h2, h3, h4, h5⟩ := add_valD (wid_rung hx.fn) (wid_rung hy.fn)
  have ax := sm_abs hx
  have ay := sm_abs hy
  have hlo : fnS (Op.negFloat .f32 R25) = true := sm25.neg.fn
  have vlo : vW (Op.negFloat .f32 R25) = -((mg double (wr R25) : Nat) : Int) := by rw [ng_vW sm25.1 sm25.fn, vW25]
  have hb := rnd_between (lo := Op.negFloat .f32 R25) (hi := R25) (k := 2) (z := vW x + vW y) hlo sm25.fn (by omega) (by rw [vlo]; omega) (by rw [vW25]; omega)
  rw [vlo, vW25] at hb
  refine ⟨r, h1, h2, h3, by rw [h4]; exact hb.2, h5, nrw_fit ?_⟩
  rw [h5]
  have h6 : (rndD (vW x + vW y)).natAbs ≤ 2 * mg double (wr R25) := by omega
  refine Nat.le_trans h6 ?_
  have h2 := fnS_iff.1 sm25.fn
  rw [show rung single R25 = R25 by decide] at h2
  rw [(wr_spec h2).2, ← Nat.mul_assoc]
  exact Nat.mul_le_mul_right _ big25
theorem sq_pow {a b V : Nat} (h : a * a ≤ b * 2 ^ 149) : a * 2 ^ V * (a * 2 ^ V) ≤ b * 2 ^ V * 2 ^ (V + 149) := by
  rw [Nat.pow_add]
  generalize 2 ^ V = p at *
  generalize 2 ^ 149 = q at *
  calc a * p * (a * p) = a * a * (p * p) := by ac_rfl
    _ ≤ b * q * (p * p) := Nat.mul_le_mul_right _ h
    _ = b * p * (p * q) := by ac_rfl
theorem sm_mul {x y : Nat} (hx : Sm x) (hy : Sm y) : ∃ p, floatBits .mul .f64 (widen x) (widen y) = some p ∧ p < 18446744073709551616 ∧ isNaN double p = false ∧ rung double p < double.infRung ∧ sv double p * ((PV : Nat) : Int) = vW x * vW y ∧ nrw (rung double p) < single.infRung := by
  obtain ⟨p, h1, h2, h3, h4, h5⟩ := mul_val hx.fn hy.fn
  refine ⟨p, h1, h2, h3, h4, h5, nrw_fit ?_⟩
  have ax := sm_abs hx
  have ay := sm_abs hy
  have e : (sv double p).natAbs * PV = (vW x).natAbs * (vW y).natAbs := by
    rw [← Int.natAbs_mul, ← h5, Int.natAbs_mul, Int.natAbs_natCast]
  have hm := Nat.mul_le_mul ax ay
  rw [← e] at hm
  have h2 := fnS_iff.1 sm25.fn
  rw [show rung single R25 = R25 by decide] at h2
  rw [(wr_spec h2).2] at hm
  refine Nat.le_of_mul_le_mul_right (Nat.le_trans hm ?_) PV_pos
  rw [← PV_eq]
  exact sq_pow sq25
end Go.Proofs.Ytkjjeccgmeiniaa.Spn
