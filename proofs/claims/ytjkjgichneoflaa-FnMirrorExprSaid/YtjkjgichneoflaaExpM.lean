/- The mirrored expression over the conjugates of the slots has a value that equals the conjugate of the value, but for the sign of a zero; and fails exactly if the expression does. Plain facts. -/
import Derived.Test.YtjkjgichneoflaaFltN
import Derived.Test.YtjkjgichneoflaaExpP
namespace Go.Proofs.Ytjkjgichneoflaa.Ex
open Go.RowKit Go.Proofs.Ytjkjgichneoflaa Go.Proofs.Ytjkjgichneoflaa.Flt
open Ieee (double)
set_option linter.unusedVariables false
/-- finite words, the second the first with its sign turned if 's', but for the sign of a zero -/
def FW (s : Bool) (a b : Nat) : Prop := isFinD a = true ∧ RW double s a b
theorem fin_nan {a : Nat} (h : isFinD a = true) : isNaN double a = false := by
  cases hn : isNaN double a
  · rfl
  · rw [isFin_nan hn] at h; cases h
theorem fin_rung {a b : Nat} (h : rung double b = rung double a) : isFinD b = isFinD a := by unfold isFinD; rw [h]
theorem FW.refl {a : Nat} (h : isFinD a = true) : FW false a a := ⟨h, fin_nan h, fin_nan h, rfl, .inr (by rw [Bool.xor_false])⟩
theorem lt_w {a : Nat} (h : a < 18446744073709551616) : a < 2 ^ FloatKind.f64.format.width := by rw [show FloatKind.f64.format = double from rfl, width_double]; exact h
theorem ng_rung {a : Nat} (h : a < 18446744073709551616) : rung double (ng a) = rung double a := rung_neg .f64 (lt_w h)
theorem ng_sgn {a : Nat} (h : a < 18446744073709551616) : sgn double (ng a) = !sgn double a := sgn_neg .f64 (lt_w h)
theorem ng_nan {a : Nat} (h : a < 18446744073709551616) : isNaN double (ng a) = isNaN double a := isNaN_neg .f64 (lt_w h)
theorem ng_fin {a : Nat} (h : a < 18446744073709551616) : isFinD (ng a) = isFinD a := fin_rung (ng_rung h)
theorem RW.neg {s : Bool} {a b : Nat} (h : RW double s a b) (hb : b < 18446744073709551616) : RW double (!s) a (ng b) := by
  obtain ⟨h1, h2, h3, h4⟩ := h
  refine ⟨h1, by rw [ng_nan hb]; exact h2, by rw [ng_rung hb]; exact h3, ?_⟩
  rcases h4 with h4 | h4
  · exact .inl h4
  · right; rw [ng_sgn hb, h4]; cases sgn double a <;> cases s <;> rfl
theorem RW.neg' {s : Bool} {a b : Nat} (h : RW double s a b) (ha : a < 18446744073709551616) : RW double (!s) (ng a) b := by
  obtain ⟨h1, h2, h3, h4⟩ := h
  refine ⟨by rw [ng_nan ha]; exact h1, h2, by rw [ng_rung ha]; exact h3, ?_⟩
  rcases h4 with h4 | h4
  · left; rw [ng_rung ha]; exact h4
  · right; rw [ng_sgn ha, h4]; cases sgn double a <;> cases s <;> rfl
theorem FW.neg {s : Bool} {a b : Nat} (h : FW s a b) (hb : b < 18446744073709551616) : FW (!s) a (ng b) := ⟨h.1, RW.neg h.2 hb⟩
theorem FW.neg' {s : Bool} {a b : Nat} (h : FW s a b) (ha : a < 18446744073709551616) : FW (!s) (ng a) b := ⟨by rw [ng_fin ha]; exact h.1, RW.neg' h.2 ha⟩
theorem FW.can {s : Bool} {a b : Nat} (h : FW s a b) : RO s (can .f64 a) (can .f64 b) := .inr ⟨a, b, can_num h.2.1, can_num h.2.2.1, h.2⟩
theorem FW.eq {a b : Nat} (h : FW false a b) : eqW double b a = true := by
  obtain ⟨_, h1, h2, h3, h4⟩ := h
  unfold eqW
  rw [h1, h2]
  simp only [Bool.not_false, Bool.true_and]
  refine decide_eq_true ?_
  rcases h4 with h4 | h4
  · rw [(sv_eq_zero double).2 h4, (sv_eq_zero double).2 (by rw [h3]; exact h4)]
  · unfold sv; rw [h3, h4, Bool.xor_false]
/-- both fail to be finite, or both are such -/
def FO (s : Bool) (o o1 : Option Nat) : Prop := (finO o = false ∧ finO o1 = false) ∨ ∃ a b, o = some a ∧ o1 = some b ∧ FW s a b
theorem RO.fo {s : Bool} {o o1 : Option Nat} (h : RO s o o1) : FO s o o1 := by
  rcases h with ⟨rfl, rfl⟩ | ⟨a, b, rfl, rfl, h⟩
  · exact .inl ⟨rfl, rfl⟩
  · cases hf : isFinD a
    · exact .inl ⟨hf, (fin_rung h.2.2.1).trans hf⟩
    · exact .inr ⟨a, b, rfl, rfl, hf, h⟩
/-- a quotient by a zero is not finite -/
theorem quo_zero_fin {o : Option Nat} {y : Nat} (h : rung double y = 0) : finO (fo .quo .f64 o (some y)) = false := by
  cases o with
  | none => rfl
  | some x =>
    show finO ((((double.read x)).quotient (double.fractionBits + 2) (double.read y)).map double.write) = false
    have hy : double.read y = .number (sgn double y) 0 double.leastPlace := by
      rw [read_rd, h]
      unfold rd
      exact if_pos (Nat.two_pow_pos _)
    rw [hy]
    cases hx : double.read x with
    | nan t n => rfl
    | infinity t =>
      show isFinD (double.word _ double.infRung) = false
      unfold isFinD
      rw [rung_word double _ (inf_lt double)]
      exact decide_eq_false (by omega)
    | number t m e =>
      have hq : Ieee.Datum.quotient (double.fractionBits + 2) (.number t m e) (.number (sgn double y) 0 double.leastPlace) = if m = 0 then none else some (.infinity (t ^^ sgn double y)) := by
        simp [Ieee.Datum.quotient]
      rw [hq]
      by_cases hm : m = 0
      · rw [if_pos hm]; rfl
      · rw [if_neg hm]
        show isFinD (double.word _ double.infRung) = false
        unfold isFinD
        rw [rung_word double _ (inf_lt double)]
        exact decide_eq_false (by omega)
theorem FO.quo {s t : Bool} {a a1 b b1 : Option Nat} (h : RO s a a1) (g : RO t b b1) : FO (s ^^ t) (fo .quo .f64 a b) (fo .quo .f64 a1 b1) := by
  by_cases hz : ∃ y, b = some y ∧ rung double y = 0
  · obtain ⟨y, rfl, h0⟩ := hz
    rcases g with ⟨e, _⟩ | ⟨y', y1, e, rfl, g⟩
    · cases e
    · cases e
      exact .inl ⟨quo_zero_fin h0, quo_zero_fin (by rw [g.2.2.1]; exact h0)⟩
  · exact RO.fo (RO.quo h g fun y e h0 => hz ⟨y, e, h0⟩)
theorem abs_ng {d : Nat} (h : d < 18446744073709551616) : Op.Complex.abs (ng d) = Op.Complex.abs d := by
  have := ng_rung h
  unfold rung at this
  rw [sw_double] at this
  exact this
theorem absGe_ng {c d : Nat} (h : d < 18446744073709551616) : absGe c (ng d) = absGe c d := by unfold absGe; rw [abs_ng h]
theorem abs_rung (x : Nat) : Op.Complex.abs x = rung double x := by unfold rung; rw [sw_double]; rfl
theorem low_rung {r : Nat} (h : r < 9223372036854775808) : rung double r = r ∧ sgn double r = false := by
  constructor
  · unfold rung; rw [sw_double]; exact Nat.mod_eq_of_lt h
  · unfold sgn; rw [sw_double, Nat.div_eq_of_lt h]; rfl
theorem absGe_fin {c d : Nat} (fc : isFinD c = true) (fd : isFinD d = true) : absGe c d = decide (rung double d ≤ rung double c) := by
  have hc := rung_lt double c
  have hd' := rung_lt double d
  rw [sw_double] at hc hd'
  obtain ⟨c1, c2⟩ := low_rung hc
  obtain ⟨d1, d2⟩ := low_rung hd'
  have nc : isNaN double (rung double c) = false := by
    have := fin_nan fc
    unfold isNaN at this ⊢
    rw [c1]; exact this
  have nd : isNaN double (rung double d) = false := by
    have := fin_nan fd
    unfold isNaN at this ⊢
    rw [d1]; exact this
  unfold absGe
  rw [abs_rung, abs_rung, gt64, eq64]
  unfold ltW eqW sv
  rw [nc, nd, c1, c2, d1, d2]
  simp only [Bool.not_false, Bool.true_and, Bool.false_eq_true, if_false]
  have h1 := mg_lt_iff double (r := rung double d) (s := rung double c)
  have h2 := mg_inj double (r := rung double c) (s := rung double d)
  by_cases h : rung double d ≤ rung double c
  · rw [decide_eq_true h]
    by_cases h3 : rung double d = rung double c
    · rw [h3]; simp
    · have h4 := h1.2 (by omega)
      rw [decide_eq_true (by omega)]; rfl
  · rw [decide_eq_false h]
    rw [decide_eq_false (fun e => h (by have := h1.1 (by omega); omega)), decide_eq_false (fun e => h (by have := h2.1 (by omega); omega))]; rfl

theorem absGe_rel {s t : Bool} {c c1 d d1 : Nat} (hc : FW s c c1) (hd' : FW t d d1) : absGe c1 d1 = absGe c d := by
  have fc1 : isFinD c1 = true := (fin_rung hc.2.2.2.1).trans hc.1
  have fd1 : isFinD d1 = true := (fin_rung hd'.2.2.2.1).trans hd'.1
  rw [absGe_fin fc1 fd1, absGe_fin hc.1 hd'.1, hc.2.2.2.1, hd'.2.2.2.1]
theorem isZ_rel {s t : Bool} {c c1 d d1 : Nat} (hc : FW s c c1) (hd' : FW t d d1) : isZ c1 d1 = isZ c d := by
  unfold isZ
  rw [eqW_zero double hc.2.1, eqW_zero double hd'.2.1, eqW_zero double hc.2.2.1, eqW_zero double hd'.2.2.1, hc.2.2.2.1, hd'.2.2.2.1]
/-- the quotient of the conjugates -/
theorem quoO_mir {a a1 b b1 c c1 d d1 : Nat} (ha : FW false a a1) (hb : FW true b b1) (hcc : FW false c c1) (hdd : FW true d d1) (hz : isZ c d = false) :
    FO false (quoO a b c d).1 (quoO a1 b1 c1 d1).1 ∧ FO true (quoO a b c d).2 (quoO a1 b1 c1 d1).2 := by
  have hc := hcc.can
  have hd1 := hdd.can
  have ra := ha.can
  have rb := hb.can
  unfold isZ at hz
  rw [eqW_zero double (fin_nan hcc.1), eqW_zero double (fin_nan hdd.1)] at hz
  have hge := absGe_fin hcc.1 hdd.1
  have nz : ∀ y, rung double y ≠ 0 → ∀ y', can .f64 y = some y' → rung double y' ≠ 0 := fun y h y' hy => by
    obtain ⟨rfl, _⟩ := can_some hy
    exact h
  unfold quoO
  simp only
  rw [absGe_rel hcc hdd, hge]
  by_cases hle : rung double d ≤ rung double c
  · simp only [hle, decide_true, if_true]
    have hc0 : rung double c ≠ 0 := fun e => by
      rw [decide_eq_true e, decide_eq_true (show rung double d = 0 by omega)] at hz
      cases hz
    have rt := RO.quo hd1 hc (nz c hc0)
    have rm := RO.mul rt hd1
    have rd' := RO.add hc rm
    exact ⟨FO.quo (RO.add ra (RO.mul rb rt)) rd', FO.quo (RO.sub rb (RO.mul ra rt)) rd'⟩
  · simp only [hle, decide_false, Bool.false_eq_true, if_false]
    have hd0 : rung double d ≠ 0 := fun e => by omega
    have rt := RO.quo hc hd1 (nz d hd0)
    have rm := RO.mul rt hc
    have rd' := RO.add hd1 rm
    exact ⟨FO.quo (RO.add (RO.mul ra rt) rb) rd', FO.quo (RO.sub (RO.mul rb rt) ra) rd'⟩
theorem sv_rel {s : Bool} {a b : Nat} (h : FW s a b) : sv double b = if s = true then - sv double a else sv double a := by
  obtain ⟨_, h1, h2, h3, h4⟩ := h
  rcases h4 with h4 | h4
  · rw [(sv_eq_zero double).2 h4, (sv_eq_zero double).2 (by rw [h3]; exact h4)]; cases s <;> rfl
  · unfold sv; rw [h3, h4]
    cases s <;> cases sgn double a <;> simp
theorem eqW_rel {s : Bool} {a a1 b b1 : Nat} (h : FW s a a1) (g : FW s b b1) : eqW double a1 b1 = eqW double a b := by
  unfold eqW
  rw [h.2.1, h.2.2.1, g.2.1, g.2.2.1]
  simp only [Bool.not_false, Bool.true_and]
  rw [sv_rel h, sv_rel g]
  cases s
  · rfl
  · simp only [if_true]
    exact decide_eq_decide.2 ⟨fun e => by omega, fun e => by omega⟩
/-- the numbers: the second equals the conjugate of the first -/
structure MR (z z1 : Nat × Nat) : Prop where
  re : FW false z.1 z1.1
  im : FW true z.2 z1.2
  w : z.1 < 18446744073709551616 ∧ z.2 < 18446744073709551616
  w1 : z1.1 < 18446744073709551616 ∧ z1.2 < 18446744073709551616
theorem zero_fw (s : Bool) : FW s 0 0 := ⟨by decide, by decide, by decide, rfl, .inl (by decide)⟩
theorem fin_zero : isFinD 0 = true := by decide
theorem one_fw : FW false one64 one64 := FW.refl (by decide)
theorem fo_some (s : Bool) {a : Nat} {b : Nat} (h : FW s a b) : FO s (some a) (some b) := .inr ⟨a, b, rfl, rfl, h⟩
/-- each part -/
theorem opO_mir {k : Int} {a a1 b b1 : Nat × Nat} (hk : 3 ≤ k ∧ k ≤ 12) (h7 : k ≠ 7) (h : MR a a1) (g : MR b b1) : FO false (opO k a b).1 (opO k a1 b1).1 ∧ FO true (opO k a b).2 (opO k a1 b1).2 := by
  have rx := h.re.can
  have ry := h.im.can
  have sx := g.re.can
  have sy := g.im.can
  unfold opO
  obtain rfl | rfl | rfl | rfl | rfl | rfl | rfl | rfl | rfl : k = 3 ∨ k = 4 ∨ k = 5 ∨ k = 6 ∨ k = 8 ∨ k = 9 ∨ k = 10 ∨ k = 11 ∨ k = 12 := by omega
  · exact ⟨RO.fo rx, RO.fo ry⟩
  · exact ⟨RO.fo ((h.re.neg h.w1.1).neg' h.w.1).can, RO.fo ((h.im.neg h.w1.2).neg' h.w.2).can⟩
  · exact ⟨RO.fo rx, RO.fo ((h.im.neg h.w1.2).neg' h.w.2).can⟩
  · exact ⟨RO.fo rx, fo_some true (zero_fw true)⟩
  · exact ⟨RO.fo (RO.add rx sx), RO.fo (RO.add ry sy)⟩
  · exact ⟨RO.fo (RO.sub rx sx), RO.fo (RO.sub ry sy)⟩
  · exact ⟨RO.fo (RO.sub (RO.mul rx sx) (RO.mul ry sy)), RO.fo (RO.add (RO.mul rx sy) (RO.mul ry sx))⟩
  · show FO false (if isZ b.1 b.2 = true then ((none, none) : Option Nat × Option Nat) else quoO a.1 a.2 b.1 b.2).1 (if isZ b1.1 b1.2 = true then ((none, none) : Option Nat × Option Nat) else quoO a1.1 a1.2 b1.1 b1.2).1 ∧ FO true (if isZ b.1 b.2 = true then ((none, none) : Option Nat × Option Nat) else quoO a.1 a.2 b.1 b.2).2 (if isZ b1.1 b1.2 = true then ((none, none) : Option Nat × Option Nat) else quoO a1.1 a1.2 b1.1 b1.2).2
    rw [isZ_rel g.re g.im]
    cases hz : isZ b.1 b.2
    · exact quoO_mir h.re h.im g.re g.im hz
    · exact ⟨.inl ⟨rfl, rfl⟩, .inl ⟨rfl, rfl⟩⟩
  · show FO false (if (eqW double a.1 b.1 && eqW double a.2 b.2) = true then some one64 else some 0) (if (eqW double a1.1 b1.1 && eqW double a1.2 b1.2) = true then some one64 else some 0) ∧ FO true (some 0) (some 0)
    rw [eqW_rel h.re g.re, eqW_rel h.im g.im]
    refine ⟨?_, fo_some true (zero_fw true)⟩
    split
    · exact fo_some false one_fw
    · exact fo_some false (zero_fw false)
/-- words -/
theorem fo_lt {op : BinOp} {a b : Option Nat} {r : Nat} (h : fo op .f64 a b = some r) : r < 18446744073709551616 := by
  cases a with
  | none => cases h
  | some x =>
    cases b with
    | none => cases h
    | some y => exact bits_lt h
theorem can_lt {x r : Nat} (hx : x < 18446744073709551616) (h : can .f64 x = some r) : r < 18446744073709551616 := by
  obtain ⟨rfl, _⟩ := can_some h; exact hx
theorem quoO_lt {a b c d r : Nat} (h : (quoO a b c d).1 = some r ∨ (quoO a b c d).2 = some r) : r < 18446744073709551616 := by
  unfold quoO at h
  simp only at h
  split at h
  · rcases h with h | h <;> exact fo_lt h
  · rcases h with h | h <;> exact fo_lt h
theorem opO_lt {k : Int} {a b : Nat × Nat} {r : Nat} (hk : 3 ≤ k ∧ k ≤ 12) (ha : a.1 < 18446744073709551616 ∧ a.2 < 18446744073709551616) (h : (opO k a b).1 = some r ∨ (opO k a b).2 = some r) : r < 18446744073709551616 := by
  unfold opO at h
  obtain rfl | rfl | rfl | rfl | rfl | rfl | rfl | rfl | rfl | rfl : k = 3 ∨ k = 4 ∨ k = 5 ∨ k = 6 ∨ k = 7 ∨ k = 8 ∨ k = 9 ∨ k = 10 ∨ k = 11 ∨ k = 12 := by omega
  · rcases h with h | h
    · exact can_lt ha.1 h
    · exact can_lt ha.2 h
  · rcases h with h | h
    · exact can_lt (ng_lt ha.1) h
    · exact can_lt (ng_lt ha.2) h
  · rcases h with h | h
    · exact can_lt ha.1 h
    · exact can_lt (ng_lt ha.2) h
  · rcases h with h | h
    · exact can_lt ha.1 h
    · cases h; decide
  · rcases h with h | h
    · exact can_lt ha.2 h
    · cases h; decide
  · rcases h with h | h <;> exact fo_lt h
  · rcases h with h | h <;> exact fo_lt h
  · rcases h with h | h <;> exact fo_lt h
  · replace h : (if isZ b.1 b.2 = true then ((none, none) : Option Nat × Option Nat) else quoO a.1 a.2 b.1 b.2).1 = some r ∨ (if isZ b.1 b.2 = true then ((none, none) : Option Nat × Option Nat) else quoO a.1 a.2 b.1 b.2).2 = some r := h
    split at h
    · rcases h with h | h <;> cases h
    · exact quoO_lt h
  · replace h : (if (eqW double a.1 b.1 && eqW double a.2 b.2) = true then some one64 else some 0) = some r ∨ some 0 = some r := h
    rcases h with h | h
    · split at h <;> cases h <;> decide
    · cases h; decide
theorem res_lt {k : Int} {a b u : Nat × Nat} (hk : 3 ≤ k ∧ k ≤ 12) (ha : a.1 < 18446744073709551616 ∧ a.2 < 18446744073709551616) (h : res (opO k a b) = some u) : u.1 < 18446744073709551616 ∧ u.2 < 18446744073709551616 := by
  unfold res at h
  split at h
  · rename_i hq
    rw [Bool.and_eq_true] at hq
    obtain ⟨h1, h2⟩ := hq
    cases h
    constructor
    · show (opO k a b).1.getD 0 < _
      cases e : (opO k a b).1 with
      | none => rw [e] at h1; cases h1
      | some r => exact opO_lt hk ha (.inl e)
    · show (opO k a b).2.getD 0 < _
      cases e : (opO k a b).2 with
      | none => rw [e] at h2; cases h2
      | some r => exact opO_lt hk ha (.inr e)
  · cases h
theorem res_mir {k : Int} {a a1 b b1 : Nat × Nat} (hk : 3 ≤ k ∧ k ≤ 12) (h7 : k ≠ 7) (h : MR a a1) (g : MR b b1) :
    (res (opO k a b) = none ∧ res (opO k a1 b1) = none) ∨ ∃ u u1, res (opO k a b) = some u ∧ res (opO k a1 b1) = some u1 ∧ MR u u1 := by
  obtain ⟨o1, o2⟩ := opO_mir hk h7 h g
  rcases o1 with ⟨f1, g1⟩ | ⟨p, p1, ep, ep1, hp⟩
  · left
    unfold res
    rw [f1, g1]
    exact ⟨rfl, rfl⟩
  · rcases o2 with ⟨f2, g2⟩ | ⟨q, q1, eq, eq1, hq⟩
    · left
      unfold res
      rw [f2, g2, Bool.and_false, Bool.and_false]
      exact ⟨rfl, rfl⟩
    · right
      have h1 : res (opO k a b) = some (p, q) := by
        unfold res
        rw [ep, eq, show finO (some p) = true from hp.1, show finO (some q) = true from hq.1]; rfl
      have h2 : res (opO k a1 b1) = some (p1, q1) := by
        unfold res
        rw [ep1, eq1, show finO (some p1) = true from (fin_rung hp.2.2.2.1).trans hp.1, show finO (some q1) = true from (fin_rung hq.2.2.2.1).trans hq.1]; rfl
      exact ⟨(p, q), (p1, q1), h1, h2, hp, hq, res_lt hk h.w h1, res_lt hk h.w1 h2⟩
/-- the conjugates of slots -/
def conjL (sl : List (Nat × Nat)) : List (Nat × Nat) := sl.map fun z => (z.1, ng z.2)
/-- a node, mirrored -/
def mirN (n : Nd) : List Nd := if n.k = 1 ∧ n.y ≠ 0 then [n, opN 4] else [n]
/-- the mirrored tree -/
def mirT : Tr → Tr
  | .leaf n => if n.k = 1 ∧ n.y ≠ 0 then .un 4 (.leaf n) else .leaf n
  | .un k t => .un k (mirT t)
  | .bin k a b => .bin k (mirT a) (mirT b)
/-- no node tells the imaginary part -/
def noIm : Tr → Prop
  | .leaf n => True
  | .un k t => k ≠ 7 ∧ noIm t
  | .bin k a b => noIm a ∧ noIm b
theorem mirT_ok : ∀ {t : Tr}, t.ok → (mirT t).ok
  | .leaf n, h => by
    unfold mirT
    split
    · exact ⟨by omega, h⟩
    · exact h
  | .un k t, h => ⟨h.1, mirT_ok h.2⟩
  | .bin k a b, h => ⟨h.1, mirT_ok h.2.1, mirT_ok h.2.2⟩
theorem mirN_op {k : Int} (h : 3 ≤ k) : mirN (opN k) = [opN k] := by
  unfold mirN opN
  rw [if_neg (by intro h'; have : k = 1 := h'.1; omega)]
theorem pf_mir : ∀ {t : Tr}, t.ok → pf (mirT t) = (pf t).flatMap mirN
  | .leaf n, h => by
    unfold mirT
    show _ = [n].flatMap mirN
    rw [List.flatMap_cons, List.flatMap_nil, List.append_nil]
    unfold mirN
    split <;> rfl
  | .un k t, h => by
    have hk := h.1
    show pf (mirT t) ++ [opN k] = (pf t ++ [opN k]).flatMap mirN
    rw [pf_mir h.2, List.flatMap_append]
    congr 1
    rw [List.flatMap_cons, List.flatMap_nil, List.append_nil, mirN_op (by omega)]
  | .bin k a b, h => by
    have hk := h.1
    show pf (mirT a) ++ (pf (mirT b) ++ [opN k]) = (pf a ++ (pf b ++ [opN k])).flatMap mirN
    rw [pf_mir h.2.1, pf_mir h.2.2, List.flatMap_append, List.flatMap_append]
    congr 2
    rw [List.flatMap_cons, List.flatMap_nil, List.append_nil, mirN_op (by omega)]
theorem noIm_iff : ∀ {t : Tr}, t.ok → ((∀ n ∈ pf t, n.k ≠ 7) ↔ noIm t)
  | .leaf n, h => by
    have := h.2
    exact ⟨fun _ => trivial, fun _ m hm => by
      obtain rfl : m = n := by simpa [pf] using hm
      omega⟩
  | .un k t, h => by
    constructor
    · intro g
      exact ⟨g (opN k) (by simp [pf]), (noIm_iff h.2).1 fun n hn => g n (by simp [pf, hn])⟩
    · intro g m hm
      rcases List.mem_append.1 hm with h1 | h1
      · exact (noIm_iff h.2).2 g.2 m h1
      · obtain rfl : m = opN k := by simpa using h1
        exact g.1
  | .bin k a b, h => by
    have hk := h.1
    constructor
    · intro g
      exact ⟨(noIm_iff h.2.1).1 fun n hn => g n (by simp [pf, hn]), (noIm_iff h.2.2).1 fun n hn => g n (by simp [pf, hn])⟩
    · intro g m hm
      rcases List.mem_append.1 hm with h1 | h1
      · exact (noIm_iff h.2.1).2 g.1 m h1
      · rcases List.mem_append.1 h1 with h1 | h1
        · exact (noIm_iff h.2.2).2 g.2 m h1
        · obtain rfl : m = opN k := by simpa using h1
          show k ≠ 7
          omega
end Go.Proofs.Ytjkjgichneoflaa.Ex
