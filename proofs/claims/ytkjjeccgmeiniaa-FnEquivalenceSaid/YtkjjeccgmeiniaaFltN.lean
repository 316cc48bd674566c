/- Floats whose signs are turned, or kept, but for the sign of a zero: what the operations make of them. No program stands here. -/
import Derived.Test.YtkjjeccgmeiniaaQuo
namespace Go.Proofs.Ytkjjeccgmeiniaa.Flt
open Ieee Go.RowKit
set_option linter.unusedVariables false
/-- 'd1' is 'd', with its sign turned if 's', but for the sign of a zero -/
def DR (s : Bool) (d d1 : Datum) : Prop :=
  (∃ (t t1 : Bool) (m : Nat) (e : Int), d = .number t m e ∧ d1 = .number t1 m e ∧ (m = 0 ∨ t1 = (t ^^ s))) ∨ (∃ t : Bool, d = .infinity t ∧ d1 = .infinity (t ^^ s))
theorem signed_zero (t : Bool) (k : Nat) : signed t 0 k = 0 := by unfold signed; cases t <;> simp
theorem signed_rel {t t1 s : Bool} {m : Nat} (h : m = 0 ∨ t1 = (t ^^ s)) (k : Nat) : signed t1 m k = if s = true then -signed t m k else signed t m k := by
  rcases h with rfl | rfl
  · rw [signed_zero, signed_zero]; cases s <;> rfl
  · cases s
    · rw [Bool.xor_false]; rfl
    · rw [Bool.xor_true, signed_neg]; rfl
/-- both fail, or both are such -/
def DO (s : Bool) (o o1 : Option Datum) : Prop := (o = none ∧ o1 = none) ∨ ∃ x y, o = some x ∧ o1 = some y ∧ DR s x y
theorem product_rel {s t : Bool} {d d1 e e1 : Datum} (h : DR s d d1) (g : DR t e e1) : DO (s ^^ t) (d.product e) (d1.product e1) := by
  rcases h with ⟨a, a1, m, i, rfl, rfl, ha⟩ | ⟨a, rfl, rfl⟩ <;> rcases g with ⟨b, b1, n, j, rfl, rfl, hb⟩ | ⟨b, rfl, rfl⟩
  · refine .inr ⟨_, _, rfl, rfl, .inl ⟨a ^^ b, a1 ^^ b1, m * n, i + j, rfl, rfl, ?_⟩⟩
    rcases ha with rfl | rfl
    · exact .inl (Nat.zero_mul _)
    · rcases hb with rfl | rfl
      · exact .inl (Nat.mul_zero _)
      · right; cases a <;> cases b <;> cases s <;> cases t <;> rfl
  · by_cases hm : m = 0
    · subst hm; exact .inl ⟨rfl, rfl⟩
    · have ha1 := ha.resolve_left hm
      subst ha1
      refine .inr ⟨.infinity (b ^^ a), .infinity ((b ^^ t) ^^ (a ^^ s)), ?_, ?_, .inr ⟨_, rfl, ?_⟩⟩
      · show (if m = 0 then none else some _) = _
        rw [if_neg hm]
      · show (if m = 0 then none else some _) = _
        rw [if_neg hm]
      · cases a <;> cases b <;> cases s <;> cases t <;> rfl
  · by_cases hn : n = 0
    · subst hn; exact .inl ⟨rfl, rfl⟩
    · have hb1 := hb.resolve_left hn
      subst hb1
      refine .inr ⟨.infinity (a ^^ b), .infinity ((a ^^ s) ^^ (b ^^ t)), ?_, ?_, .inr ⟨_, rfl, ?_⟩⟩
      · show (if n = 0 then none else some _) = _
        rw [if_neg hn]
      · show (if n = 0 then none else some _) = _
        rw [if_neg hn]
      · cases a <;> cases b <;> cases s <;> cases t <;> rfl
  · refine .inr ⟨_, _, rfl, rfl, .inr ⟨_, rfl, ?_⟩⟩
    cases a <;> cases b <;> cases s <;> cases t <;> rfl
theorem sum_rel {s : Bool} {d d1 e e1 : Datum} (h : DR s d d1) (g : DR s e e1) : DO s (d.sum e) (d1.sum e1) := by
  rcases h with ⟨a, a1, m, i, rfl, rfl, ha⟩ | ⟨a, rfl, rfl⟩ <;> rcases g with ⟨b, b1, n, j, rfl, rfl, hb⟩ | ⟨b, rfl, rfl⟩
  · refine .inr ⟨_, _, rfl, rfl, ?_⟩
    have e1 := signed_rel ha (i - min i j).toNat
    have e2 := signed_rel hb (j - min i j).toNat
    simp only [e1, e2]
    generalize signed a m (i - min i j).toNat = u
    generalize signed b n (j - min i j).toNat = v
    refine .inl ⟨_, if (if s = true then -u else u) + (if s = true then -v else v) = 0 then a1 && b1 else decide ((if s = true then -u else u) + (if s = true then -v else v) < 0), (u + v).natAbs, min i j, rfl, ?_, ?_⟩
    · congr 1
      cases s
      · rfl
      · simp only [if_true]; omega
    · by_cases hz : u + v = 0
      · left; omega
      · right
        rw [if_neg hz]
        cases s
        · simp only [Bool.false_eq_true, if_false, Bool.xor_false]
          rw [if_neg hz]
        · simp only [if_true, Bool.xor_true]
          rw [if_neg (by omega)]
          by_cases h0 : u + v < 0
          · rw [decide_eq_true h0, decide_eq_false (by omega)]; rfl
          · rw [decide_eq_false h0, decide_eq_true (by omega)]; rfl
  · exact .inr ⟨_, _, rfl, rfl, .inr ⟨_, rfl, rfl⟩⟩
  · exact .inr ⟨_, _, rfl, rfl, .inr ⟨_, rfl, rfl⟩⟩
  · by_cases hab : a = b
    · subst hab
      refine .inr ⟨.infinity a, .infinity (a ^^ s), ?_, ?_, .inr ⟨_, rfl, rfl⟩⟩
      · show (if a = a then _ else _) = _
        rw [if_pos rfl]
      · show (if (a ^^ s) = (a ^^ s) then _ else _) = _
        rw [if_pos rfl]
    · refine .inl ⟨?_, ?_⟩
      · show (if a = b then _ else _) = _
        rw [if_neg hab]
      · show (if (a ^^ s) = (b ^^ s) then _ else _) = _
        rw [if_neg]
        intro e; apply hab
        revert e; cases a <;> cases b <;> cases s <;> simp
theorem opp_rel {s : Bool} {d d1 : Datum} (h : DR s d d1) : DR s d.opposite d1.opposite := by
  rcases h with ⟨a, a1, m, i, rfl, rfl, ha⟩ | ⟨a, rfl, rfl⟩
  · refine .inl ⟨!a, !a1, m, i, rfl, rfl, ?_⟩
    rcases ha with h | h
    · exact .inl h
    · right; rw [h]; cases a <;> cases s <;> rfl
  · refine .inr ⟨!a, rfl, ?_⟩
    show Datum.infinity (!(a ^^ s)) = _
    cases a <;> cases s <;> rfl
theorem quotient_rel {k : Nat} {s t : Bool} {d d1 e e1 : Datum} (h : DR s d d1) (g : DR t e e1) (he : ∀ b j, e ≠ .number b 0 j) : DO (s ^^ t) (d.quotient k e) (d1.quotient k e1) := by
  rcases h with ⟨a, a1, m, i, rfl, rfl, ha⟩ | ⟨a, rfl, rfl⟩ <;> rcases g with ⟨b, b1, n, j, rfl, rfl, hb⟩ | ⟨b, rfl, rfl⟩
  · have hn : n ≠ 0 := fun e => he b j (by rw [e])
    have hb1 := hb.resolve_left hn
    subst hb1
    obtain ⟨Q, hQ⟩ : ∃ Q, 2 * ((m <<< (k + n.log2 - m.log2)) / n) + ((m <<< (k + n.log2 - m.log2)) % n != 0).toNat = Q := ⟨_, rfl⟩
    obtain ⟨E, hE⟩ : ∃ E : Int, i - j - ((k + n.log2 - m.log2 : Nat) : Int) - 1 = E := ⟨_, rfl⟩
    refine .inr ⟨.number (a ^^ b) Q E, .number (a1 ^^ (b ^^ t)) Q E, ?_, ?_, .inl ⟨a ^^ b, a1 ^^ (b ^^ t), Q, E, rfl, rfl, ?_⟩⟩
    · rw [← hQ, ← hE]
      show (if n = 0 then _ else _) = _
      rw [if_neg hn]
    · rw [← hQ, ← hE]
      show (if n = 0 then _ else _) = _
      rw [if_neg hn]
    · rcases ha with rfl | rfl
      · left; rw [← hQ]; simp
      · right; cases a <;> cases b <;> cases s <;> cases t <;> rfl
  · exact .inr ⟨_, _, rfl, rfl, .inl ⟨_, _, 0, 0, rfl, rfl, .inl rfl⟩⟩
  · have hn : n ≠ 0 := fun e => he b j (by rw [e])
    have hb1 := hb.resolve_left hn
    subst hb1
    refine .inr ⟨_, _, rfl, rfl, .inr ⟨_, rfl, ?_⟩⟩
    cases a <;> cases b <;> cases s <;> cases t <;> rfl
  · exact .inl ⟨rfl, rfl⟩
/-! words -/
/-- 'b' is 'a', with its sign turned if 's', but for the sign of a zero; neither is a NaN -/
def RW (f : Format) (s : Bool) (a b : Nat) : Prop := isNaN f a = false ∧ isNaN f b = false ∧ rung f b = rung f a ∧ (rung f a = 0 ∨ sgn f b = (sgn f a ^^ s))
theorem RW.read {f : Format} (hf : 1 ≤ f.exponentBits) {s : Bool} {a b : Nat} (h : RW f s a b) : DR s (f.read a) (f.read b) := by
  obtain ⟨h1, h2, h3, h4⟩ := h
  have hB : 0 < f.binade := Nat.two_pow_pos _
  rw [read_rd, read_rd, h3]
  have hn := of_decide_eq_false h1
  unfold rd
  by_cases r1 : rung f a < f.binade
  · rw [if_pos r1, if_pos r1]
    exact .inl ⟨_, _, _, _, rfl, rfl, h4⟩
  · rw [if_neg r1, if_neg r1]
    have h4' := h4.resolve_left (by omega)
    by_cases r2 : rung f a < f.infRung
    · rw [if_pos r2, if_pos r2]
      exact .inl ⟨_, _, _, _, rfl, rfl, .inr h4'⟩
    · rw [if_neg r2, if_neg r2, if_pos (by omega), if_pos (by omega)]
      exact .inr ⟨_, rfl, by rw [h4']⟩
theorem RW.write {f : Format} {s : Bool} {x y : Datum} (h : DR s x y) : RW f s (f.write x) (f.write y) := by
  rcases h with ⟨a, a1, m, i, rfl, rfl, ha⟩ | ⟨a, rfl, rfl⟩
  · rw [write_num, write_num]
    obtain ⟨r1, s1⟩ := nearest_rung f a m i
    obtain ⟨r2, s2⟩ := nearest_rung f a1 m i
    refine ⟨nearest_nan f a m i, nearest_nan f a1 m i, by rw [r1, r2], ?_⟩
    rcases ha with rfl | rfl
    · left
      rw [r1, Nat.zero_mul, rr_zero f (Nat.two_pow_pos _), Nat.zero_min]
    · right
      rw [s1, s2]
  · refine ⟨write_nan f _ rfl, write_nan f _ rfl, ?_, .inr ?_⟩
    · show rung f (f.word (a ^^ s) f.infRung) = rung f (f.word a f.infRung)
      rw [rung_word f _ (inf_lt f), rung_word f _ (inf_lt f)]
    · show sgn f (f.word (a ^^ s) f.infRung) = (sgn f (f.word a f.infRung) ^^ s)
      rw [sgn_word f _ (inf_lt f), sgn_word f _ (inf_lt f)]
/-- both a NaN, or both such -/
def RO (s : Bool) (o o1 : Option Nat) : Prop := (o = none ∧ o1 = none) ∨ ∃ a b, o = some a ∧ o1 = some b ∧ RW double s a b
theorem RO.of {s : Bool} {o o1 : Option Datum} (h : DO s o o1) : RO s (o.map double.write) (o1.map double.write) := by
  rcases h with ⟨rfl, rfl⟩ | ⟨x, y, rfl, rfl, h⟩
  · exact .inl ⟨rfl, rfl⟩
  · exact .inr ⟨_, _, rfl, rfl, RW.write h⟩
theorem RO.mul {s t : Bool} {a a1 b b1 : Option Nat} (h : RO s a a1) (g : RO t b b1) : RO (s ^^ t) (fo .mul .f64 a b) (fo .mul .f64 a1 b1) := by
  rcases h with ⟨rfl, rfl⟩ | ⟨x, x1, rfl, rfl, h⟩
  · exact .inl ⟨rfl, rfl⟩
  · rcases g with ⟨rfl, rfl⟩ | ⟨y, y1, rfl, rfl, g⟩
    · exact .inl ⟨rfl, rfl⟩
    · exact RO.of (product_rel (h.read hd) (g.read hd))
theorem RO.add {s : Bool} {a a1 b b1 : Option Nat} (h : RO s a a1) (g : RO s b b1) : RO s (fo .add .f64 a b) (fo .add .f64 a1 b1) := by
  rcases h with ⟨rfl, rfl⟩ | ⟨x, x1, rfl, rfl, h⟩
  · exact .inl ⟨rfl, rfl⟩
  · rcases g with ⟨rfl, rfl⟩ | ⟨y, y1, rfl, rfl, g⟩
    · exact .inl ⟨rfl, rfl⟩
    · exact RO.of (sum_rel (h.read hd) (g.read hd))
theorem RO.sub {s : Bool} {a a1 b b1 : Option Nat} (h : RO s a a1) (g : RO s b b1) : RO s (fo .sub .f64 a b) (fo .sub .f64 a1 b1) := by
  rcases h with ⟨rfl, rfl⟩ | ⟨x, x1, rfl, rfl, h⟩
  · exact .inl ⟨rfl, rfl⟩
  · rcases g with ⟨rfl, rfl⟩ | ⟨y, y1, rfl, rfl, g⟩
    · exact .inl ⟨rfl, rfl⟩
    · exact RO.of (sum_rel (h.read hd) (opp_rel (g.read hd)))
theorem read_ne {y : Nat} (hn : isNaN double y = false) (h0 : rung double y ≠ 0) : ∀ b j, double.read y ≠ .number b 0 j := by
  intro b j e
  rw [read_rd] at e
  unfold rd at e
  have hB : 0 < double.binade := Nat.two_pow_pos _
  split at e
  · simp only [Datum.number.injEq] at e
    exact h0 e.2.1
  · split at e
    · simp only [Datum.number.injEq] at e
      omega
    · split at e <;> cases e
theorem RO.quo {s t : Bool} {a a1 b b1 : Option Nat} (h : RO s a a1) (g : RO t b b1) (h0 : ∀ y, b = some y → rung double y ≠ 0) : RO (s ^^ t) (fo .quo .f64 a b) (fo .quo .f64 a1 b1) := by
  rcases h with ⟨rfl, rfl⟩ | ⟨x, x1, rfl, rfl, h⟩
  · exact .inl ⟨rfl, rfl⟩
  · rcases g with ⟨rfl, rfl⟩ | ⟨y, y1, rfl, rfl, g⟩
    · exact .inl ⟨rfl, rfl⟩
    · exact RO.of (quotient_rel (h.read hd) (g.read hd) (read_ne g.1 (h0 y rfl)))
end Go.Proofs.Ytkjjeccgmeiniaa.Flt
