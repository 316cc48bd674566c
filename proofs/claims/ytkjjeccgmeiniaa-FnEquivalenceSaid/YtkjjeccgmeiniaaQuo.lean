/- The quotient of complex numbers whose parts are finite: what its parts are, as options; of a number and itself; of a number and 1. No program stands here. -/
import Derived.Test.YtkjjeccgmeiniaaFltM
import Derived.Laws.ComplexQuo
namespace Go.Proofs.Ytkjjeccgmeiniaa.Flt
open Ieee Go.RowKit

abbrev am : BinOp → Prop := fun op => op = .add ∨ op = .sub ∨ op = .mul ∨ op = .quo
theorem hAdd : am .add := .inl rfl
theorem hSub : am .sub := .inr (.inl rfl)
theorem hMul : am .mul := .inr (.inr (.inl rfl))
theorem hQuo : am .quo := .inr (.inr (.inr rfl))
theorem run_arith {P : Program} (op : BinOp) (hop : am op) (x y : Nat) (w : World) :
    ∃ r n, (Lit.float .f64 r).wf = true ∧ can .f64 r = fo op .f64 (can .f64 x) (can .f64 y) ∧ (Op.Complex.arith op .f64 x y).run P w = .ok r (w.drewN n) := by
  obtain ⟨r, n, h1, h2, h3⟩ := run_fo (P := P) op hop 0 .f64 x y w
  refine ⟨r, n, h1, h2, ?_⟩
  have e : binOp op 0 (.float .f64 x) (.float .f64 y) = Op.floatArith op .f64 x y := by rcases hop with rfl | rfl | rfl | rfl <;> rfl
  rw [e] at h3
  simp [Op.Complex.arith, h3]
/-- the quotient's parts -/
def quoO (a b c d : Nat) : Option Nat × Option Nat :=
  let A := can .f64 a
  let B := can .f64 b
  let C := can .f64 c
  let D := can .f64 d
  if absGe c d then
    (fo .quo .f64 (fo .add .f64 A (fo .mul .f64 B (fo .quo .f64 D C))) (fo .add .f64 C (fo .mul .f64 (fo .quo .f64 D C) D)),
     fo .quo .f64 (fo .sub .f64 B (fo .mul .f64 A (fo .quo .f64 D C))) (fo .add .f64 C (fo .mul .f64 (fo .quo .f64 D C) D)))
  else
    (fo .quo .f64 (fo .add .f64 (fo .mul .f64 A (fo .quo .f64 C D)) B) (fo .add .f64 D (fo .mul .f64 (fo .quo .f64 C D) C)),
     fo .quo .f64 (fo .sub .f64 (fo .mul .f64 B (fo .quo .f64 C D)) A) (fo .add .f64 D (fo .mul .f64 (fo .quo .f64 C D) C)))
theorem isInf_fin {x : Nat} (h : isFinD x = true) : Op.Complex.isInf x = false := by
  have hf := of_decide_eq_true h
  show (double.read x).isInfinity = false
  rw [reads_fin double hf]; rfl
theorem run_ccmp0 {P : Program} (w : World) (x : Nat) : (Op.Complex.cmp .eql .f64 x 0).run P w = .ok (eqW double x 0) w := by
  rw [← eq64]
  simp [Op.Complex.cmp, Op.floatCmp, asBool]
theorem run_quot {P : Program} {a b c d : Nat} (fa : isFinD a = true) (fb : isFinD b = true) (fc : isFinD c = true) (fd : isFinD d = true)
    (hz : (eqW double c 0 && eqW double d 0) = false) (w : World) :
    ∃ e f n, ((Lit.float .f64 e).wf = true ∧ (Lit.float .f64 f).wf = true) ∧ (can .f64 e = (quoO a b c d).1 ∧ can .f64 f = (quoO a b c d).2) ∧ (Op.Complex.quotient a b c d).run P w = .ok (e, f) (w.drewN n) := by
  have ia := isInf_fin fa
  have ib := isInf_fin fb
  have ic := isInf_fin fc
  have id' := isInf_fin fd
  have z1 := fun w => run_ccmp0 (P := P) w c
  have z2 := fun w => run_ccmp0 (P := P) w d
  have gq := fun w => run_ccmp_geq (P := P) w c d
  cases hge : absGe c d
  · obtain ⟨t, n1, w1, c1, k1⟩ := run_arith (P := P) .quo hQuo c d w
    obtain ⟨r, n2, w2, c2, k2⟩ := run_arith (P := P) .mul hMul t c (w.drewN n1)
    obtain ⟨D, n3, w3, c3, k3⟩ := run_arith (P := P) .add hAdd d r ((w.drewN n1).drewN n2)
    obtain ⟨p, n4, w4, c4, k4⟩ := run_arith (P := P) .mul hMul a t (((w.drewN n1).drewN n2).drewN n3)
    obtain ⟨q, n5, w5, c5, k5⟩ := run_arith (P := P) .add hAdd p b ((((w.drewN n1).drewN n2).drewN n3).drewN n4)
    obtain ⟨e, n6, w6, c6, k6⟩ := run_arith (P := P) .quo hQuo q D (((((w.drewN n1).drewN n2).drewN n3).drewN n4).drewN n5)
    obtain ⟨u, n7, w7, c7, k7⟩ := run_arith (P := P) .mul hMul b t ((((((w.drewN n1).drewN n2).drewN n3).drewN n4).drewN n5).drewN n6)
    obtain ⟨v, n8, w8, c8, k8⟩ := run_arith (P := P) .sub hSub u a (((((((w.drewN n1).drewN n2).drewN n3).drewN n4).drewN n5).drewN n6).drewN n7)
    obtain ⟨f, n9, w9, c9, k9⟩ := run_arith (P := P) .quo hQuo v D ((((((((w.drewN n1).drewN n2).drewN n3).drewN n4).drewN n5).drewN n6).drewN n7).drewN n8)
    refine ⟨e, f, n1 + n2 + n3 + n4 + n5 + n6 + n7 + n8 + n9, ⟨w6, w9⟩, ⟨?_, ?_⟩, ?_⟩
    · unfold quoO; simp only [hge, Bool.false_eq_true, if_false]; rw [c6, c5, c4, c3, c2, c1]
    · unfold quoO; simp only [hge, Bool.false_eq_true, if_false]; rw [c9, c8, c7, c3, c2, c1]
    · unfold Op.Complex.quotient
      simp only [Sem.run_bind, gq, hge, Result.andThen_ok, Bool.false_eq_true, if_false, Op.Complex.mul, Op.Complex.sub, Op.Complex.add, Op.Complex.quo, k1, k2, k3, k4, k5, k6, k7, k8, k9, Sem.run_pure, z1, z2, hz, ia, ib, ic, id', Bool.false_and, Bool.or_self]
      split <;> simp [World.drewN_drewN, Nat.add_assoc]
  · obtain ⟨t, n1, w1, c1, k1⟩ := run_arith (P := P) .quo hQuo d c w
    obtain ⟨r, n2, w2, c2, k2⟩ := run_arith (P := P) .mul hMul t d (w.drewN n1)
    obtain ⟨D, n3, w3, c3, k3⟩ := run_arith (P := P) .add hAdd c r ((w.drewN n1).drewN n2)
    obtain ⟨p, n4, w4, c4, k4⟩ := run_arith (P := P) .mul hMul b t (((w.drewN n1).drewN n2).drewN n3)
    obtain ⟨q, n5, w5, c5, k5⟩ := run_arith (P := P) .add hAdd a p ((((w.drewN n1).drewN n2).drewN n3).drewN n4)
    obtain ⟨e, n6, w6, c6, k6⟩ := run_arith (P := P) .quo hQuo q D (((((w.drewN n1).drewN n2).drewN n3).drewN n4).drewN n5)
    obtain ⟨u, n7, w7, c7, k7⟩ := run_arith (P := P) .mul hMul a t ((((((w.drewN n1).drewN n2).drewN n3).drewN n4).drewN n5).drewN n6)
    obtain ⟨v, n8, w8, c8, k8⟩ := run_arith (P := P) .sub hSub b u (((((((w.drewN n1).drewN n2).drewN n3).drewN n4).drewN n5).drewN n6).drewN n7)
    obtain ⟨f, n9, w9, c9, k9⟩ := run_arith (P := P) .quo hQuo v D ((((((((w.drewN n1).drewN n2).drewN n3).drewN n4).drewN n5).drewN n6).drewN n7).drewN n8)
    refine ⟨e, f, n1 + n2 + n3 + n4 + n5 + n6 + n7 + n8 + n9, ⟨w6, w9⟩, ⟨?_, ?_⟩, ?_⟩
    · unfold quoO; simp only [hge, if_true]; rw [c6, c5, c4, c3, c2, c1]
    · unfold quoO; simp only [hge, if_true]; rw [c9, c8, c7, c3, c2, c1]
    · unfold Op.Complex.quotient
      simp only [Sem.run_bind, gq, hge, Result.andThen_ok, if_true, Op.Complex.mul, Op.Complex.sub, Op.Complex.add, Op.Complex.quo, k1, k2, k3, k4, k5, k6, k7, k8, k9, Sem.run_pure, z1, z2, hz, ia, ib, ic, id', Bool.false_and, Bool.or_self]
      split <;> simp [World.drewN_drewN, Nat.add_assoc]
theorem run_cquo64 {P : Program} {a b c d : Nat} (fa : isFinD a = true) (fb : isFinD b = true) (fc : isFinD c = true) (fd : isFinD d = true)
    (hz : (eqW double c 0 && eqW double d 0) = false) (t : TypeId) (w : World) :
    ∃ e f n, ((Lit.float .f64 e).wf = true ∧ (Lit.float .f64 f).wf = true) ∧ (can .f64 e = (quoO a b c d).1 ∧ can .f64 f = (quoO a b c d).2) ∧ (binOp .quo t (.complex .f64 a b) (.complex .f64 c d)).run P w = .ok (.complex .f64 e f) (w.drewN n) := by
  obtain ⟨e, f, n, h1, h2, h3⟩ := run_quot (P := P) fa fb fc fd hz w
  refine ⟨e, f, n, h1, h2, ?_⟩
  simp [binOp, Op.complexOp, Op.Complex.conv, h3]
/-! of a number and itself -/
theorem mg_oneD : mg double 4607182418800017408 = 2 ^ (W + 149) := mg_const (by decide) (by decide) (by decide)
theorem rung_one : rung double 4607182418800017408 = 4607182418800017408 := by decide
theorem sgn_one : sgn double 4607182418800017408 = false := by decide
theorem lam_double : lam double = W + 149 := by decide
theorem quo_self (n : Nat) : floatBits .quo .f64 n n = none ∨ floatBits .quo .f64 n n = some 4607182418800017408 := by
  by_cases hn : isNaN double n = true
  · exact .inl (bits_nan_left (k := .f64) hQuo n hn)
  by_cases hi : isFinD n = true
  · have hf := of_decide_eq_true hi
    by_cases h0 : rung double n = 0
    · left
      show double.div n n = none
      unfold Format.div
      have hs0 : ss double (rung double n) = 0 := by rw [h0]; decide
      rw [reads_fin double hf, hs0]; rfl
    · right
      show double.div n n = some _
      rw [div_rr double (by decide) hf hf h0, Bool.xor_self]
      have hp : 0 < mg double (rung double n) := Nat.pos_of_ne_zero fun e => h0 ((mg_eq_zero double).1 e)
      have e1 : rr double (mg double (rung double n) * 2 ^ lam double) (mg double (rung double n)) = 4607182418800017408 :=
        rr_exact double _ hp (by rw [mg_oneD, lam_double, Nat.mul_comm])
      unfold quoRung
      rw [e1, inf_double, word_false]; rfl
  · left
    have hi' : isFinD n = false := by cases e : isFinD n; rfl; exact absurd e hi
    have hf := of_decide_eq_false hi'
    have hn' := of_decide_eq_false (by cases e : isNaN double n; rfl; exact absurd e hn : isNaN double n = false)
    show double.div n n = none
    unfold Format.div
    rcases reads double hd n with ⟨m, e, hr, _, h'⟩ | ⟨hr, h'⟩ | ⟨t, hr, h'⟩
    · omega
    · rw [h']; rfl
    · omega
theorem fo_self (o : Option Nat) : fo .quo .f64 o o = none ∨ fo .quo .f64 o o = some 4607182418800017408 := by
  cases o with
  | none => exact .inl rfl
  | some n => exact quo_self n
/-- the real part of the quotient of a number and itself -/
theorem quoO_self (a b : Nat) : (quoO a b a b).1 = none ∨ (quoO a b a b).1 = some 4607182418800017408 := by
  unfold quoO
  simp only
  split
  · rw [fo_mul_comm .f64 (can .f64 b)]; exact fo_self _
  · rw [fo_add_comm .f64 (can .f64 b), fo_mul_comm .f64 (can .f64 a)]; exact fo_self _
/-! of a number and 1 -/
theorem rung_word0 (s : Bool) : rung double (double.word s 0) = 0 := rung_word double s (Nat.two_pow_pos _)
theorem mul_zero {a : Nat} (fa : isFinD a = true) : ∃ s, floatBits .mul .f64 a 0 = some (double.word s 0) := by
  have hf := of_decide_eq_true fa
  refine ⟨sgn double a ^^ sgn double 0, ?_⟩
  show double.mul a 0 = _
  rw [mul_rr double (by decide) hf (by rw [rung_zero]; decide)]
  unfold mulRung
  rw [rung_zero, mg_zero, Nat.mul_zero, rr_zero double (Nat.two_pow_pos _), Nat.zero_min]
theorem read_word0 (s : Bool) : double.read (double.word s 0) = .number s 0 double.leastPlace := by cases s <;> decide
theorem sgn_total (S t : Bool) (M : Nat) (h : M ≠ 0) : (if (if S = true then -(M : Int) else (M : Int)) = 0 then (S && t) else decide ((if S = true then -(M : Int) else (M : Int)) < 0)) = S := by
  cases S
  · simp only [Bool.false_eq_true, if_false]
    rw [if_neg (by omega)]; exact decide_eq_false (by omega)
  · simp only [if_true]
    rw [if_neg (by omega)]; exact decide_eq_true (by omega)
/-- a finite number and a zero -/
theorem sum_zero {a : Nat} (fa : isFinD a = true) (t : Bool) : ∃ r, ((double.read a).sum (.number t 0 double.leastPlace)).map double.write = some r ∧ isFinD r = true ∧ sv double r = sv double a := by
  have hf := of_decide_eq_true fa
  have hl := inf_lt double
  rw [reads_fin double hf]
  refine ⟨_, rfl, ?_⟩
  rw [write_num, show min (double.leastPlace + (qq double (rung double a) : Int)) double.leastPlace = double.leastPlace by omega]
  rw [show (double.leastPlace + (qq double (rung double a) : Int) - double.leastPlace).toNat = qq double (rung double a) by omega, Int.sub_self, Int.toNat_zero]
  rw [signed_eq, signed_eq, ← mg_ss, Nat.zero_mul]
  have e0 : (if t = true then -((0 : Nat) : Int) else ((0 : Nat) : Int)) = 0 := by cases t <;> rfl
  rw [e0, Int.add_zero]
  have hN : ∀ s, double.nearest s (mg double (rung double a)) double.leastPlace = double.word s (rung double a) := fun s =>
    nearest_exact double s _ _ _ (Nat.le_of_lt hf) (by rw [Int.sub_self])
  have hr : rung double a < double.signWeight := by omega
  have hab : (if sgn double a = true then -((mg double (rung double a) : Nat) : Int) else ((mg double (rung double a) : Nat) : Int)).natAbs = mg double (rung double a) := by
    split <;> omega
  rw [hab]
  constructor
  · rw [hN]
    unfold isFinD; rw [rung_word double _ hr]; exact decide_eq_true hf
  · rw [hN]
    by_cases h0 : rung double a = 0
    · rw [(sv_eq_zero double).2 (by rw [rung_word double _ hr]; exact h0), (sv_eq_zero double).2 h0]
    · have hm : mg double (rung double a) ≠ 0 := fun e => h0 ((mg_eq_zero double).1 e)
      unfold sv
      rw [sgn_word double _ hr, rung_word double _ hr, sgn_total _ _ _ hm]
theorem quo_one {x : Nat} (wx : x < 18446744073709551616) (fx : isFinD x = true) : floatBits .quo .f64 x 4607182418800017408 = some x := by
  have hf := of_decide_eq_true fx
  show double.div x _ = some x
  rw [div_rr double (by decide) hf (by rw [rung_one, inf_double]; decide) (by rw [rung_one]; decide), rung_one, sgn_one, Bool.xor_false]
  unfold quoRung
  rw [rr_exact double (rung double x) (by rw [mg_oneD]; exact Nat.two_pow_pos _) (by rw [mg_oneD, lam_double]), Nat.min_eq_left (Nat.le_of_lt hf)]
  rw [← word_eq double (by rw [width_double]; exact wx)]
theorem fin_can {x : Nat} (fx : isFinD x = true) : can .f64 x = some x := by
  refine can_num (k := .f64) ?_
  cases h : isNaN double x
  · exact h
  · rw [isFin_nan h] at fx; cases fx
theorem bits_lt {op : BinOp} {x y r : Nat} (h : floatBits op .f64 x y = some r) : r < 18446744073709551616 := lt_double (floatBits_wf h)
theorem absGe_one : absGe 4607182418800017408 0 = true := by decide +kernel
theorem ratio_one : fo .quo .f64 (can .f64 0) (can .f64 4607182418800017408) = some 0 := by decide +kernel
theorem denom_one : fo .add .f64 (can .f64 4607182418800017408) (fo .mul .f64 (some 0) (can .f64 0)) = some 4607182418800017408 := by decide +kernel
/-- the quotient of a finite number and 1 equals it -/
theorem quoO_one {a b : Nat} (fa : isFinD a = true) (fb : isFinD b = true) :
    ∃ x y, quoO a b 4607182418800017408 0 = (some x, some y) ∧ (isFinD x = true ∧ isFinD y = true) ∧ sv double x = sv double a ∧ sv double y = sv double b := by
  obtain ⟨s, hs⟩ := mul_zero fb
  obtain ⟨t, ht⟩ := mul_zero fa
  obtain ⟨x, hx, fx, sx⟩ := sum_zero fa s
  obtain ⟨y, hy, fy, sy⟩ := sum_zero fb (!t)
  have ex : floatBits .add .f64 a (double.word s 0) = some x := by rw [← read_word0] at hx; exact hx
  have ey : floatBits .sub .f64 b (double.word t 0) = some y := by
    show ((double.read b).sum (double.read (double.word t 0)).opposite).map double.write = some y
    rw [read_word0]; exact hy
  refine ⟨x, y, ?_, ⟨fx, fy⟩, sx, sy⟩
  unfold quoO
  simp only [absGe_one, if_true]
  rw [ratio_one, denom_one, fin_can fa, fin_can fb]
  have e1 : fo .mul .f64 (some b) (some 0) = some (double.word s 0) := hs
  have e2 : fo .mul .f64 (some a) (some 0) = some (double.word t 0) := ht
  rw [e1, e2]
  have e3 : fo .add .f64 (some a) (some (double.word s 0)) = some x := ex
  have e4 : fo .sub .f64 (some b) (some (double.word t 0)) = some y := ey
  rw [e3, e4]
  exact Prod.ext (quo_one (bits_lt ex) fx) (quo_one (bits_lt ey) fy)
end Go.Proofs.Ytkjjeccgmeiniaa.Flt
