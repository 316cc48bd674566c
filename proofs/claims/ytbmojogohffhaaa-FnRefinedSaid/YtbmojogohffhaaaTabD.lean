/- Drawn tables: small numbers, rising by an eighth or more. Plain facts. -/
import Derived.Test.YtbmojogohffhaaaSclP
namespace Go.Proofs.Ytbmojogohffhaaa.Pnt
open Go.RowKit Go.Proofs.Ytbmojogohffhaaa Go.Proofs.Ytbmojogohffhaaa.Flt
open Ieee (single double)
set_option linter.unusedVariables false
/-- a finite single of an amount up to 'c' -/
structure At (x c : Nat) : Prop where
  wf : (Lit.float .f32 x).wf = true
  fin : finB x = true
  le : (sv single x).natAbs ≤ c * P149
theorem natRung_lt {c : Nat} (h : c ≤ 32767) : natRung c < single.infRung := by
  have := (natRung_mg h).2
  have e : single.infRung = 2139095040 := by decide
  omega
theorem At.of_rung {x c : Nat} (hc : c ≤ 32767) (wf : (Lit.float .f32 x).wf = true) (h : rung single x ≤ natRung c) : At x c :=
  ⟨wf, fin_iff.2 (Nat.lt_of_le_of_lt h (natRung_lt hc)), by
    rw [sv_abs, ← (natRung_mg hc).1]
    exact mg_mono h⟩
theorem At.mono {x c d : Nat} (h : At x c) (hd : c ≤ d) : At x d := ⟨h.wf, h.fin, Nat.le_trans h.le (Nat.mul_le_mul_right _ hd)⟩
theorem rg_nat (c : Nat) : rg (c * P149) = natRung c := rfl
theorem add_at {x d c e : Nat} (hx : At x c) (hd : At d e) (h : c + e ≤ 32767) : floatBits .add .f32 x d = some (addB x d) ∧ At (addB x d) (c + e) := by
  obtain ⟨h1, h2, h3, h4, h5⟩ := add_fin hx.fin hd.fin
  refine ⟨h1, At.of_rung h (wf_single h2) ?_⟩
  rw [h4, ← rg_nat]
  refine rg_mono ?_
  have := hx.le
  have := hd.le
  rw [Nat.add_mul]
  omega
theorem sub_at {x d c e : Nat} (hx : At x c) (hd : At d e) (h : c + e ≤ 32767) : finB (subB x d) = true := by
  refine fin_iff.2 ?_
  rw [(sub_is hx.fin hd.fin).1]
  refine Nat.lt_of_le_of_lt (m := natRung (c + e)) ?_ (natRung_lt h)
  rw [← rg_nat]
  refine rg_mono ?_
  have := hx.le
  have := hd.le
  rw [Nat.add_mul]
  omega
theorem add_up {x d c e : Nat} (hx : At x c) (hd : At d e) (h : c + e ≤ 500) (hp : (P149 : Int) ≤ 8 * sv single d) : sv single x < sv single (addB x d) := by
  have h5 := (add_fin hx.fin hd.fin).2.2.2.2
  have ha := (add_at hx hd (by omega)).2
  have h4 := (add_fin hx.fin hd.fin).2.2.2.1
  have hr : rung single (addB x d) < single.infRung := fin_iff.1 ha.fin
  obtain ⟨z, hz⟩ : ∃ z, sv single x + sv single d = z := ⟨_, rfl⟩
  rw [hz] at h4 h5
  have hN : z.natAbs ≤ 500 * P149 := by
    have := hx.le
    have := hd.le
    have h6 : (c + e) * P149 ≤ 500 * P149 := Nat.mul_le_mul_right _ h
    rw [Nat.add_mul] at h6
    omega
  have hrg : rg z.natAbs = rr single z.natAbs 1 := by
    rw [h4] at hr
    unfold rg at hr ⊢
    omega
  have hhi := rr_hi single (N := z.natAbs) (D := 1) (by omega)
  have hlo := rr_lo single (N := z.natAbs) (D := 1) (by omega)
  rw [frac_single, Nat.mul_one] at hhi hlo
  rw [← hrg] at hhi hlo
  rw [h5, rnd_eq]
  have hb := big_149
  generalize mg single (rg z.natAbs) = g at *
  generalize P149 = p at *
  generalize sv single x = a at *
  generalize sv single d = b at *
  split <;> omega
/-- what the draw of a table has made so far -/
structure Tb (r : Nat) (Z : Nat → Nat) (x : Nat) : Prop where
  cur : At x (200 + 40 * r)
  old : ∀ i, i < r → At (Z (i * 2)) (200 + 40 * i) ∧ At (Z (i * 2 + 1)) 200
  up : ∀ i, i + 1 < r → sv single (Z (i * 2)) < sv single (Z ((i + 1) * 2))
  last : ∀ i, i + 1 = r → sv single (Z (i * 2)) < sv single x
theorem Tb.start {x : Nat} (Z : Nat → Nat) (h : At x 200) : Tb 0 Z x := ⟨h, fun i hi => absurd hi (Nat.not_lt_zero _), fun i hi => absurd hi (Nat.not_lt_zero _), fun i hi => by omega⟩
theorem put2_at (Z : Nat → Nat) (k x y : Nat) : put2 Z k x y (k * 2) = x ∧ put2 Z k x y (k * 2 + 1) = y := by
  unfold put2
  rw [if_pos rfl, if_neg (by omega), if_pos rfl]
  exact ⟨rfl, rfl⟩
theorem put2_old {Z : Nat → Nat} {k x y i : Nat} (h : i < k) : put2 Z k x y (i * 2) = Z (i * 2) ∧ put2 Z k x y (i * 2 + 1) = Z (i * 2 + 1) := by
  unfold put2
  rw [if_neg (by omega), if_neg (by omega), if_neg (by omega), if_neg (by omega)]
  exact ⟨rfl, rfl⟩
theorem Tb.next {r : Nat} {Z : Nat → Nat} {x y d : Nat} (h : Tb r Z x) (hr : r < 6) (hy : At y 200) (hd : At d 40) (hp : (P149 : Int) ≤ 8 * sv single d) : floatBits .add .f32 x d = some (addB x d) ∧ Tb (r + 1) (put2 Z r x y) (addB x d) := by
  obtain ⟨h1, h2⟩ := add_at h.cur hd (by omega)
  obtain ⟨p0, p1⟩ := put2_at Z r x y
  refine ⟨h1, h2.mono (by omega), fun i hi => ?_, fun i hi => ?_, fun i hi => ?_⟩
  · by_cases e : i = r
    · subst e; rw [p0, p1]; exact ⟨h.cur, hy⟩
    · obtain ⟨q0, q1⟩ := put2_old (Z := Z) (x := x) (y := y) (show i < r by omega)
      rw [q0, q1]; exact h.old i (by omega)
  · by_cases e : i + 1 = r
    · rw [e, p0, (put2_old (Z := Z) (x := x) (y := y) (show i < r by omega)).1]
      exact h.last i e
    · rw [(put2_old (Z := Z) (x := x) (y := y) (show i < r by omega)).1, (put2_old (Z := Z) (x := x) (y := y) (show i + 1 < r by omega)).1]
      exact h.up i (by omega)
  · obtain rfl : i = r := by omega
    rw [p0]
    exact add_up h.cur hd (by omega) hp
theorem Tb.ok {r : Nat} {Z : Nat → Nat} {x : Nat} (h : Tb r Z x) (h2 : 2 ≤ r) (h6 : r ≤ 6) : okP r Z = true ∧ Wf r Z := by
  constructor
  · symm
    refine okP_all h2 (by omega) fun j hj => ?_
    obtain ⟨a0, a1⟩ := h.old j hj
    unfold okPt
    rw [a0.fin, a1.fin]
    rcases j with _ | j
    · rfl
    · obtain ⟨b0, b1⟩ := h.old j (by omega)
      have hu := h.up j hj
      unfold isAB
      rw [show j + 1 - 1 = j from rfl, sub_at a0 b0 (by omega), sub_at a1 b1 (by omega), leB_sv (fin_num a0.fin) (fin_num b0.fin), decide_eq_false (by omega)]
      rfl
  · exact fun i hi => ⟨(h.old i hi).1.wf, (h.old i hi).2.wf⟩
/-! the drawn numbers -/
theorem ofInt_nat {c : Nat} (h : c ≤ 32767) : floatOfInt .f32 (c : Int) = natRung c := by
  rw [ofInt32, show decide ((c : Int) < 0) = false from decide_eq_false (by omega), Int.natAbs_natCast, word_false]; rfl
theorem ofInt_rung {n : Int} (h : n.natAbs ≤ 32767) : rung single (floatOfInt .f32 n) = natRung n.natAbs ∧ (Lit.float .f32 (floatOfInt .f32 n)).wf = true := by
  rw [ofInt32]
  have hl : min (rr single (n.natAbs * P149) 1) single.infRung ≤ single.infRung := Nat.min_le_right _ _
  exact ⟨word_rung hl, wf_single (word_lt32 _ (Nat.lt_of_le_of_lt hl (inf_lt single)))⟩
theorem natRung_mono {c d : Nat} (h : c ≤ d) : natRung c ≤ natRung d := by rw [← rg_nat, ← rg_nat]; exact rg_mono (Nat.mul_le_mul_right _ h)
theorem natRung_ne {c : Nat} (h0 : 1 ≤ c) (h : c ≤ 32767) : natRung c ≠ 0 := fun e => by
  have h1 := (natRung_mg h).1
  rw [e, mg_zero] at h1
  have := P149_pos
  have : 0 < c * P149 := Nat.mul_pos h0 this
  omega
theorem natRung_fin {c : Nat} (h : c ≤ 32767) : finB (natRung c) = true ∧ rung single (natRung c) = natRung c := by
  have hl := (natRung_mg h).2
  have e := pos_rung (r := natRung c) (by omega)
  exact ⟨fin_iff.2 (by rw [e]; exact natRung_lt h), e⟩
theorem mild_at {n : Int} {y : Nat} (hn : n.natAbs ≤ 200) (h1 : 1 ≤ y) (h2 : y ≤ 16) : floatBits .quo .f32 (floatOfInt .f32 n) (floatOfInt .f32 (y : Int)) = some (quoB (floatOfInt .f32 n) (floatOfInt .f32 (y : Int))) ∧ At (quoB (floatOfInt .f32 n) (floatOfInt .f32 (y : Int))) 200 := by
  rw [ofInt_nat (by omega)]
  obtain ⟨r1, r2⟩ := ofInt_rung (n := n) (by omega)
  obtain ⟨f2, e2⟩ := natRung_fin (c := y) (by omega)
  have f1 : finB (floatOfInt .f32 n) = true := fin_iff.2 (by rw [r1]; exact natRung_lt (by omega))
  obtain ⟨q1, q2⟩ := quo_fin f1 f2 (by rw [e2]; exact natRung_ne h1 (by omega))
  refine ⟨q1, At.of_rung (by omega) ?_ ?_⟩
  · rw [q2]; exact wf_single (word_lt32 _ (Nat.lt_of_le_of_lt (quoRung_le _ _) (inf_lt single)))
  · rw [q2, word_rung (quoRung_le _ _), r1, e2]
    refine Nat.le_trans (quo_le_of (natRung_ne h1 (by omega)) (t := natRung n.natAbs) ?_) (natRung_mono hn)
    refine Nat.mul_le_mul_left _ ?_
    rw [(natRung_mg (show y ≤ 32767 by omega)).1]
    exact Nat.le_mul_of_pos_left _ h1
theorem mg_eighth : 8 * mg single 1040187392 = P149 := by decide +kernel
theorem step_at {k y : Nat} (hk : k < 40) (h1 : 1 ≤ y) (h2 : y ≤ 8) : floatBits .quo .f32 (floatOfInt .f32 (1 + (k : Int))) (floatOfInt .f32 (y : Int)) = some (quoB (floatOfInt .f32 (1 + (k : Int))) (floatOfInt .f32 (y : Int))) ∧
    At (quoB (floatOfInt .f32 (1 + (k : Int))) (floatOfInt .f32 (y : Int))) 40 ∧ (P149 : Int) ≤ 8 * sv single (quoB (floatOfInt .f32 (1 + (k : Int))) (floatOfInt .f32 (y : Int))) := by
  rw [show (1 + (k : Int)) = ((1 + k : Nat) : Int) by omega, ofInt_nat (by omega), ofInt_nat (by omega)]
  obtain ⟨f1, e1⟩ := natRung_fin (c := 1 + k) (by omega)
  obtain ⟨f2, e2⟩ := natRung_fin (c := y) (by omega)
  obtain ⟨q1, q2⟩ := quo_fin f1 f2 (by rw [e2]; exact natRung_ne h1 (by omega))
  have s1 : sgn single (natRung (1 + k)) = false := pos_sgn (by have := (natRung_mg (show 1 + k ≤ 32767 by omega)).2; omega)
  have s2 : sgn single (natRung y) = false := pos_sgn (by have := (natRung_mg (show y ≤ 32767 by omega)).2; omega)
  rw [e1, e2, s1, s2, Bool.xor_self, word_false] at q2
  have hle : quoRung single (natRung (1 + k)) (natRung y) ≤ natRung 40 := by
    refine Nat.le_trans (quo_le_of (natRung_ne h1 (by omega)) (t := natRung (1 + k)) ?_) (natRung_mono (by omega))
    refine Nat.mul_le_mul_left _ ?_
    rw [(natRung_mg (show y ≤ 32767 by omega)).1]
    exact Nat.le_mul_of_pos_left _ h1
  have hge : 1040187392 ≤ quoRung single (natRung (1 + k)) (natRung y) := by
    refine quo_ge_of (natRung_ne h1 (by omega)) (by decide) ?_
    rw [(natRung_mg (show y ≤ 32767 by omega)).1, (natRung_mg (show 1 + k ≤ 32767 by omega)).1]
    have e := mg_eighth
    calc mg single 1040187392 * (y * P149) ≤ mg single 1040187392 * (8 * P149) := Nat.mul_le_mul_left _ (Nat.mul_le_mul_right _ h2)
      _ = P149 * P149 := by rw [← Nat.mul_assoc, Nat.mul_comm _ 8, e]
      _ ≤ (1 + k) * P149 * P149 := Nat.mul_le_mul_right _ (Nat.le_mul_of_pos_left _ (by omega))
  have h40 := (natRung_mg (show 40 ≤ 32767 by omega)).2
  have er : rung single (quoRung single (natRung (1 + k)) (natRung y)) = quoRung single (natRung (1 + k)) (natRung y) := pos_rung (by omega)
  refine ⟨q1, ?_, ?_⟩
  · rw [q2]
    exact At.of_rung (by omega) (wf_single (by omega)) (by rw [er]; exact hle)
  · rw [q2, pos_sv (by omega)]
    have := mg_mono hge
    have e := mg_eighth
    omega
/-- a place between two neighbors: every step is a number -/
theorem mg_million : mg single 1233125376 = 1048576 * P149 := by decide +kernel
theorem mid_ok {a b : Nat} {q : Nat} (ha : At a 440) (hb : At b 440) (hq : q < 256) :
    floatBits .sub .f32 b a = some (subB b a) ∧ floatBits .mul .f32 (subB b a) (floatOfInt .f32 (q : Int)) = some (mulB (subB b a) (floatOfInt .f32 (q : Int))) ∧
    floatBits .quo .f32 (mulB (subB b a) (floatOfInt .f32 (q : Int))) 1132462080 = some (quoB (mulB (subB b a) (floatOfInt .f32 (q : Int))) 1132462080) ∧
    floatBits .add .f32 a (quoB (mulB (subB b a) (floatOfInt .f32 (q : Int))) 1132462080) = some (addB a (quoB (mulB (subB b a) (floatOfInt .f32 (q : Int))) 1132462080)) ∧ (Lit.float .f32 (addB a (quoB (mulB (subB b a) (floatOfInt .f32 (q : Int))) 1132462080))).wf = true := by
  have f1 := sub_at hb ha (by omega)
  obtain ⟨f2, e2⟩ := natRung_fin (c := q) (by omega)
  rw [ofInt_nat (by omega)]
  have e1 : rung single (subB b a) ≤ natRung 880 := by
    rw [(sub_is hb.fin ha.fin).1, ← rg_nat]
    refine rg_mono ?_
    have := ha.le
    have := hb.le
    rw [show 880 = 440 + 440 from rfl, Nat.add_mul]
    omega
  obtain ⟨m1, m2⟩ := mul_fin f1 f2
  have e3 : rung single (mulB (subB b a) (natRung q)) ≤ 1233125376 := by
    rw [m2, word_rung (mulRung_le _ _), e2]
    refine mul_le_of ?_
    rw [mg_million, (natRung_mg (show q ≤ 32767 by omega)).1]
    have h1 := mg_mono e1
    rw [(natRung_mg (show 880 ≤ 32767 by omega)).1] at h1
    calc mg single (rung single (subB b a)) * (q * P149) ≤ 880 * P149 * (q * P149) := Nat.mul_le_mul_right _ h1
      _ ≤ 880 * P149 * (256 * P149) := Nat.mul_le_mul_left _ (Nat.mul_le_mul_right _ (by omega))
      _ = 225280 * (P149 * P149) := by rw [Nat.mul_mul_mul_comm]
      _ ≤ 1048576 * (P149 * P149) := Nat.mul_le_mul_right _ (by omega)
      _ = 1048576 * P149 * P149 := by rw [Nat.mul_assoc]
  have f3 : finB (mulB (subB b a) (natRung q)) = true := fin_iff.2 (by rw [inf_single]; omega)
  obtain ⟨f4, e4⟩ := natRung_fin (c := 256) (by omega)
  have e256 : natRung 256 = 1132462080 := by
    have h := (natRung_mg (show 256 ≤ 32767 by omega)).1
    have h' : mg single 1132462080 = 256 * P149 := by decide +kernel
    rw [← h'] at h
    exact Nat.le_antisymm ((mg_le_iff single).1 (by omega)) ((mg_le_iff single).1 (by omega))
  rw [e256] at f4 e4
  obtain ⟨q1, q2⟩ := quo_fin f3 f4 (by rw [e4]; omega)
  have f5 : finB (quoB (mulB (subB b a) (natRung q)) 1132462080) = true := by
    refine fin_iff.2 ?_
    rw [q2, word_rung (quoRung_le _ _), e4]
    refine Nat.lt_of_le_of_lt (quo_le_of (by omega) (t := rung single (mulB (subB b a) (natRung q))) ?_) (fin_iff.1 f3)
    refine Nat.mul_le_mul_left _ ?_
    have h' : mg single 1132462080 = 256 * P149 := by decide +kernel
    rw [h']
    omega
  obtain ⟨a1, a2, _⟩ := add_fin ha.fin f5
  exact ⟨sub_fin hb.fin ha.fin, m1, q1, a1, wf_single a2⟩
theorem Tb.at {r : Nat} {Z : Nat → Nat} {x : Nat} (h : Tb r Z x) (h6 : r ≤ 6) : ∀ i, i < r → At (Z (i * 2)) 440 ∧ At (Z (i * 2 + 1)) 200 := fun i hi => ⟨(h.old i hi).1.mono (by omega), (h.old i hi).2⟩
end Go.Proofs.Ytbmojogohffhaaa.Pnt
