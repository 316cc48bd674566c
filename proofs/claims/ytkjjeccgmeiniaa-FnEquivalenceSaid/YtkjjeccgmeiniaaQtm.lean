/- Plain facts: how many units a single is, rounded to a whole number; what so many units are. No program stands here. -/
import Derived.Test.YtkjjeccgmeiniaaSpnU
import Derived.Test.YtkjjeccgmeiniaaFltU
import Derived.Test.YtkjjeccgmeiniaaFltG
import Derived.Test.YtkjjeccgmeiniaaAvgD
namespace Go.Proofs.Ytkjjeccgmeiniaa.Flt
open Ieee Go.RowKit
set_option linter.unusedVariables false
/-- the difference of two finite numbers, rounded, with its sign -/
theorem sub_sign (f : Format) {a b : Nat} (ha : rung f a < f.infRung) (hb : rung f b < f.infRung) (hle : sv f b ≤ sv f a) :
    ∃ s, f.sub a b = some (f.word s (min (rr f (sv f a - sv f b).natAbs 1) f.infRung)) ∧ (s = false ∨ sv f a = sv f b) := by
  rw [sv_signed f a, sv_signed f b] at hle ⊢
  unfold Format.sub
  rw [reads_fin f ha, reads_fin f hb]
  generalize ss f (rung f a) = m at *
  generalize ss f (rung f b) = n at *
  generalize qq f (rung f a) = i at *
  generalize qq f (rung f b) = j at *
  generalize sgn f a = s at *
  generalize sgn f b = t at *
  show ∃ s', (Datum.sum (.number s m (f.leastPlace + (i : Int))) (.number (!t) n (f.leastPlace + (j : Int)))).map f.write = _ ∧ _
  unfold Datum.sum
  simp only
  have key : ∀ (T : Int) (k : Nat), T * (2 ^ k : Nat) = signed s m i - signed t n j → (if T = 0 then s && !t else decide (T < 0)) = false ∨ signed s m i = signed t n j := by
    intro T k e
    by_cases h0 : T = 0
    · right
      rw [h0, Int.zero_mul] at e
      omega
    · left
      rw [if_neg h0]
      refine decide_eq_false fun h => ?_
      have hp : (0 : Int) < ((2 ^ k : Nat) : Int) := by exact_mod_cast Nat.two_pow_pos k
      have := Int.mul_neg_of_neg_of_pos h hp
      omega
  by_cases h : i ≤ j
  · rw [show min (f.leastPlace + (i : Int)) (f.leastPlace + (j : Int)) = f.leastPlace + (i : Int) by omega]
    rw [show (f.leastPlace + (i : Int) - (f.leastPlace + (i : Int))).toNat = 0 by omega, show (f.leastPlace + (j : Int) - (f.leastPlace + (i : Int))).toNat = j - i by omega]
    have e : (signed s m 0 + signed (!t) n (j - i)) * (2 ^ i : Nat) = signed s m i - signed t n j := by
      have h1 := signed_mul s m 0 i
      have h2 := signed_mul (!t) n (j - i) i
      rw [Nat.zero_add] at h1
      rw [Nat.sub_add_cancel h] at h2
      rw [Int.add_mul, ← h1, ← h2, signed_not]; rfl
    generalize signed s m 0 + signed (!t) n (j - i) = T at *
    rw [Option.map_some, write_num, nearest_rr]
    refine ⟨(if T = 0 then s && !t else decide (T < 0)), ?_, key T i e⟩
    rw [show (f.leastPlace + (i : Int) - f.leastPlace).toNat = i by omega, show (f.leastPlace - (f.leastPlace + (i : Int))).toNat = 0 by omega, Nat.pow_zero, ← e, Int.natAbs_mul, Int.natAbs_natCast]
  · rw [show min (f.leastPlace + (i : Int)) (f.leastPlace + (j : Int)) = f.leastPlace + (j : Int) by omega]
    rw [show (f.leastPlace + (j : Int) - (f.leastPlace + (j : Int))).toNat = 0 by omega, show (f.leastPlace + (i : Int) - (f.leastPlace + (j : Int))).toNat = i - j by omega]
    have e : (signed s m (i - j) + signed (!t) n 0) * (2 ^ j : Nat) = signed s m i - signed t n j := by
      have h1 := signed_mul s m (i - j) j
      have h2 := signed_mul (!t) n 0 j
      rw [Nat.zero_add] at h2
      rw [Nat.sub_add_cancel (by omega)] at h1
      rw [Int.add_mul, ← h1, ← h2, signed_not]; rfl
    generalize signed s m (i - j) + signed (!t) n 0 = T at *
    rw [Option.map_some, write_num, nearest_rr]
    refine ⟨(if T = 0 then s && !t else decide (T < 0)), ?_, key T j e⟩
    rw [show (f.leastPlace + (j : Int) - f.leastPlace).toNat = j by omega, show (f.leastPlace - (f.leastPlace + (j : Int))).toNat = 0 by omega, Nat.pow_zero, ← e, Int.natAbs_mul, Int.natAbs_natCast]
theorem PV_P : PV = P1074 := lamPV.symm.trans P1074_eq
/-- 1000000000, 1/2 and 1/8 -/
def K9 : Nat := 4741671816366391296
def H5 : Nat := 4602678819172646912
def E8 : Nat := 4593671619917905920
theorem K9_mg : mg double K9 = 1000000000 * P1074 := by decide +kernel
theorem H5_mg : 2 * mg double H5 = P1074 := by decide +kernel
theorem E8_mg : 8 * mg double E8 = P1074 := by decide +kernel
/-- an amount, cut off to a whole number, and what is left -/
def tr (Q : Nat) : Nat := mg double Q / P1074
def rest (Q : Nat) : Nat := rr double (mg double Q - tr Q * P1074) 1
def upB (Q : Nat) : Bool := decide (H5 ≤ rest Q)
def up (Q : Nat) : Nat := if upB Q = true then 1 else 0
/-- an amount, rounded to a whole number -/
def whole (Q : Nat) : Option Nat := if K9 < Q then none else some (tr Q + up Q)
theorem up_le (Q : Nat) : up Q ≤ 1 := by unfold up; split <;> omega
theorem tr_le {Q : Nat} (h : Q ≤ K9) : tr Q ≤ 1000000000 := by
  have h1 := (mg_le_iff double).2 h
  rw [K9_mg] at h1
  unfold tr
  exact Nat.div_le_of_le_mul (by rw [Nat.mul_comm]; exact h1)
theorem rest_lt (Q : Nat) : mg double Q - tr Q * P1074 < P1074 := by
  have h1 := Nat.div_add_mod (mg double Q) P1074
  have h2 := Nat.mod_lt (mg double Q) P1074_pos
  unfold tr
  rw [Nat.mul_comm (mg double Q / P1074)]
  omega
theorem tr_mul (Q : Nat) : tr Q * P1074 ≤ mg double Q := Nat.div_mul_le_self _ _
theorem one_mg : mg double 4607182418800017408 = P1074 := by decide +kernel
theorem rest_le (Q : Nat) : rest Q ≤ 4607182418800017408 := by
  unfold rest
  refine rr_le double _ Nat.one_pos ?_
  rw [one_mg, Nat.mul_one]
  exact Nat.le_of_lt (rest_lt Q)
theorem K9_rung : rung double K9 = K9 := by decide
theorem K9_sgn : sgn double K9 = false := by decide
theorem H5_rung : rung double H5 = H5 := by decide
theorem H5_sgn : sgn double H5 = false := by decide
theorem K9_lt : K9 < double.infRung := by decide
theorem H5_lt : H5 < double.infRung := by decide
theorem mgK9_pos : 0 < mg double K9 := by rw [K9_mg]; exact Nat.mul_pos (by omega) P1074_pos
theorem mgH5_pos : 0 < mg double H5 := by have := H5_mg; have := P1074_pos; omega
/-- is an amount greater than 1000000000 -/
theorem gt_K9 {s : Bool} {Q : Nat} (hQ : Q ≤ double.infRung) (hs : s = false ∨ Q = 0) : (FloatKind.f64.format.order (double.word s Q) K9 == some .gt) = decide (K9 < Q) := by
  have hw : Q < double.signWeight := Nat.lt_of_le_of_lt hQ (inf_lt double)
  rw [gt64]
  unfold ltW
  have n1 : isNaN double K9 = false := by unfold isNaN; rw [K9_rung]; exact decide_eq_false (by have := K9_lt; omega)
  have hv : sv double (double.word s Q) = ((mg double Q : Nat) : Int) := by
    rw [word_sv double s hQ]
    rcases hs with rfl | rfl
    · rfl
    · rw [mg_zero]; cases s <;> rfl
  have hk : sv double K9 = ((mg double K9 : Nat) : Int) := by unfold sv; rw [K9_sgn, K9_rung]; rfl
  rw [n1, word_nan double s hQ, hv, hk]
  simp only [Bool.not_false, Bool.true_and]
  rw [decide_eq_decide, Int.ofNat_lt, mg_lt_iff]
set_option maxHeartbeats 800000 in
/-- the four steps of rounding -/
theorem steps {s : Bool} {Q : Nat} (hQ : Q ≤ K9) (hs : s = false ∨ Q = 0) :
    ∃ d, floatToIntVal .f64 (double.word s Q) .i64 = some (tr Q : Int) ∧ floatBits .sub .f64 (double.word s Q) (floatOfInt .f64 (tr Q : Int)) = some d ∧ (FloatKind.f64.format.order d H5 == some .gt) = decide (H5 < rest Q) ∧ (FloatKind.f64.format.order d H5 == some .eq) = decide (H5 = rest Q) := by
  have hl := K9_lt
  have hQi : Q < double.infRung := by omega
  have hw : Q < double.signWeight := Nat.lt_trans hQi (inf_lt double)
  have ht := tr_le hQ
  have hT := A_sp (m := tr Q) (by omega)
  have htw : A (tr Q) 149 < double.signWeight := Nat.lt_trans hT.1 (inf_lt double)
  have hrT : rung double (A (tr Q) 149) = A (tr Q) 149 := Nat.mod_eq_of_lt htw
  have hv : sv double (double.word s Q) = ((mg double Q : Nat) : Int) := by
    rw [word_sv double s (Nat.le_of_lt hQi)]
    rcases hs with rfl | rfl
    · rfl
    · rw [mg_zero]; cases s <;> rfl
  have hvt : sv double (A (tr Q) 149) = ((tr Q * P1074 : Nat) : Int) := by
    have := sv_A (m := tr Q) (q := 149) (by omega) (by omega)
    rw [this, PV_eq, PV_P]
  have hm := tr_mul Q
  obtain ⟨s', e1, e2⟩ := sub_sign double (a := double.word s Q) (b := A (tr Q) 149) (by rw [rung_word double s hw]; exact hQi) (by rw [hrT]; exact hT.1) (by rw [hv, hvt]; exact_mod_cast hm)
  have hd : (sv double (double.word s Q) - sv double (A (tr Q) 149)).natAbs = mg double Q - tr Q * P1074 := by
    rw [hv, hvt]
    revert hm
    generalize tr Q * P1074 = T
    intro hm
    omega
  rw [hd] at e1
  have hr := rest_le Q
  have hri : rest Q < double.infRung := by rw [inf_double]; omega
  have hmin : min (rr double (mg double Q - tr Q * P1074) 1) double.infRung = rest Q := Nat.min_eq_left (Nat.le_of_lt hri)
  rw [hmin] at e1
  have e3 : s' = false ∨ rest Q = 0 := by
    rcases e2 with e2 | e2
    · exact .inl e2
    · right
      rw [hv, hvt] at e2
      have e4 : mg double Q = tr Q * P1074 := Int.ofNat_inj.1 e2
      unfold rest
      rw [← e4, Nat.sub_self, rr_zero double Nat.one_pos]
  have hvd : sv double (double.word s' (rest Q)) = ((mg double (rest Q) : Nat) : Int) := by
    rw [word_sv double s' (Nat.le_of_lt hri)]
    rcases e3 with rfl | e
    · rfl
    · rw [e, mg_zero]; cases s' <;> rfl
  have hk : sv double H5 = ((mg double H5 : Nat) : Int) := by unfold sv; rw [H5_sgn, H5_rung]; rfl
  have n1 : isNaN double H5 = false := by unfold isNaN; rw [H5_rung]; exact decide_eq_false (by have := H5_lt; omega)
  have n2 := word_nan double s' (Nat.le_of_lt hri)
  refine ⟨double.word s' (rest Q), ?_, ?_, ?_, ?_⟩
  · unfold floatToIntVal
    rw [decode64, reads_fin double (by rw [rung_word double s hw]; exact hQi), rung_word double s hw, sgn_word double s hw]
    have hc : Toward.zero.cut s (ss double Q <<< (double.leastPlace + (qq double Q : Int)).toNat) (-(double.leastPlace + (qq double Q : Int))).toNat = tr Q := by
      have := whole_cut (ss double Q) (qq double Q)
      rw [cut_zero] at this ⊢
      rw [this, ← mg_ss, PV_eq, PV_P]
      rfl
    have hi : (Datum.number s (ss double Q) (double.leastPlace + (qq double Q : Int))).toInt .zero = some (tr Q : Int) := by
      unfold Datum.toInt
      show some (signed _ (Toward.zero.cut _ _ _) 0) = _
      rw [hc, signed_eq, Nat.pow_zero, Nat.mul_one]
      rcases hs with rfl | rfl
      · rfl
      · have : tr 0 = 0 := by unfold tr; rw [mg_zero]; exact Nat.zero_div _
        rw [this]; cases s <;> rfl
    rw [hi]
    simp only
    rw [if_pos]
    rw [i64_min, i64_max]
    omega
  · rw [ofIntA (by omega)]
    exact e1
  · rw [gt64]
    unfold ltW
    rw [n1, n2, hvd, hk]
    simp only [Bool.not_false, Bool.true_and]
    rw [decide_eq_decide, Int.ofNat_lt, mg_lt_iff]
  · rw [eq64]
    unfold eqW
    rw [n1, n2, hvd, hk]
    simp only [Bool.not_false, Bool.true_and]
    rw [decide_eq_decide, Int.ofNat_inj, mg_inj]
    exact eq_comm
/-! the quotient of a single and a unit -/
def qR (r v : Nat) : Nat := quoRung double (wr r) (wr v)
theorem qR_le (r v : Nat) : qR r v ≤ double.infRung := Nat.min_le_right _ _
theorem wr_rung {r : Nat} (h : r < single.infRung) : rung double (wr r) = wr r := pos_rungD (wr_spec h).1
theorem wr_ne {r : Nat} (h : r < single.infRung) (h0 : r ≠ 0) : wr r ≠ 0 := fun e => by
  have h1 := (wr_spec h).2
  rw [e, mg_zero] at h1
  have h2 : mg single r ≠ 0 := fun e => h0 ((mg_eq_zero single).1 e)
  exact Nat.ne_of_gt (Nat.mul_pos (Nat.pos_of_ne_zero h2) (Nat.two_pow_pos W)) h1.symm
theorem quo_bits {x v : Nat} (hx : rung single x < single.infRung) (hv : rung single v < single.infRung) (h0 : rung single v ≠ 0) :
    floatBits .quo .f64 (widen x) (widen v) = some (double.word (sgn single x ^^ sgn single v) (qR (rung single x) (rung single v))) := by
  have r1 : rung double (widen x) = wr (rung single x) := by rw [rung_widen, if_pos hx]
  have r2 : rung double (widen v) = wr (rung single v) := by rw [rung_widen, if_pos hv]
  have := div_rr double least_le64 (x := widen x) (y := widen v) (by rw [r1]; exact (wr_spec hx).1) (by rw [r2]; exact (wr_spec hv).1) (by rw [r2]; exact wr_ne hv h0)
  rw [r1, r2, sgn_widen, sgn_widen] at this
  exact this
theorem qR_rr {r v : Nat} (hr : r < single.infRung) (hv : v < single.infRung) (h0 : v ≠ 0) : qR r v = min (rr double (mg single r * P1074) (mg single v)) double.infRung := by
  have hp : 0 < mg single v := Nat.pos_of_ne_zero fun e => h0 ((mg_eq_zero single).1 e)
  unfold qR quoRung
  rw [(wr_spec hr).2, (wr_spec hv).2, P1074_eq]
  refine congrArg (fun t => min t double.infRung) ?_
  refine rr_congr double (Nat.mul_pos hp (Nat.two_pow_pos W)) hp ?_
  generalize 2 ^ W = a
  generalize P1074 = b
  ac_rfl
theorem qR_zero (v : Nat) (hv : v < single.infRung) (h0 : v ≠ 0) : qR 0 v = 0 := by
  have hp : 0 < mg single v := Nat.pos_of_ne_zero fun e => h0 ((mg_eq_zero single).1 e)
  rw [qR_rr (by rw [inf_single]; decide) hv h0, mg_zero, Nat.zero_mul, rr_zero double hp]
  exact Nat.zero_min _
/-- an amount near a whole number is told as this -/
theorem whole_near {Q n : Nat} (hn : n ≤ 1000000) (h1 : 8 * mg double Q ≤ 8 * (n * P1074) + P1074) (h2 : 8 * (n * P1074) ≤ 8 * mg double Q + P1074) : Q < K9 ∧ whole Q = some n := by
  have hP := P1074_pos
  have hk : Q < K9 := by
    rw [← mg_lt_iff double, K9_mg]
    have := Nat.mul_le_mul_right P1074 hn
    omega
  refine ⟨hk, ?_⟩
  unfold whole
  rw [if_neg (by omega)]
  have h5 := H5_mg
  have h8 := E8_mg
  refine congrArg some ?_
  by_cases h : n * P1074 ≤ mg double Q
  · have ht : tr Q = n := by
      unfold tr
      refine Nat.div_eq_of_lt_le h ?_
      rw [Nat.succ_mul]
      omega
    have hr : rest Q ≤ E8 := by
      unfold rest
      refine rr_le double _ Nat.one_pos ?_
      rw [ht]
      omega
    have hu : up Q = 0 := by
      unfold up upB
      rw [decide_eq_false (by unfold E8 at hr; unfold H5; omega)]
      rfl
    rw [ht, hu, Nat.add_zero]
  · obtain ⟨k, rfl⟩ : ∃ k, n = k + 1 := ⟨n - 1, by
      rcases Nat.eq_zero_or_pos n with rfl | h0
      · rw [Nat.zero_mul] at h; omega
      · omega⟩
    rw [Nat.add_mul k 1 P1074, Nat.one_mul] at h h1 h2
    have ht : tr Q = k := by
      unfold tr
      refine Nat.div_eq_of_lt_le ?_ ?_
      · omega
      · rw [Nat.succ_mul]; omega
    have hr : H5 ≤ rest Q := by
      unfold rest
      refine rr_ge double _ Nat.one_pos ?_
      rw [ht]
      omega
    have hu : up Q = 1 := by
      unfold up upB
      rw [decide_eq_true hr]
      rfl
    rw [ht, hu]
/-- so many units, rounded to a single, are so many units -/
theorem back_num {n V : Nat} (hn : n ≤ 1000000) (hV : 0 < V) : whole (min (rr double (mg single (rr single (n * V) 1) * P1074) V) double.infRung) = some n := by
  have key : ∀ Q, Q = rr double (mg single (rr single (n * V) 1) * P1074) V → 8 * mg double Q ≤ 8 * (n * P1074) + P1074 ∧ 8 * (n * P1074) ≤ 8 * mg double Q + P1074 := by
    rintro Q hQ
    by_cases hs : n * V < 16777216
    · have hX : rr single (n * V) 1 = n * V := rr_exact single (n * V) Nat.one_pos (by rw [mg_small single (by rw [binade_single]; omega), Nat.mul_one])
      rw [hX, mg_small single (by rw [binade_single]; omega)] at hQ
      have hA := A_sp (m := n) (by omega)
      have : Q = A n 149 := by
        rw [hQ]
        refine rr_exact double _ hV ?_
        rw [hA.2, PV_P]
        generalize P1074 = b
        ac_rfl
      rw [this, hA.2, PV_P]
      generalize n * P1074 = a
      omega
    · have h17 : 17 ≤ V := by
        refine Nat.le_of_not_lt fun hlt => hs ?_
        have := Nat.mul_le_mul hn (show V ≤ 16 by omega)
        omega
      have a1 := rr_hi single (N := n * V) Nat.one_pos
      have a2 := rr_lo single (N := n * V) Nat.one_pos
      rw [frac_single] at a1 a2
      generalize hX : mg single (rr single (n * V) 1) = X at *
      have b1 := rr_hi double (N := X * P1074) hV
      have b2 := rr_lo double (N := X * P1074) hV
      rw [show 2 ^ double.fractionBits = 4503599627370496 by decide, ← hQ] at b1 b2
      have hP : 1024 ≤ P1074 := by decide +kernel
      have hY : n * V ≤ 1000000 * V := Nat.mul_le_mul_right V hn
      generalize mg double Q = q at *
      -- everything times V
      have c1 := Nat.mul_le_mul_right P1074 a1
      have c2 := Nat.mul_le_mul_right P1074 a2
      have c3 := Nat.mul_le_mul_right P1074 hY
      have c4 := Nat.mul_le_mul_right P1074 h17
      have c5 := Nat.mul_le_mul_left V hP
      have goal1 : 8 * (q * V) ≤ 8 * (n * V * P1074) + V * P1074 := by
        generalize hyp : n * V * P1074 = YP at *
        generalize hvp : V * P1074 = VP at *
        generalize hxp : X * P1074 = XP at *
        rw [Nat.mul_one, Nat.mul_one, Nat.add_mul, Nat.add_mul, Nat.mul_assoc, hxp, Nat.mul_assoc (2 * 8388608) (n * V) P1074, hyp] at c1
        rw [Nat.mul_one, Nat.mul_one, Nat.add_mul, Nat.add_mul, Nat.mul_assoc, hyp, Nat.mul_assoc (2 * 8388608) X P1074, hxp] at c2
        rw [Nat.mul_assoc, hvp] at c3
        omega
      have goal2 : 8 * (n * V * P1074) ≤ 8 * (q * V) + V * P1074 := by
        generalize hyp : n * V * P1074 = YP at *
        generalize hvp : V * P1074 = VP at *
        generalize hxp : X * P1074 = XP at *
        rw [Nat.mul_one, Nat.mul_one, Nat.add_mul, Nat.add_mul, Nat.mul_assoc, hxp, Nat.mul_assoc (2 * 8388608) (n * V) P1074, hyp] at c1
        rw [Nat.mul_one, Nat.mul_one, Nat.add_mul, Nat.add_mul, Nat.mul_assoc, hyp, Nat.mul_assoc (2 * 8388608) X P1074, hxp] at c2
        rw [Nat.mul_assoc, hvp] at c3
        omega
      have eq1 : ∀ b : Nat, n * b * V = n * V * b := fun b => by ac_rfl
      constructor
      · refine Nat.le_of_mul_le_mul_right (c := V) ?_ hV
        rw [Nat.add_mul, Nat.mul_assoc 8 q V, Nat.mul_assoc 8 (n * P1074) V, Nat.mul_comm P1074 V, eq1]
        exact goal1
      · refine Nat.le_of_mul_le_mul_right (c := V) ?_ hV
        rw [Nat.add_mul, Nat.mul_assoc 8 q V, Nat.mul_assoc 8 (n * P1074) V, Nat.mul_comm P1074 V, eq1]
        exact goal2
  obtain ⟨k1, k2⟩ := key _ rfl
  obtain ⟨w1, w2⟩ := whole_near hn k1 k2
  rw [Nat.min_eq_left (by have := K9_lt; omega)]
  exact w2
/-- the product of a whole number and a unit -/
theorem times_bits {n : Int} {v : Nat} (hn : n.natAbs ≤ 1000000) (hv : rung single v < single.infRung) (hb : mg single (rung single v) ≤ 2 ^ 233) :
    ∃ r x, floatBits .mul .f64 (floatOfInt .f64 n) (widen v) = some r ∧ floatToFloatBits .f64 r .f32 = some x ∧ x = single.word (decide (n < 0) ^^ sgn single v) (rr single (n.natAbs * mg single (rung single v)) 1) ∧ rr single (n.natAbs * mg single (rung single v)) 1 < single.infRung := by
  have hA := A_sp (m := n.natAbs) (by omega)
  have hAw : A n.natAbs 149 < double.signWeight := Nat.lt_trans hA.1 (inf_lt double)
  have r1 : rung double (floatOfInt .f64 n) = A n.natAbs 149 := by rw [ofIntI (by omega), rung_word double _ hAw]
  have s1 : sgn double (floatOfInt .f64 n) = decide (n < 0) := by rw [ofIntI (by omega), sgn_word double _ hAw]
  have r2 : rung double (widen v) = wr (rung single v) := by rw [rung_widen, if_pos hv]
  have hm := mul_rr double least_le64 (x := floatOfInt .f64 n) (y := widen v) (by rw [r1]; exact hA.1) (by rw [r2]; exact (wr_spec hv).1)
  rw [r1, r2, s1, sgn_widen] at hm
  generalize hV : rung single v = V at *
  generalize hN : n.natAbs = N at *
  have hvs := mg_ss single V
  have hss := ss_single V
  -- the product of the two is had exactly
  have hprod : N * ss single V < 17592186044416 := by
    have := Nat.mul_le_mul hn (show ss single V ≤ 16777216 by omega)
    omega
  obtain ⟨R, hR⟩ := mg_surj double (qq single V + W) (N * ss single V) (by rw [binade_double]; omega)
  have hRm : mg double R = N * mg single V * 2 ^ W := by
    rw [hR, Nat.pow_add, hvs]
    generalize 2 ^ W = a
    ac_rfl
  have hNV : N * mg single V ≤ 2 ^ 253 := by
    have := Nat.mul_le_mul (show N ≤ 2 ^ 20 by omega) hb
    rw [← Nat.pow_add] at this
    exact this
  have hRi : R < double.infRung := by
    rw [← mg_lt_iff double, hRm, mg_inf_double]
    calc N * mg single V * 2 ^ W ≤ 2 ^ 253 * 2 ^ W := Nat.mul_le_mul_right _ hNV
      _ = 1 * 2 ^ (253 + W) := by rw [Nat.one_mul, Nat.pow_add]
      _ < 4503599627370496 * 2 ^ (253 + W) := Nat.mul_lt_mul_of_pos_right (by omega) (Nat.two_pow_pos _)
      _ ≤ 4503599627370496 * 2 ^ Z := Nat.mul_le_mul_left _ (Nat.pow_le_pow_right (by omega) (by rw [W_eq, Z_eq]; omega))
  have hmr : mulRung double (A N 149) (wr V) = R := by
    unfold mulRung
    rw [hA.2, (wr_spec hv).2, lamPV]
    have : rr double (N * PV * (mg single V * 2 ^ W)) PV = R := rr_exact double R PV_pos (by
      rw [hRm]
      generalize 2 ^ W = a
      generalize PV = b
      ac_rfl)
    rw [this, Nat.min_eq_left (Nat.le_of_lt hRi)]
  rw [hmr] at hm
  have hnr : nrw R = rr single (N * mg single V) 1 := by
    unfold nrw
    rw [hRm]
    exact rr_congr single (Nat.two_pow_pos W) Nat.one_pos (by rw [Nat.mul_one])
  have hfin : rr single (N * mg single V) 1 < single.infRung := by
    obtain ⟨T, hT⟩ := mg_surj single 230 8388608 (by rw [binade_single]; omega)
    refine Nat.lt_of_le_of_lt (rr_le single T Nat.one_pos (by rw [hT, Nat.mul_one]; exact Nat.le_trans hNV (by decide))) ?_
    rw [← mg_lt_iff single, hT, mg_inf_single]
    decide +kernel
  refine ⟨_, _, hm, narrow_sgn _ hRi (by rw [hnr]; exact hfin), by rw [hnr], hfin⟩
end Go.Proofs.Ytkjjeccgmeiniaa.Flt
