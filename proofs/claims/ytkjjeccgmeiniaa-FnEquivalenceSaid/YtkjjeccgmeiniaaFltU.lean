/- Plain facts: the difference of two doubles that come of singles, against a quotient. No program stands here. -/
import Derived.Test.YtkjjeccgmeiniaaFltT
namespace Go.Proofs.Ytkjjeccgmeiniaa.Flt
open Ieee
set_option linter.unusedVariables false
theorem least_le64 : double.leastPlace ≤ 0 := by decide
theorem signed_not (s : Bool) (m e : Nat) : signed (!s) m e = - signed s m e := by
  rw [signed_eq, signed_eq]; cases s <;> simp
theorem sv_signed (f : Format) (w : Nat) : sv f w = signed (sgn f w) (ss f (rung f w)) (qq f (rung f w)) := (sv_num f w _ _ (mg_ss f (rung f w)).symm).symm
/-- the difference of two finite numbers, rounded -/
theorem sub_rr (f : Format) {a b : Nat} (ha : rung f a < f.infRung) (hb : rung f b < f.infRung) :
    ∃ s, f.sub a b = some (f.word s (min (rr f (sv f a - sv f b).natAbs 1) f.infRung)) := by
  rw [sv_signed f a, sv_signed f b]
  unfold Format.sub
  rw [reads_fin f ha, reads_fin f hb]
  generalize ss f (rung f a) = m
  generalize ss f (rung f b) = n
  generalize qq f (rung f a) = i
  generalize qq f (rung f b) = j
  generalize sgn f a = s
  generalize sgn f b = t
  show ∃ s', (Datum.sum (.number s m (f.leastPlace + (i : Int))) (.number (!t) n (f.leastPlace + (j : Int)))).map f.write = _
  unfold Datum.sum
  simp only
  by_cases h : i ≤ j
  · rw [show min (f.leastPlace + (i : Int)) (f.leastPlace + (j : Int)) = f.leastPlace + (i : Int) by omega]
    rw [show (f.leastPlace + (i : Int) - (f.leastPlace + (i : Int))).toNat = 0 by omega, show (f.leastPlace + (j : Int) - (f.leastPlace + (i : Int))).toNat = j - i by omega]
    have e : (signed s m 0 + signed (!t) n (j - i)) * (2 ^ i : Nat) = signed s m i - signed t n j := by
      have h1 := signed_mul s m 0 i
      have h2 := signed_mul (!t) n (j - i) i
      rw [Nat.zero_add] at h1
      rw [Nat.sub_add_cancel h] at h2
      rw [Int.add_mul, ← h1, ← h2, signed_not]; rfl
    generalize signed s m 0 + signed (!t) n (j - i) = T at *
    rw [Option.map_some, write_num, nearest_rr]
    refine ⟨(if T = 0 then s && !t else decide (T < 0)), ?_⟩
    rw [show (f.leastPlace + (i : Int) - f.leastPlace).toNat = i by omega, show (f.leastPlace - (f.leastPlace + (i : Int))).toNat = 0 by omega, Nat.pow_zero, ← e, Int.natAbs_mul, Int.natAbs_natCast]
  · rw [show min (f.leastPlace + (i : Int)) (f.leastPlace + (j : Int)) = f.leastPlace + (j : Int) by omega]
    rw [show (f.leastPlace + (j : Int) - (f.leastPlace + (j : Int))).toNat = 0 by omega, show (f.leastPlace + (i : Int) - (f.leastPlace + (j : Int))).toNat = i - j by omega]
    have e : (signed s m (i - j) + signed (!t) n 0) * (2 ^ j : Nat) = signed s m i - signed t n j := by
      have h1 := signed_mul s m (i - j) j
      have h2 := signed_mul (!t) n 0 j
      rw [Nat.zero_add] at h2
      rw [Nat.sub_add_cancel (by omega)] at h1
      rw [Int.add_mul, ← h1, ← h2, signed_not]; rfl
    generalize signed s m (i - j) + signed (!t) n 0 = T at *
    rw [Option.map_some, write_num, nearest_rr]
    refine ⟨(if T = 0 then s && !t else decide (T < 0)), ?_⟩
    rw [show (f.leastPlace + (j : Int) - f.leastPlace).toNat = j by omega, show (f.leastPlace - (f.leastPlace + (j : Int))).toNat = 0 by omega, Nat.pow_zero, ← e, Int.natAbs_mul, Int.natAbs_natCast]
def leD (x y : Nat) : Bool := FloatKind.f64.format.order x y == some .lt || FloatKind.f64.format.order x y == some .eq
theorem leD_mk {x y : Nat} (nx : isNaN double x = false) (ny : isNaN double y = false) (h : sv double x ≤ sv double y) : leD x y = true := by
  unfold leD
  rw [lt64, eq64]
  unfold ltW eqW
  rw [nx, ny]
  simp
  omega
def P1074 : Nat := 2 ^ lam double
theorem P1074_eq : 2 ^ lam double = P1074 := rfl
theorem P1074_pos : 0 < P1074 := Nat.two_pow_pos _
theorem mg_16000 : mg double 4670021707350671360 = 16000 * P1074 := by decide +kernel
theorem rung_16000 : rung double 4670021707350671360 = 4670021707350671360 := by decide
theorem sgn_16000 : sgn double 4670021707350671360 = false := by decide
theorem word_nan (f : Format) (s : Bool) {r : Nat} (h : r ≤ f.infRung) : isNaN f (f.word s r) = false := by
  unfold isNaN
  rw [rung_word f s (Nat.lt_of_le_of_lt h (inf_lt f))]
  exact decide_eq_false (by omega)
theorem word_sv (f : Format) (s : Bool) {r : Nat} (h : r ≤ f.infRung) : sv f (f.word s r) = if s = true then -((mg f r : Nat) : Int) else ((mg f r : Nat) : Int) := by
  unfold sv
  rw [rung_word f s (Nat.lt_of_le_of_lt h (inf_lt f)), sgn_word f s (Nat.lt_of_le_of_lt h (inf_lt f))]
theorem close_any {v x F K : Nat} (hK1 : rung double K < double.infRung) (hK2 : rung double K ≠ 0) (hK3 : sgn double K = false) (hK4 : mg double (rung double K) = 16000 * P1074) (hv : rung single v < single.infRung) (hx : rung single x < single.infRung) (hF : rung single F < single.infRung) (hs : sgn single F = false)
    (h : 16000 * (sv single v - sv single x).natAbs ≤ mg single (rung single F)) :
    ∃ d q, floatBits .sub .f64 (widen v) (widen x) = some d ∧ floatBits .quo .f64 (widen F) K = some q ∧ leD d q = true ∧ leD (Op.negFloat .f64 d) q = true := by
  have rv := rung_widen v
  have rx := rung_widen x
  have rF := rung_widen F
  rw [if_pos hv] at rv
  rw [if_pos hx] at rx
  rw [if_pos hF] at rF
  have wv := wr_spec hv
  have wx := wr_spec hx
  have wF := wr_spec hF
  obtain ⟨s, hd⟩ := sub_rr double (a := widen v) (b := widen x) (by rw [rv]; exact wv.1) (by rw [rx]; exact wx.1)
  have hq := div_rr double least_le64 (x := widen F) (y := K) (by rw [rF]; exact wF.1) hK1 hK2
  rw [sgn_widen, hs, hK3, Bool.xor_false] at hq
  refine ⟨_, _, hd, hq, ?_⟩
  have hle : min (rr double (sv double (widen v) - sv double (widen x)).natAbs 1) double.infRung ≤ quoRung double (rung double (widen F)) (rung double K) := by
    unfold quoRung
    have hm := rr_mono double (N := (sv double (widen v) - sv double (widen x)).natAbs) (D := 1) (N' := mg double (rung double (widen F)) * 2 ^ lam double) (D' := mg double (rung double K)) Nat.one_pos (by rw [hK4]; exact Nat.mul_pos (by omega) P1074_pos) (by
      rw [sv_widen hv, sv_widen hx, rF, wF.2, P1074_eq, hK4, ← Int.sub_mul, Int.natAbs_mul, Nat.mul_one]
      rw [Int.natAbs_pow, show (2 : Int).natAbs = 2 from rfl]
      generalize 2 ^ W = PW
      generalize P1074 = PP
      rw [show (sv single v - sv single x).natAbs * PW * (16000 * PP) = 16000 * (sv single v - sv single x).natAbs * (PW * PP) by ac_rfl, show mg single (rung single F) * PW * PP = mg single (rung single F) * (PW * PP) by ac_rfl]
      exact Nat.mul_le_mul_right _ h)
    exact Nat.le_min.2 ⟨Nat.le_trans (Nat.min_le_left _ _) hm, Nat.min_le_right _ _⟩
  have hqi : quoRung double (rung double (widen F)) (rung double K) ≤ double.infRung := Nat.min_le_right _ _
  generalize quoRung double (rung double (widen F)) (rung double K) = Q at *
  have hri : min (rr double (sv double (widen v) - sv double (widen x)).natAbs 1) double.infRung ≤ double.infRung := Nat.min_le_right _ _
  generalize min (rr double (sv double (widen v) - sv double (widen x)).natAbs 1) double.infRung = R at *
  have hmg := (mg_le_iff double).2 hle
  have h1 := word_sv double s hri
  have h2 := word_sv double false hqi
  rw [if_neg Bool.false_ne_true] at h2
  have hlt : double.word s R < 2 ^ FloatKind.f64.format.width := word_lt' double s (Nat.lt_of_le_of_lt hri (inf_lt double))
  constructor
  · refine leD_mk (word_nan double s hri) (word_nan double false hqi) ?_
    rw [h1, h2]
    split <;> omega
  · refine leD_mk ?_ (word_nan double false hqi) ?_
    · rw [show isNaN double (Op.negFloat .f64 (double.word s R)) = isNaN double (double.word s R) from isNaN_neg .f64 hlt]
      exact word_nan double s hri
    · rw [show sv double (Op.negFloat .f64 (double.word s R)) = - sv double (double.word s R) from sv_neg .f64 hlt, h1, h2]
      split <;> omega
theorem close64 {v x F : Nat} (hv : rung single v < single.infRung) (hx : rung single x < single.infRung) (hF : rung single F < single.infRung) (hs : sgn single F = false)
    (h : 16000 * (sv single v - sv single x).natAbs ≤ mg single (rung single F)) :
    ∃ d q, floatBits .sub .f64 (widen v) (widen x) = some d ∧ floatBits .quo .f64 (widen F) 4670021707350671360 = some q ∧ leD d q = true ∧ leD (Op.negFloat .f64 d) q = true :=
  close_any (by rw [rung_16000, inf_double]; decide) (by rw [rung_16000]; decide) sgn_16000 (by rw [rung_16000]; exact mg_16000) hv hx hF hs h
end Go.Proofs.Ytkjjeccgmeiniaa.Flt
