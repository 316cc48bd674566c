/- Plain facts: sums of widened singles in a told order, and their mean: no greater than the greatest, no less than the least. No program stands here. -/
import Derived.Test.YtkjjeccgmeiniaaLinD
import Derived.Test.YtkjjeccgmeiniaaFltK
namespace Go.Proofs.Ytkjjeccgmeiniaa.Flt
open Ieee Go.RowKit
set_option linter.unusedVariables false
/-- a finite single -/
def fnS (x : Nat) : Bool := decide (rung single x < single.infRung)
theorem fnS_iff {x : Nat} : fnS x = true ↔ rung single x < single.infRung := decide_eq_true_iff
def addW (a b : Nat) : Nat := (floatBits .add .f64 a b).getD 0
/-- the value of a single, as a double's -/
def vW (x : Nat) : Int := sv double (widen x)
theorem vW_eq {x : Nat} (h : fnS x = true) : vW x = if sgn single x = true then -((mg double (wr (rung single x)) : Nat) : Int) else ((mg double (wr (rung single x)) : Nat) : Int) := by
  unfold vW sv
  rw [sgn_widen, rung_widen, if_pos (fnS_iff.1 h)]
theorem vW_abs {x : Nat} (h : fnS x = true) : (vW x).natAbs = mg double (wr (rung single x)) := by
  rw [vW_eq h]; split <;> omega
theorem vW_le {x y : Nat} (hx : fnS x = true) (hy : fnS y = true) : vW x ≤ vW y ↔ sv single x ≤ sv single y := by
  unfold vW
  rw [sv_widen (fnS_iff.1 hx), sv_widen (fnS_iff.1 hy)]
  have hp : (0 : Int) < 2 ^ W := Int.pow_pos (by decide)
  generalize (2 : Int) ^ W = p at *
  constructor
  · intro h
    exact Int.le_of_mul_le_mul_right h hp
  · intro h
    exact Int.mul_le_mul_of_nonneg_right h (Int.le_of_lt hp)
/-- small multiples of a single are doubles -/
theorem rep {r k : Nat} (hr : r < single.infRung) (hk : k ≤ 30000) : ∃ R, R < double.infRung ∧ mg double R = k * mg double (wr r) := by
  have hs := ss_lt single r
  rw [binade_single] at hs
  have hq : qq single r ≤ 1000 := by
    unfold qq
    rw [binade_single]
    rw [inf_single] at hr
    omega
  have hm : k * ss single r < 9007199254740992 := by
    have := Nat.mul_le_mul hk (Nat.le_of_lt hs)
    omega
  obtain ⟨h1, h2⟩ := A_spec hm hq
  refine ⟨_, h1, ?_⟩
  rw [h2, (wr_spec hr).2, mg_ss single r, Nat.add_comm W, Nat.pow_add]
  generalize 2 ^ W = p
  generalize 2 ^ qq single r = q
  ac_rfl
theorem rgD_mg {r : Nat} (h : r ≤ double.infRung) : rgD (mg double r) = r := rg_mgD h
/-- between small multiples: so is what is rounded, and finite -/
theorem rnd_between {lo hi k : Nat} {z : Int} (hlo : fnS lo = true) (hhi : fnS hi = true) (hk : k ≤ 30000) (h1 : (k : Int) * vW lo ≤ z) (h2 : z ≤ (k : Int) * vW hi) :
    ((k : Int) * vW lo ≤ rndD z ∧ rndD z ≤ (k : Int) * vW hi) ∧ rgD z.natAbs < double.infRung := by
  obtain ⟨R, r1, r2⟩ := rep (fnS_iff.1 hlo) hk
  obtain ⟨T, t1, t2⟩ := rep (fnS_iff.1 hhi) hk
  have e : ∀ (x Q : Nat), fnS x = true → Q < double.infRung → mg double Q = k * mg double (wr (rung single x)) → rndD ((k : Int) * vW x) = (k : Int) * vW x := fun x Q hx q1 q2 => by
    have ha : ((k : Int) * vW x).natAbs = mg double Q := by rw [Int.natAbs_mul, Int.natAbs_natCast, vW_abs hx, q2]
    rw [rnd_eqD, ha, rgD_mg (Nat.le_of_lt q1), ← ha]
    split <;> omega
  refine ⟨⟨?_, ?_⟩, ?_⟩
  · rw [← e lo R hlo r1 r2]; exact rnd_monoD h1
  · rw [← e hi T hhi t1 t2]; exact rnd_monoD h2
  · have a1 : ((k : Int) * vW lo).natAbs = mg double R := by rw [Int.natAbs_mul, Int.natAbs_natCast, vW_abs hlo, r2]
    have a2 : ((k : Int) * vW hi).natAbs = mg double T := by rw [Int.natAbs_mul, Int.natAbs_natCast, vW_abs hhi, t2]
    rcases Nat.le_total (mg double R) (mg double T) with h | h
    · have := rg_monoD (show z.natAbs ≤ mg double T by omega)
      rw [rgD_mg (Nat.le_of_lt t1)] at this
      omega
    · have := rg_monoD (show z.natAbs ≤ mg double R by omega)
      rw [rgD_mg (Nat.le_of_lt r1)] at this
      omega
/-- a finite double between the k-fold bounds -/
structure Bd (lo hi k a : Nat) : Prop where
  w : a < 18446744073709551616
  f : rung double a < double.infRung
  l : (k : Int) * vW lo ≤ sv double a
  h : sv double a ≤ (k : Int) * vW hi
theorem Bd.zero (lo hi : Nat) : Bd lo hi 0 0 := by
  have h0 : rung double 0 = 0 := by decide
  have hs : sv double 0 = 0 := (sv_eq_zero double).2 h0
  exact ⟨by omega, by rw [h0, inf_double]; omega, by rw [hs]; simp, by rw [hs]; simp⟩
theorem Bd.step {lo hi k a x : Nat} (hlo : fnS lo = true) (hhi : fnS hi = true) (h : Bd lo hi k a) (hx : fnS x = true) (h1 : sv single lo ≤ sv single x) (h2 : sv single x ≤ sv single hi) (hk : k + 1 ≤ 30000) :
    floatBits .add .f64 a (widen x) = some (addW a (widen x)) ∧ Bd lo hi (k + 1) (addW a (widen x)) ∧ sv double (addW a (widen x)) = rndD (sv double a + vW x) := by
  have fx : rung double (widen x) < double.infRung := by
    rw [rung_widen, if_pos (fnS_iff.1 hx)]; exact (wr_spec (fnS_iff.1 hx)).1
  obtain ⟨r, e1, e2, e3, e4, e5⟩ := add_valD h.f fx
  have hr : addW a (widen x) = r := by unfold addW; rw [e1]; rfl
  rw [hr]
  have v1 := (vW_le hlo hx).2 h1
  have v2 := (vW_le hx hhi).2 h2
  have m1 : ((k + 1 : Nat) : Int) * vW lo = (k : Int) * vW lo + vW lo := by rw [Int.natCast_succ, Int.add_mul, Int.one_mul]
  have m2 : ((k + 1 : Nat) : Int) * vW hi = (k : Int) * vW hi + vW hi := by rw [Int.natCast_succ, Int.add_mul, Int.one_mul]
  have b1 := h.l
  have b2 := h.h
  obtain ⟨⟨p1, p2⟩, p3⟩ := rnd_between (z := sv double a + vW x) hlo hhi hk (by omega) (by omega)
  refine ⟨e1, ⟨e2, ?_, ?_, ?_⟩, e5⟩
  · rw [e4]; exact p3
  · rw [e5]; exact p1
  · rw [e5]; exact p2
/-- the elements, added one after another -/
def sumF (a : Nat) (xs : List Nat) : Nat := xs.foldl (fun s x => addW s (widen x)) a
theorem sumF_snoc (a : Nat) (xs : List Nat) (x : Nat) : sumF a (xs ++ [x]) = addW (sumF a xs) (widen x) := by unfold sumF; simp
theorem Bd.sum {lo hi : Nat} (hlo : fnS lo = true) (hhi : fnS hi = true) : ∀ (xs : List Nat) (k a : Nat), Bd lo hi k a → (∀ x ∈ xs, fnS x = true ∧ sv single lo ≤ sv single x ∧ sv single x ≤ sv single hi) → k + xs.length ≤ 30000 → Bd lo hi (k + xs.length) (sumF a xs)
  | [], k, a, h, _, _ => h
  | x :: r, k, a, h, hx, hk => by
    obtain ⟨f, l, u⟩ := hx x (by simp)
    simp only [List.length_cons] at hk ⊢
    have := Bd.sum hlo hhi r (k + 1) (addW a (widen x)) (h.step hlo hhi f l u (by omega)).2.1 (fun y hy => hx y (by simp [hy])) (by omega)
    rw [show k + (r.length + 1) = k + 1 + r.length by omega]
    exact this
/-! the mean -/
theorem narrow_sgn {r : Nat} (s : Bool) (h : r < double.infRung) (h2 : nrw r < single.infRung) : floatToFloatBits .f64 (double.word s r) .f32 = some (single.word s (nrw r)) := by
  have hw : r < double.signWeight := Nat.lt_trans h (inf_lt double)
  have hr := reads_fin double (w := double.word s r) (by rw [rung_word double s hw]; exact h)
  rw [rung_word double s hw, sgn_word double s hw] at hr
  unfold floatToFloatBits
  rw [if_neg (by decide)]
  have hdec : FloatKind.f64.decode (double.word s r) = double.read (double.word s r) := rfl
  rw [hdec, hr]
  have hn : FloatKind.f32.encode (.number s (ss double r) (double.leastPlace + (qq double r : Int))) = single.word s (nrw r) := by
    show single.nearest _ _ _ = _
    rw [nearest_rr]
    have hc : rr single (ss double r * 2 ^ (double.leastPlace + (qq double r : Int) - single.leastPlace).toNat) (2 ^ (single.leastPlace - (double.leastPlace + (qq double r : Int))).toNat) = nrw r := by
      unfold nrw
      refine rr_congr single (Nat.two_pow_pos _) (Nat.two_pow_pos _) ?_
      rw [mg_ss double r, pow2_mul, pow2_mul]
      congr 2
      rw [least_double, least_single, W_eq]
      omega
    rw [hc, Nat.min_eq_left (Nat.le_of_lt h2)]
  simp only [hn]
  have hi : (FloatKind.f32.decode (single.word s (nrw r))).isInfinity = false := isInf_read single hs s h2
  rw [hi]; rfl
theorem nrw_wr {r : Nat} (h : r < single.infRung) : nrw (wr r) = r := by
  unfold nrw
  exact rr_exact single r (Nat.two_pow_pos _) (wr_spec h).2
/-- the rung of the mean of an amount -/
def mn (N n : Nat) : Nat := nrw (min (rr double N n) double.infRung)
theorem mn_le {N n r : Nat} (hn : 0 < n) (hr : r < single.infRung) (h : N ≤ n * mg double (wr r)) : min (rr double N n) double.infRung < double.infRung ∧ mn N n ≤ r := by
  have h1 : rr double N n ≤ wr r := rr_le double (wr r) hn (by rw [Nat.mul_comm]; exact h)
  have h2 := (wr_spec hr).1
  refine ⟨by omega, ?_⟩
  unfold mn
  have := nrw_mono (show min (rr double N n) double.infRung ≤ wr r by omega)
  rw [nrw_wr hr] at this
  exact this
theorem mn_ge {N n r : Nat} (hn : 0 < n) (hr : r < single.infRung) (h : n * mg double (wr r) ≤ N) : r ≤ mn N n := by
  have h1 : wr r ≤ rr double N n := rr_ge double (wr r) hn (by rw [Nat.mul_comm]; exact h)
  have h2 := (wr_spec hr).1
  unfold mn
  have := nrw_mono (show wr r ≤ min (rr double N n) double.infRung by omega)
  rw [nrw_wr hr] at this
  exact this
def quoW (s n : Nat) : Nat := (floatBits .quo .f64 s (floatOfInt .f64 (n : Int))).getD 0
def meanW (s n : Nat) : Nat := (floatToFloatBits .f64 (quoW s n) .f32).getD 0
theorem mean_bd {lo hi n s : Nat} (hlo : fnS lo = true) (hhi : fnS hi = true) (hn : 1 ≤ n) (hn2 : n ≤ 30000) (h : Bd lo hi n s) :
    floatBits .quo .f64 s (floatOfInt .f64 (n : Int)) = some (quoW s n) ∧ floatToFloatBits .f64 (quoW s n) .f32 = some (meanW s n) ∧ meanW s n < 4294967296 ∧ fnS (meanW s n) = true ∧ sv single lo ≤ sv single (meanW s n) ∧ sv single (meanW s n) ≤ sv single hi := by
  have hA := A_sp (m := n) (by omega)
  have hq : floatBits .quo .f64 s (floatOfInt .f64 (n : Int)) = some (double.word (sgn double s) (min (rr double (mg double (rung double s)) n) double.infRung)) := by
    rw [ofIntA (by omega)]
    show double.div _ _ = _
    rw [div_rr double least_le_d h.f (by rw [rung_A (by omega) (by omega)]; exact hA.1) (mg_A_pos (by omega) (by omega)), sgn_A (by omega) (by omega), Bool.xor_false, rung_A (by omega) (by omega)]
    unfold quoRung
    rw [hA.2, lamPV]
    rw [rr_congr double (N := mg double (rung double s) * PV) (D := n * PV) (N' := mg double (rung double s)) (D' := n) (Nat.mul_pos (by omega) PV_pos) (by omega) (by generalize PV = p; ac_rfl)]
  have hqW : quoW s n = double.word (sgn double s) (min (rr double (mg double (rung double s)) n) double.infRung) := by unfold quoW; rw [hq]; rfl
  have hs := sv_abs double s
  obtain ⟨N, hN⟩ : ∃ N, mg double (rung double s) = N := ⟨_, rfl⟩
  have vs : sv double s = if sgn double s = true then -(N : Int) else (N : Int) := by unfold sv; rw [hN]
  rw [hN] at hq hqW
  have hL := h.l
  have hH := h.h
  rw [vs, vW_eq hlo] at hL
  rw [vs, vW_eq hhi] at hH
  have rlo := fnS_iff.1 hlo
  have rhi := fnS_iff.1 hhi
  -- the bounds of the amount
  have key : min (rr double N n) double.infRung < double.infRung ∧ mn N n < single.infRung ∧
      (sv single lo ≤ (if sgn double s = true then -((mg single (mn N n) : Nat) : Int) else ((mg single (mn N n) : Nat) : Int)) ∧ (if sgn double s = true then -((mg single (mn N n) : Nat) : Int) else ((mg single (mn N n) : Nat) : Int)) ≤ sv single hi) := by
    have up : ∀ r, r < single.infRung → (N : Int) ≤ (n : Int) * ((mg double (wr r) : Nat) : Int) → min (rr double N n) double.infRung < double.infRung ∧ mn N n ≤ r := fun r hr hle => mn_le (by omega) hr (by exact_mod_cast hle)
    have dn : ∀ r, r < single.infRung → (n : Int) * ((mg double (wr r) : Nat) : Int) ≤ (N : Int) → r ≤ mn N n := fun r hr hle => mn_ge (by omega) hr (by exact_mod_cast hle)
    have mono : ∀ r s : Nat, r ≤ s → ((mg single r : Nat) : Int) ≤ ((mg single s : Nat) : Int) := fun r s hrs => by exact_mod_cast mg_le single hrs
    have pos : ∀ r : Nat, (0 : Int) ≤ (n : Int) * ((mg double (wr r) : Nat) : Int) := fun r => Int.mul_nonneg (by omega) (by omega)
    have p1 := pos (rung single lo)
    have p2 := pos (rung single hi)
    unfold sv
    cases hsg : sgn double s
    · simp only [hsg, Bool.false_eq_true, if_false] at hL hH ⊢
      cases hsh : sgn single hi
      · simp only [hsh, Bool.false_eq_true, if_false] at hH ⊢
        obtain ⟨u1, u2⟩ := up _ rhi hH
        refine ⟨u1, by omega, ?_, mono _ _ u2⟩
        cases hsl : sgn single lo
        · simp only [hsl, Bool.false_eq_true, if_false] at hL ⊢
          exact mono _ _ (dn _ rlo hL)
        · simp only [if_true]
          omega
      · simp only [hsh, if_true] at hH ⊢
        rw [Int.mul_neg] at hH
        -- the amount is nothing, and hi is a zero
        obtain ⟨u1, u2⟩ := up _ rhi (by omega)
        have z : N = 0 := by omega
        have z2 : (n : Int) * ((mg double (wr (rung single hi)) : Nat) : Int) = 0 := by omega
        have z3 : mg double (wr (rung single hi)) = 0 := by
          rcases Int.mul_eq_zero.1 z2 with e | e
          · omega
          · exact_mod_cast e
        have z4 : rung single hi = 0 := by
          have := (wr_spec rhi).2
          rw [z3] at this
          have h3 := Nat.two_pow_pos W
          rcases Nat.mul_eq_zero.1 this.symm with e | e
          · exact (mg_eq_zero single).1 e
          · omega
        rw [z4] at u2
        have z5 : mn N n = 0 := by omega
        rw [z5, z4, mg_zero]
        refine ⟨u1, by rw [inf_single]; omega, ?_, by simp⟩
        cases hsl : sgn single lo
        · simp only [hsl, Bool.false_eq_true, if_false] at hL ⊢
          have := dn _ rlo hL
          rw [z5] at this
          rw [show rung single lo = 0 by omega, mg_zero]; simp
        · simp
    · simp only [hsg, if_true] at hL hH ⊢
      cases hsl : sgn single lo
      · simp only [hsl, Bool.false_eq_true, if_false] at hL ⊢
        obtain ⟨u1, u2⟩ := up _ rlo (by omega)
        have z : N = 0 := by omega
        have z2 : (n : Int) * ((mg double (wr (rung single lo)) : Nat) : Int) = 0 := by omega
        have z3 : mg double (wr (rung single lo)) = 0 := by
          rcases Int.mul_eq_zero.1 z2 with e | e
          · omega
          · exact_mod_cast e
        have z4 : rung single lo = 0 := by
          have := (wr_spec rlo).2
          rw [z3] at this
          have h3 := Nat.two_pow_pos W
          rcases Nat.mul_eq_zero.1 this.symm with e | e
          · exact (mg_eq_zero single).1 e
          · omega
        rw [z4] at u2
        have z5 : mn N n = 0 := by omega
        rw [z5, z4, mg_zero]
        refine ⟨u1, by rw [inf_single]; omega, by simp, ?_⟩
        cases hsh : sgn single hi
        · simp
        · simp only [hsh, if_true] at hH ⊢
          rw [Int.mul_neg] at hH
          have := dn _ rhi (by omega)
          rw [z5] at this
          rw [show rung single hi = 0 by omega, mg_zero]; simp
      · simp only [hsl, if_true] at hL ⊢
        rw [Int.mul_neg] at hL
        obtain ⟨u1, u2⟩ := up _ rlo (by omega)
        refine ⟨u1, by omega, ?_, ?_⟩
        · have := mono _ _ u2
          omega
        · cases hsh : sgn single hi
          · simp only [Bool.false_eq_true, if_false]
            omega
          · simp only [hsh, if_true] at hH ⊢
            rw [Int.mul_neg] at hH
            have := mono _ _ (dn _ rhi (by omega))
            omega
  obtain ⟨k1, k2, k3, k4⟩ := key
  have hm : floatToFloatBits .f64 (quoW s n) .f32 = some (single.word (sgn double s) (mn N n)) := by rw [hqW]; exact narrow_sgn _ k1 k2
  have hmW : meanW s n = single.word (sgn double s) (mn N n) := by unfold meanW; rw [hm]; rfl
  have hw : mn N n < single.signWeight := Nat.lt_trans k2 (inf_lt single)
  have vm : sv single (meanW s n) = if sgn double s = true then -((mg single (mn N n) : Nat) : Int) else ((mg single (mn N n) : Nat) : Int) := by
    rw [hmW]; exact word_sv single _ (Nat.le_of_lt k2)
  refine ⟨by rw [hq, hqW], by rw [hm, hmW], by rw [hmW]; exact word_lt32 _ hw, ?_, by rw [vm]; exact k3, by rw [vm]; exact k4⟩
  rw [hmW]
  exact fnS_iff.2 (by rw [rung_word single _ hw]; exact k2)
end Go.Proofs.Ytkjjeccgmeiniaa.Flt
