/- Plain facts for the drawn spans: small numbers, sums, made singles, the next single of a small one. -/
import Derived.Test.YtjmmcpeknaaaiaaSpnQ
import Derived.Test.YtjmmcpeknaaaiaaMil
import Derived.Test.YtjmmcpeknaaaiaaMake
namespace Go.Proofs.Ytjmmcpeknaaaiaa.Spn
open Go.RowKit Go.Proofs.Ytjmmcpeknaaaiaa.Flt Go.Proofs.Ytjmmcpeknaaaiaa.Drw
open Ieee (single double)
set_option linter.unusedVariables false
set_option linter.unusedSimpArgs false
/-- at most 2 to the power of 24 -/
def R24 : Nat := 1266679808
def S24 (x : Nat) : Prop := x < 4294967296 ∧ rung single x ≤ R24
theorem S24.sm {x : Nat} (h : S24 x) : Sm x := ⟨h.1, by have := h.2; unfold R24 at this; unfold R25; omega⟩
theorem r200 : natRung 200 ≤ R24 ∧ mg single R24 + mg single (natRung 200) ≤ mg single R25 := by decide +kernel
theorem natRung_le {c : Nat} (h : c ≤ 200) : natRung c ≤ natRung 200 := by
  rw [← mg_le_iff single, (natRung_mg (show c ≤ 32767 by omega)).1, (natRung_mg (show 200 ≤ 32767 by omega)).1]
  exact Nat.mul_le_mul_right _ h
/-- the quotient of two small whole numbers -/
theorem mild_sm {n : Int} {y : Nat} (hn : n.natAbs ≤ 200) (h1 : 1 ≤ y) (h2 : y ≤ 16) : ∃ r, floatBits .quo .f32 (floatOfInt .f32 n) (floatOfInt .f32 (y : Int)) = some r ∧ r < 4294967296 ∧ rung single r ≤ natRung 200 ∧ (0 ≤ n → sgn single r = false) := by
  rw [ofInt_nat (c := y) (by omega)]
  have r1 := ofInt_rung (n := n) (by omega)
  have e2 := natRung_self (c := y) (by omega)
  have h := div_rr single (by decide) (x := floatOfInt .f32 n) (y := natRung y) (by rw [r1]; exact natRung_lt (by omega)) (by rw [e2]; exact natRung_lt (by omega)) (by rw [e2]; exact natRung_ne h1 (by omega))
  rw [r1, e2] at h
  have hle : quoRung single (natRung n.natAbs) (natRung y) ≤ natRung n.natAbs := by
    refine quo_le_of (natRung_ne h1 (by omega)) (t := natRung n.natAbs) ?_
    refine Nat.mul_le_mul_left _ ?_
    rw [(natRung_mg (show y ≤ 32767 by omega)).1]
    exact Nat.le_mul_of_pos_left _ h1
  have hlt := Nat.lt_of_le_of_lt hle (natRung_lt (show n.natAbs ≤ 32767 by omega))
  have hw := Nat.lt_trans hlt (inf_lt single)
  refine ⟨_, h, word_lt32 _ hw, ?_, fun h0 => ?_⟩
  · rw [rung_word single _ hw]
    exact Nat.le_trans hle (natRung_le hn)
  · rw [sgn_word single _ hw]
    have s1 : sgn single (floatOfInt .f32 n) = false := by
      rw [ofInt32, show decide (n < 0) = false from decide_eq_false (by omega)]
      exact sgn_word single false (Nat.lt_of_le_of_lt (Nat.min_le_right _ _) (inf_lt single))
    have s2 : sgn single (natRung y) = false := by
      have hl := natRung_lt (show y ≤ 32767 by omega)
      have := inf_lt single
      unfold sgn
      rw [Nat.div_eq_of_lt (by omega)]; rfl
    rw [s1, s2]; rfl
/-- a small number and a small one that is not below 0 -/
theorem add_up {a q : Nat} (ha : S24 a) (hq : rung single q ≤ natRung 200) (hs : sgn single q = false) : ∃ r, floatBits .add .f32 a q = some r ∧ Sm r ∧ vW a ≤ vW r := by
  have hqi := natRung_lt (show 200 ≤ 32767 by omega)
  have haf := fnS_iff.1 ha.sm.fn
  obtain ⟨r, h1, h2, h3, h4, h5⟩ := add_val haf (show rung single q < single.infRung by omega)
  have ma := (mg_le_iff single).2 ha.2
  have mq := (mg_le_iff single).2 hq
  have hb : (sv single a + sv single q).natAbs ≤ mg single R25 := by
    have e1 := sv_abs single a
    have e2 := sv_abs single q
    have := r200.2
    omega
  have hr : rung single r ≤ R25 := by
    rw [h4]
    exact Nat.le_trans (Nat.min_le_left _ _) (rr_le single R25 Nat.one_pos (by rw [Nat.mul_one]; exact hb))
  refine ⟨r, h1, ⟨h2, hr⟩, ?_⟩
  rw [vW_le ha.sm.fn (Sm.fn ⟨h2, hr⟩), h5]
  have q0 : 0 ≤ sv single q := by unfold sv; rw [hs]; simp
  have := rnd_mono (show sv single a ≤ sv single a + sv single q by omega)
  rw [rnd_sv (Nat.le_of_lt haf)] at this
  exact this
theorem amount_A {c q : Nat} {e : Int} (hc : c < 9007199254740992) (hq : (q : Int) = 149 + e) (h0 : e ≤ -1) : Mks.amount (c : Int) e = A c q := by
  unfold Mks.amount
  rw [ofIntA hc]
  obtain ⟨k, hk⟩ : ∃ k : Nat, k = 149 := ⟨149, rfl⟩
  rw [← hk, scale_A hc (by omega) (by omega), show ((k : Int) + e).toNat = q by omega]
theorem made_of {s : ByteArray} {a x : Nat} (h : floatToFloatBits .f64 a .f32 = some x) : Mks.made s a = if eqW double (widen x) a = true then Sgd.out s x else (0, false) := by
  unfold Mks.made
  rw [h]
theorem z24 : S24 0 := ⟨by omega, by rw [rung_zero]; exact Nat.zero_le _⟩
theorem e24 : mg single R24 = 16777216 * 2 ^ 149 := by decide +kernel
theorem made_s24 {s : ByteArray} (hp : (s.toList == [43]) = true) {a R : Nat} (h : floatToFloatBits .f64 a .f32 = some R) (hR : R ≤ R24) : S24 (Mks.made s a).1 := by
  have hR' := hR
  unfold R24 at hR'
  rw [made_of h]
  cases eqW double (widen R) a
  · exact z24
  · rw [if_pos rfl]
    unfold Sgd.out
    rw [if_pos hp]
    exact ⟨by show R < _; omega, by show rung single R ≤ _; rw [pos_rung (by omega)]; exact hR⟩
/-- what is made of a sign +, a mantissa and a small exponent -/
theorem make_s24 {s : ByteArray} (hp : (s.toList == [43]) = true) {m e : Int} (h1 : 0 ≤ m) (h2 : m ≤ 16777215) (h3 : -60 ≤ e) (h4 : e ≤ -1) : S24 (Mks.out s m e).1 := by
  obtain ⟨c, rfl⟩ := Int.eq_ofNat_of_zero_le h1
  have hc : c ≤ 16777215 := by omega
  obtain ⟨q, hq⟩ : ∃ q : Nat, (q : Int) = 149 + e := ⟨(149 + e).toNat, by omega⟩
  obtain ⟨R, hR⟩ := mg_surj single q c (by rw [binade_single]; omega)
  have hRle : R ≤ R24 := by
    rw [← mg_le_iff single, hR, e24]
    exact Nat.mul_le_mul (by omega) (Nat.pow_le_pow_right (by omega) (by omega))
  have hRi : R < single.infRung := by unfold R24 at hRle; rw [inf_single]; omega
  obtain ⟨_, _, h⟩ := made_nrw (s := c) (q := q) (by omega) (by omega) hRi hR
  unfold Mks.out
  rw [if_pos ⟨h1, h2, by omega, by omega⟩, amount_A (by omega) hq h4]
  exact made_s24 hp h hRle
/-- the next one of a small single -/
theorem nu_sm {x : Nat} (h : S24 x) : Sm (nuW x) ∧ vW x ≤ vW (nuW x) := by
  have hf := fnS_iff.1 h.sm.fn
  have hxi : ¬ (sgn single x = false ∧ rung single x = single.infRung) := fun e => by omega
  obtain ⟨u1, u2, u3, _⟩ := nu_facts (fn_num h.sm.fn) hxi
  have h2 := h.2
  unfold R24 at h2
  have hsw := sw_single
  have hr : rung single (nuW x) ≤ R25 := by
    unfold R25 nuW
    cases hs : sgn single x
    · rw [if_pos rfl, if_neg (by omega), rung_word single _ (by omega)]; omega
    · rw [if_neg (by simp)]
      by_cases c0 : rung single x = 0
      · rw [if_pos c0, rung_word single _ (by omega)]; omega
      · by_cases c1 : rung single x = 1
        · rw [if_neg c0, if_pos c1, rung_zero]; omega
        · rw [if_neg c0, if_neg c1, rung_word single _ (by omega)]; omega
  have hS : Sm (nuW x) := ⟨u2, hr⟩
  refine ⟨hS, ?_⟩
  rw [vW_le h.sm.fn hS.fn]
  omega
end Go.Proofs.Ytjmmcpeknaaaiaa.Spn
