/- Units and their values: facts on what MakeSingle makes. -/
import Derived.Test.YtkjjeccgmeiniaaScaler
import Derived.Test.YtkjjeccgmeiniaaQtm
import Derived.Test.YtkjjeccgmeiniaaMathC
import Derived.Handy
import Derived.KernelRfl
namespace Go.Proofs.Ytkjjeccgmeiniaa.Flt
end Go.Proofs.Ytkjjeccgmeiniaa.Flt
namespace Go.Proofs.Ytkjjeccgmeiniaa.Mth
end Go.Proofs.Ytkjjeccgmeiniaa.Mth
namespace Go.Proofs.Ytkjjeccgmeiniaa.Qtm
open Go.ChangeShapes Go.WideShapes Go.ChangeAt Go.RowKit Go.Proofs.Ytkjjeccgmeiniaa Go.Proofs.Ytkjjeccgmeiniaa.Flt Go.Proofs.Ytkjjeccgmeiniaa.Mth
open Ieee (single double)
set_option linter.unusedVariables false
set_option linter.unusedSimpArgs false
/-- a unit as a value -/
def uv (s : ByteArray) (m e : Int) : Value := .agg #[.string s, .int .i64 m, .int .i64 e]
def uOut (s : ByteArray) (m e : Int) : Nat × Bool := if (Mks.out s m e).2 = true ∧ eqW single (Mks.out s m e).1 0 = false then ((Mks.out s m e).1, true) else (0, false)
theorem amountA {c : Nat} {e : Int} (hc : c < 9007199254740992) (h0 : -149 ≤ e) (h1 : e ≤ 127) : Mks.amount (c : Int) e = A c (149 + e).toNat := by
  unfold Mks.amount
  rw [ofIntA hc]
  obtain ⟨k, hk⟩ : ∃ k : Nat, k = 149 := ⟨149, rfl⟩
  rw [← hk, scale_A hc (by omega) (by omega), show ((k : Int) + e).toNat = (149 + e).toNat by omega]
theorem sv_abs (f : Ieee.Format) (w : Nat) : (sv f w).natAbs = mg f (rung f w) := by
  unfold sv; split <;> omega
/-- what a sign makes of a number -/
theorem sgd_cases (s : ByteArray) (x : Nat) (hx : x < 4294967296) : Sgd.out s x = (0, false) ∨ ((Sgd.out s x).2 = true ∧ (Sgd.out s x).1 < 4294967296 ∧ rung single (Sgd.out s x).1 = rung single x) := by
  unfold Sgd.out
  split
  · exact .inr ⟨rfl, hx, rfl⟩
  · split
    · refine .inr ⟨rfl, ?_, rung_neg .f32 (w := x) (by show x < 2 ^ single.width; rw [width_single]; exact hx)⟩
      have := neg_lt .f32 (w := x) (by show x < 2 ^ single.width; rw [width_single]; exact hx)
      rw [← width_single]; exact this
    · exact .inl rfl
theorem made_some {s : ByteArray} {a x : Nat} (h : floatToFloatBits .f64 a .f32 = some x) : Mks.made s a = if eqW double (widen x) a = true then Sgd.out s x else (0, false) := by
  unfold Mks.made
  rw [h]
theorem made_none {s : ByteArray} {a : Nat} (h : floatToFloatBits .f64 a .f32 = none) : Mks.made s a = (0, false) := by
  unfold Mks.made
  rw [h]
/-- what has been made is finite -/
theorem out_cases (s : ByteArray) (m e : Int) : Mks.out s m e = (0, false) ∨ ((Mks.out s m e).2 = true ∧ (Mks.out s m e).1 < 4294967296 ∧ rung single (Mks.out s m e).1 < single.infRung) := by
  unfold Mks.out
  split
  · rename_i h
    obtain ⟨c, rfl⟩ := Int.eq_ofNat_of_zero_le h.1
    rw [amountA (by omega) h.2.2.1 h.2.2.2]
    have hq : (149 + e).toNat ≤ 1000 := by omega
    have hc : c < 9007199254740992 := by omega
    generalize (149 + e).toNat = q at *
    have a1 := (A_spec (m := c) (q := q) hc hq).1
    have a3 := A_lt (m := c) (q := q) hc hq
    have a4 := rung_A (m := c) (q := q) hc hq
    generalize A c q = a at *
    clear h hq hc
    cases hx : floatToFloatBits .f64 a .f32 with
    | none => rw [made_none hx]; exact .inl rfl
    | some x =>
      rw [made_some hx]
      cases heq : eqW double (widen x) a
      · rw [if_neg Bool.false_ne_true]; exact .inl rfl
      · rw [if_pos rfl]
        have hxl : x < 4294967296 := floatToFloat_lt hx (wf_double (by omega))
        have hfin : rung single x < single.infRung := by
          refine Nat.lt_of_not_le fun hge => ?_
          have hsv : sv double (widen x) = sv double a := by
            unfold eqW at heq
            simp only [Bool.and_eq_true, decide_eq_true_eq] at heq
            exact heq.2
          have h1 : mg double (rung double (widen x)) = mg double (rung double a) := by rw [← sv_abs, ← sv_abs, hsv]
          rw [rung_widen, if_neg (Nat.not_lt.2 hge), a4, mg_inj] at h1
          rw [h1] at a1
          exact Nat.lt_irrefl _ a1
        rcases sgd_cases s x hxl with h | ⟨h1, h2, h3⟩
        · exact .inl h
        · exact .inr ⟨h1, h2, by rw [h3]; exact hfin⟩
  · exact .inl rfl
/-- a unit has no value, or a finite one that is not 0 -/
theorem unit_cases (s : ByteArray) (m e : Int) : uOut s m e = (0, false) ∨ ∃ v, uOut s m e = (v, true) ∧ v < 4294967296 ∧ rung single v < single.infRung ∧ rung single v ≠ 0 := by
  unfold uOut
  split
  · rename_i h
    rcases out_cases s m e with h0 | ⟨_, h2, h3⟩
    · rw [h0] at h; cases h.1
    · refine .inr ⟨_, rfl, h2, h3, fun h4 => ?_⟩
      have := h.2
      rw [eqW_zero _ (isNaN_rung0 _ h4), decide_eq_true h4] at this
      cases this
  · exact .inl rfl
def plus : ByteArray := ⟨#[43]⟩
def minus : ByteArray := ⟨#[45]⟩
theorem plus_l : plus.toList = [43] := by decide +kernel
theorem minus_l : minus.toList = [45] := by decide +kernel
/-- the rung of a drawn unit -/
def uRung (m e : Int) : Nat := rr single (m.toNat * 2 ^ (149 + e).toNat) 1
theorem unit_drawn {b : Bool} {m e : Int} (h1 : 1 ≤ m) (h2 : m ≤ 16777215) (h3 : -149 ≤ e) (h4 : e ≤ 60) :
    uOut (if b = true then minus else plus) m e = (single.word b (uRung m e), true) ∧ uRung m e < single.infRung ∧ uRung m e ≠ 0 ∧ mg single (uRung m e) ≤ 2 ^ 233 := by
  obtain ⟨c, rfl⟩ := Int.eq_ofNat_of_zero_le (show 0 ≤ m by omega)
  have hA := amountA (c := c) (e := e) (by omega) h3 (by omega)
  unfold uRung
  have hq : (149 + e).toNat ≤ 209 := by omega
  rw [show ((c : Int)).toNat = c by omega]
  generalize (149 + e).toNat = q at *
  obtain ⟨R, hR⟩ := mg_surj single q c (by rw [binade_single]; omega)
  have hrr : rr single (c * 2 ^ q) 1 = R := rr_exact single R Nat.one_pos (by rw [hR, Nat.mul_one])
  rw [hrr]
  have hle : c * 2 ^ q ≤ 2 ^ 233 := by
    have := Nat.mul_le_mul (show c ≤ 2 ^ 24 by omega) (Nat.pow_le_pow_right (n := 2) (by omega) hq)
    rw [← Nat.pow_add] at this
    exact this
  have hRi : R < single.infRung := by
    rw [← mg_lt_iff single, hR, mg_inf_single]
    exact Nat.lt_of_le_of_lt hle (by decide +kernel)
  have hR0 : R ≠ 0 := by
    intro h
    rw [h, mg_zero] at hR
    exact Nat.ne_of_gt (Nat.mul_pos (by omega) (Nat.two_pow_pos q)) hR.symm
  have hRs : R < single.signWeight := Nat.lt_trans hRi (Ieee.Format.infRung_lt single)
  have hRl : R < 2139095040 := by rw [← inf_single]; exact hRi
  have hc : c < 9007199254740992 := by omega
  have hc1 : c ≤ 16777216 := by omega
  have hc0 : (0 : Int) ≤ (c : Int) ∧ (c : Int) ≤ 16777215 ∧ -149 ≤ e ∧ e ≤ 127 := by omega
  have hq1 : q ≤ 1000 := by omega
  have hq3 : q ≤ 300 := by omega
  obtain ⟨_, _, hn⟩ := made_nrw (s := c) (q := q) hc1 hq3 hRi hR
  have hp := pos_rung hRl
  have hnan := pos_nan hRl
  have hsg := pos_sgn hRl
  have heq : eqW double (widen R) (A c q) = true := by
    unfold eqW
    have ewd : widen R = wr R := by unfold widen; rw [hsg, hp, if_pos hRi, word_false]
    have esv : sv double (widen R) = ((mg double (wr R) : Nat) : Int) := by
      rw [ewd]
      unfold sv
      rw [pos_sgnD (wr_spec hRi).1, pos_rungD (wr_spec hRi).1]
      rfl
    rw [isNaN_widen, nan_A hc hq1, esv, sv_A hc hq1, (wr_spec hRi).2, hR]
    simp only [Bool.not_false, Bool.true_and, decide_eq_true_eq]
    refine congrArg Int.ofNat ?_
    rw [Nat.mul_assoc, ← Nat.pow_add, Nat.add_comm q W]
  have hmade : ∀ s, Mks.out s (c : Int) e = Sgd.out s R := by
    intro s
    unfold Mks.out
    rw [if_pos hc0, hA]
    rw [made_some hn, heq, if_pos rfl]
  have hw : R < 2 ^ single.width := by rw [width_single]; exact Nat.lt_trans hRl (by decide)
  refine ⟨?_, hRi, hR0, by rw [hR]; exact hle⟩
  cases b
  · have ho : Mks.out plus (c : Int) e = (R, true) := by rw [hmade]; unfold Sgd.out; rw [plus_l]; rfl
    rw [if_neg Bool.false_ne_true]
    unfold uOut
    rw [ho, if_pos ⟨rfl, by show eqW single R 0 = false; rw [eqW_zero _ hnan, hp]; exact decide_eq_false hR0⟩, word_false]
  · have ho : Mks.out minus (c : Int) e = (single.word true R, true) := by
      rw [hmade]
      unfold Sgd.out
      rw [minus_l]
      have := neg_eq .f32 (w := R) hw
      rw [if_neg (by decide), if_pos (by decide), this]
      have hs : sgn FloatKind.f32.format R = false := hsg
      rw [hs]
      show (single.word (!false) (rung single R), true) = _
      rw [hp]; rfl
    rw [if_pos rfl]
    unfold uOut
    have hz : eqW single (single.word true R) 0 = false := by
      rw [eqW_zero _ (word_nan single true (Nat.le_of_lt hRi)), rung_word single true hRs]
      exact decide_eq_false hR0
    rw [ho, if_pos ⟨rfl, hz⟩]
end Go.Proofs.Ytkjjeccgmeiniaa.Qtm
