/- Several texts in one: QtmV, QtmU, QtmQ, QtmB, QtmI, QtmN, QtmD, QtmE, QtmF, QtmG, QtmH. -/
import Derived.Test.YtkjjeccgmeiniaaScaler
import Derived.Test.YtkjjeccgmeiniaaQtm
import Derived.Test.YtkjjeccgmeiniaaMathC
import Derived.Handy
import Derived.KernelRfl
import Derived.Laws.FloatArith
import Derived.Test.YtkjjeccgmeiniaaSpnT
import Derived.Test.YtkjjeccgmeiniaaFltV
import Derived.Test.YtkjjeccgmeiniaaDrawF
import Derived.Test.YtkjjeccgmeiniaaDrawM
import Derived.Deep.RegionHeld
/- Units and their values: facts on what MakeSingle makes. -/
namespace Go.Proofs.Ytkjjeccgmeiniaa.Qtm
open Go.ChangeShapes Go.WideShapes Go.ChangeAt Go.RowKit Go.Proofs.Ytkjjeccgmeiniaa Go.Proofs.Ytkjjeccgmeiniaa.Flt Go.Proofs.Ytkjjeccgmeiniaa.Mth
open Ieee (single double)
set_option linter.unusedVariables false
set_option linter.unusedSimpArgs false
/-- a unit as a value -/
def uv (s : ByteArray) (m e : Int) : Value := .agg #[.string s, .int .i64 m, .int .i64 e]
def uOut (s : ByteArray) (m e : Int) : Nat × Bool := if (Mks.out s m e).2 = true ∧ eqW single (Mks.out s m e).1 0 = false then ((Mks.out s m e).1, true) else (0, false)
theorem amountA {c : Nat} {e : Int} (hc : c < 9007199254740992) (h0 : -149 ≤ e) (h1 : e ≤ 127) : Mks.amount (c : Int) e = A c (149 + e).toNat := by
  unfold Mks.amount
  rw [ofIntA hc]
  obtain ⟨k, hk⟩ : ∃ k : Nat, k = 149 := ⟨149, rfl⟩
  rw [← hk, scale_A hc (by omega) (by omega), show ((k : Int) + e).toNat = (149 + e).toNat by omega]
theorem sv_abs (f : Ieee.Format) (w : Nat) : (sv f w).natAbs = mg f (rung f w) := by
  unfold sv; split <;> omega
/-- what a sign makes of a number -/
theorem sgd_cases (s : ByteArray) (x : Nat) (hx : x < 4294967296) : Sgd.out s x = (0, false) ∨ ((Sgd.out s x).2 = true ∧ (Sgd.out s x).1 < 4294967296 ∧ rung single (Sgd.out s x).1 = rung single x) := by
  unfold Sgd.out
  split
  · exact .inr ⟨rfl, hx, rfl⟩
  · split
    · refine .inr ⟨rfl, ?_, rung_neg .f32 (w := x) (by show x < 2 ^ single.width; rw [width_single]; exact hx)⟩
      have := neg_lt .f32 (w := x) (by show x < 2 ^ single.width; rw [width_single]; exact hx)
      rw [← width_single]; exact this
    · exact .inl rfl
theorem made_some {s : ByteArray} {a x : Nat} (h : floatToFloatBits .f64 a .f32 = some x) : Mks.made s a = if eqW double (widen x) a = true then Sgd.out s x else (0, false) := by
  unfold Mks.made
  rw [h]
theorem made_none {s : ByteArray} {a : Nat} (h : floatToFloatBits .f64 a .f32 = none) : Mks.made s a = (0, false) := by
  unfold Mks.made
  rw [h]
/-- what has been made is finite -/
theorem out_cases (s : ByteArray) (m e : Int) : Mks.out s m e = (0, false) ∨ ((Mks.out s m e).2 = true ∧ (Mks.out s m e).1 < 4294967296 ∧ rung single (Mks.out s m e).1 < single.infRung) := by
  unfold Mks.out
  split
  · rename_i h
    obtain ⟨c, rfl⟩ := Int.eq_ofNat_of_zero_le h.1
    rw [amountA (by omega) h.2.2.1 h.2.2.2]
    have hq : (149 + e).toNat ≤ 1000 := by omega
    have hc : c < 9007199254740992 := by omega
    generalize (149 + e).toNat = q at *
    have a1 := (A_spec (m := c) (q := q) hc hq).1
    have a3 := A_lt (m := c) (q := q) hc hq
    have a4 := rung_A (m := c) (q := q) hc hq
    generalize A c q = a at *
    clear h hq hc
    cases hx : floatToFloatBits .f64 a .f32 with
    | none => rw [made_none hx]; exact .inl rfl
    | some x =>
      rw [made_some hx]
      cases heq : eqW double (widen x) a
      · rw [if_neg Bool.false_ne_true]; exact .inl rfl
      · rw [if_pos rfl]
        have hxl : x < 4294967296 := floatToFloat_lt hx (wf_double (by omega))
        have hfin : rung single x < single.infRung := by
          refine Nat.lt_of_not_le fun hge => ?_
          have hsv : sv double (widen x) = sv double a := by
            unfold eqW at heq
            simp only [Bool.and_eq_true, decide_eq_true_eq] at heq
            exact heq.2
          have h1 : mg double (rung double (widen x)) = mg double (rung double a) := by rw [← sv_abs, ← sv_abs, hsv]
          rw [rung_widen, if_neg (Nat.not_lt.2 hge), a4, mg_inj] at h1
          rw [h1] at a1
          exact Nat.lt_irrefl _ a1
        rcases sgd_cases s x hxl with h | ⟨h1, h2, h3⟩
        · exact .inl h
        · exact .inr ⟨h1, h2, by rw [h3]; exact hfin⟩
  · exact .inl rfl
/-- a unit has no value, or a finite one that is not 0 -/
theorem unit_cases (s : ByteArray) (m e : Int) : uOut s m e = (0, false) ∨ ∃ v, uOut s m e = (v, true) ∧ v < 4294967296 ∧ rung single v < single.infRung ∧ rung single v ≠ 0 := by
  unfold uOut
  split
  · rename_i h
    rcases out_cases s m e with h0 | ⟨_, h2, h3⟩
    · rw [h0] at h; cases h.1
    · refine .inr ⟨_, rfl, h2, h3, fun h4 => ?_⟩
      have := h.2
      rw [eqW_zero _ (isNaN_rung0 _ h4), decide_eq_true h4] at this
      cases this
  · exact .inl rfl
def plus : ByteArray := ⟨#[43]⟩
def minus : ByteArray := ⟨#[45]⟩
theorem plus_l : plus.toList = [43] := by decide +kernel
theorem minus_l : minus.toList = [45] := by decide +kernel
/-- the rung of a drawn unit -/
def uRung (m e : Int) : Nat := rr single (m.toNat * 2 ^ (149 + e).toNat) 1
theorem unit_drawn {b : Bool} {m e : Int} (h1 : 1 ≤ m) (h2 : m ≤ 16777215) (h3 : -149 ≤ e) (h4 : e ≤ 60) :
    uOut (if b = true then minus else plus) m e = (single.word b (uRung m e), true) ∧ uRung m e < single.infRung ∧ uRung m e ≠ 0 ∧ mg single (uRung m e) ≤ 2 ^ 233 := by
  obtain ⟨c, rfl⟩ := Int.eq_ofNat_of_zero_le (show 0 ≤ m by omega)
  have hA := amountA (c := c) (e := e) (by omega) h3 (by omega)
  unfold uRung
  have hq : (149 + e).toNat ≤ 209 := by omega
  rw [show ((c : Int)).toNat = c by omega]
  generalize (149 + e).toNat = q at *
  obtain ⟨R, hR⟩ := mg_surj single q c (by rw [binade_single]; omega)
  have hrr : rr single (c * 2 ^ q) 1 = R := rr_exact single R Nat.one_pos (by rw [hR, Nat.mul_one])
  rw [hrr]
  have hle : c * 2 ^ q ≤ 2 ^ 233 := by
    have := Nat.mul_le_mul (show c ≤ 2 ^ 24 by omega) (Nat.pow_le_pow_right (n := 2) (by omega) hq)
    rw [← Nat.pow_add] at this
    exact this
  have hRi : R < single.infRung := by
    rw [← mg_lt_iff single, hR, mg_inf_single]
    exact Nat.lt_of_le_of_lt hle (by decide +kernel)
  have hR0 : R ≠ 0 := by
    intro h
    rw [h, mg_zero] at hR
    exact Nat.ne_of_gt (Nat.mul_pos (by omega) (Nat.two_pow_pos q)) hR.symm
  have hRs : R < single.signWeight := Nat.lt_trans hRi (Ieee.Format.infRung_lt single)
  have hRl : R < 2139095040 := by rw [← inf_single]; exact hRi
  have hc : c < 9007199254740992 := by omega
  have hc1 : c ≤ 16777216 := by omega
  have hc0 : (0 : Int) ≤ (c : Int) ∧ (c : Int) ≤ 16777215 ∧ -149 ≤ e ∧ e ≤ 127 := by omega
  have hq1 : q ≤ 1000 := by omega
  have hq3 : q ≤ 300 := by omega
  obtain ⟨_, _, hn⟩ := made_nrw (s := c) (q := q) hc1 hq3 hRi hR
  have hp := pos_rung hRl
  have hnan := pos_nan hRl
  have hsg := pos_sgn hRl
  have heq : eqW double (widen R) (A c q) = true := by
    unfold eqW
    have ewd : widen R = wr R := by unfold widen; rw [hsg, hp, if_pos hRi, word_false]
    have esv : sv double (widen R) = ((mg double (wr R) : Nat) : Int) := by
      rw [ewd]
      unfold sv
      rw [pos_sgnD (wr_spec hRi).1, pos_rungD (wr_spec hRi).1]
      rfl
    rw [isNaN_widen, nan_A hc hq1, esv, sv_A hc hq1, (wr_spec hRi).2, hR]
    simp only [Bool.not_false, Bool.true_and, decide_eq_true_eq]
    refine congrArg Int.ofNat ?_
    rw [Nat.mul_assoc, ← Nat.pow_add, Nat.add_comm q W]
  have hmade : ∀ s, Mks.out s (c : Int) e = Sgd.out s R := by
    intro s
    unfold Mks.out
    rw [if_pos hc0, hA]
    rw [made_some hn, heq, if_pos rfl]
  have hw : R < 2 ^ single.width := by rw [width_single]; exact Nat.lt_trans hRl (by decide)
  refine ⟨?_, hRi, hR0, by rw [hR]; exact hle⟩
  cases b
  · have ho : Mks.out plus (c : Int) e = (R, true) := by rw [hmade]; unfold Sgd.out; rw [plus_l]; rfl
    rw [if_neg Bool.false_ne_true]
    unfold uOut
    rw [ho, if_pos ⟨rfl, by show eqW single R 0 = false; rw [eqW_zero _ hnan, hp]; exact decide_eq_false hR0⟩, word_false]
  · have ho : Mks.out minus (c : Int) e = (single.word true R, true) := by
      rw [hmade]
      unfold Sgd.out
      rw [minus_l]
      have := neg_eq .f32 (w := R) hw
      rw [if_neg (by decide), if_pos (by decide), this]
      have hs : sgn FloatKind.f32.format R = false := hsg
      rw [hs]
      show (single.word (!false) (rung single R), true) = _
      rw [hp]; rfl
    rw [if_pos rfl]
    unfold uOut
    have hz : eqW single (single.word true R) 0 = false := by
      rw [eqW_zero _ (word_nan single true (Nat.le_of_lt hRi)), rung_word single true hRs]
      exact decide_eq_false hR0
    rw [ho, if_pos ⟨rfl, hz⟩]
end Go.Proofs.Ytkjjeccgmeiniaa.Qtm
/- Units and their values, in the model and in the program; numbers of units. -/
namespace Go.Proofs.Ytkjjeccgmeiniaa.Qtm
open Go.ChangeShapes Go.WideShapes Go.ChangeAt Go.RowKit Go.Proofs.Ytkjjeccgmeiniaa Go.Proofs.Ytkjjeccgmeiniaa.Flt Go.Proofs.Ytkjjeccgmeiniaa.Mth
open Ieee (single double)
set_option linter.unusedVariables false
set_option linter.unusedSimpArgs false
/-- what UnitValue gives -/
def UOut (s : ByteArray) (m e : Int) (w : World) (x : Ending) (w' : World) : Prop := x = .returned (.tuple #[.float .f32 (uOut s m e).1, .bool (uOut s m e).2]) ∧ Below w.heap.size w w'
theorem impl_unit (s : ByteArray) (m e : Int) (w : World) : Calls Try.prog 12 #[uv s m e] w (UOut s m e w) := by
  have hm := fun W => Mks.impl_any s m e W
  unfold Mks.OutB at hm
  unfold UOut uOut uv
  obtain ⟨⟨v, ok⟩, ho⟩ : ∃ o, Mks.out s m e = o := ⟨_, rfl⟩
  simp only [ho] at hm ⊢
  have hz := eq32 v 0
  cases ok
  · rw [if_neg (fun h => by cases h.1)]
    go_enter Try.func12, Try.ntmps12
    go_wp2_with fail
    refine (hm _).mono ?_
    rintro x w1 ⟨rfl, hb⟩
    have Hb := Lib.hid hb
    clear hb
    go_wp2_with fail
    go_ret2
    exact ⟨rfl, (((Below.refl _ _).alloc (Nat.le_refl _) _).trans (Hb.out.mono (by go_grown)))⟩
  · cases hq : eqW single v 0
    · rw [hq] at hz
      rw [if_pos ⟨rfl, rfl⟩]
      go_enter Try.func12, Try.ntmps12
      go_wp2_with fail
      refine (hm _).mono ?_
      rintro x w1 ⟨rfl, hb⟩
      have Hb := Lib.hid hb
      clear hb
      go_wp2_with fail
      go_ret2
      exact ⟨rfl, (((Below.refl _ _).alloc (Nat.le_refl _) _).trans (Hb.out.mono (by go_grown)))⟩
    · rw [hq] at hz
      rw [if_neg (fun h => by cases h.2)]
      go_enter Try.func12, Try.ntmps12
      go_wp2_with fail
      refine (hm _).mono ?_
      rintro x w1 ⟨rfl, hb⟩
      have Hb := Lib.hid hb
      clear hb
      go_wp2_with fail
      go_ret2
      exact ⟨rfl, (((Below.refl _ _).alloc (Nat.le_refl _) _).trans (Hb.out.mono (by go_grown)))⟩
theorem spec_unit (s : ByteArray) (m e : Int) (w : World) : Calls Try.prog 20 #[uv s m e] w (UOut s m e w) := by
  have hm := fun W => Mks.spec_any s m e W
  unfold Mks.Out at hm
  unfold UOut uOut uv
  obtain ⟨⟨v, ok⟩, ho⟩ : ∃ o, Mks.out s m e = o := ⟨_, rfl⟩
  simp only [ho] at hm ⊢
  have hz := eq32 v 0
  cases ok
  · rw [if_neg (fun h => by cases h.1)]
    go_enter Try.func20, Try.ntmps20
    go_wp2_with fail
    refine (hm _).mono ?_
    rintro x w1 ⟨rfl, k, rfl⟩
    go_wp2_with fail
    go_ret2
    exact ⟨rfl, below_drewN (by go_grown) _⟩
  · cases hq : eqW single v 0
    all_goals
      rw [hq] at hz
      first | rw [if_pos ⟨rfl, rfl⟩] | rw [if_neg (fun h => by cases h.2)]
      go_enter Try.func20, Try.ntmps20
      go_wp2_with fail
      refine (hm _).mono ?_
      rintro x w1 ⟨rfl, k, rfl⟩
      go_wp2_with fail
      go_ret2
      exact ⟨rfl, below_drewN (by go_grown) _⟩
end Go.Proofs.Ytkjjeccgmeiniaa.Qtm
/- QuantumOf, in the model and in the program. -/
namespace Go.Proofs.Ytkjjeccgmeiniaa.Qtm
open Go.ChangeShapes Go.WideShapes Go.ChangeAt Go.RowKit Go.Proofs.Ytkjjeccgmeiniaa Go.Proofs.Ytkjjeccgmeiniaa.Flt Go.Proofs.Ytkjjeccgmeiniaa.Mth
open Ieee (single double)
set_option linter.unusedVariables false
set_option linter.unusedSimpArgs false
theorem us32 : (Try.prog.underlying 31).isSome = true := by rw [Try.underlying31]; rfl
theorem us64 : (Try.prog.underlying 44).isSome = true := by rw [Try.underlying44]; rfl
theorem conv_dd (r : Nat) (w : World) : (convert 44 44 (.float .f64 r)).run Try.prog w = .ok (.float .f64 r) w := by
  have hu : Try.prog.underlying 44 = some (.float .f64) := Try.underlying44
  simp [convert, run_underlying hu, Conv.floatToFloat]
theorem conv_id (k : Int) (w : World) : (convert 3 44 (.int .i64 k)).run Try.prog w = .ok (.float .f64 (floatOfInt .f64 k)) w :=
  run_convert_int_float (P := Try.prog) w 3 44 .i64 .f64 k (by rw [Try.underlying3]; rfl) Try.underlying44
theorem conv_di {a : Nat} {k : Int} (h : floatToIntVal .f64 a .i64 = some k) (w : World) : (convert 44 3 (.float .f64 a)).run Try.prog w = .ok (.int .i64 k) w :=
  run_convert_float_int (P := Try.prog) w _ _ _ _ _ _ us64 Try.underlying3 h
theorem conv_sd {x : Nat} (h : rung single x < single.infRung) (w : World) : (convert 31 44 (.float .f32 x)).run Try.prog w = .ok (.float .f64 (widen x)) w :=
  run_widen _ _ _ us32 Try.underlying44 (by unfold isNaN; exact decide_eq_false (by omega)) w
theorem gt_lit {s : Bool} {Q : Nat} (hQ : Q ≤ double.infRung) (hs : s = false ∨ Q = 0) : (FloatKind.f64.format.order (double.word s Q) 4741671816366391296 == some .gt) = decide (K9 < Q) := gt_K9 hQ hs
/-- an amount as a whole number -/
def wv (Q : Nat) : Int × Bool := match whole Q with | some t => ((t : Int), true) | none => (0, false)
theorem wv_none {Q : Nat} (h : K9 < Q) : wv Q = (0, false) := by unfold wv whole; rw [if_pos h]
theorem wv_some {Q : Nat} (h : ¬ K9 < Q) : wv Q = (((tr Q + up Q : Nat) : Int), true) := by unfold wv whole; rw [if_neg h]
theorem tr_zero : tr 0 = 0 := by unfold tr; rw [mg_zero]; exact Nat.zero_div _
theorem up_zero : up 0 = 0 := by
  have h : rest 0 = 0 := by unfold rest; rw [mg_zero, Nat.zero_sub, rr_zero double Nat.one_pos]
  unfold up upB
  rw [h, decide_eq_false (by unfold H5; omega)]
  rfl
theorem wv_zero : wv 0 = (0, true) := by rw [wv_some (by unfold K9; omega), tr_zero, up_zero]; rfl
/-- the four steps, as runs -/
theorem runs {s : Bool} {Q : Nat} (hQ : ¬ K9 < Q) (hs : s = false ∨ Q = 0) :
    ∃ (t : Nat) (f d : Nat) (b : Bool), wv Q = (((if b = true then t + 1 else t : Nat) : Int), true) ∧ t ≤ 1000000000 ∧
      (∀ W, (convert 44 3 (.float .f64 (double.word s Q))).run Try.prog W = .ok (.int .i64 (t : Int)) W) ∧
      (∀ W, (convert 3 44 (.int .i64 (t : Int))).run Try.prog W = .ok (.float .f64 f) W) ∧
      (∀ W, (binOp .sub 44 (.float .f64 (double.word s Q)) (.float .f64 f)).run Try.prog W = .ok (.float .f64 d) W) ∧
      (FloatKind.f64.format.order d 4602678819172646912 == some .gt || FloatKind.f64.format.order d 4602678819172646912 == some .eq) = b := by
  obtain ⟨d, h1, h2, h3, h4⟩ := steps (Nat.le_of_not_lt hQ) hs
  refine ⟨tr Q, _, d, upB Q, ?_, tr_le (Nat.le_of_not_lt hQ), fun W => conv_di h1 W, fun W => conv_id _ W, fun W => run_float_arith (P := Try.prog) W .sub 44 .f64 _ _ _ h2, ?_⟩
  · rw [wv_some hQ]
    unfold up
    cases upB Q <;> simp
  · show (FloatKind.f64.format.order d H5 == some .gt || FloatKind.f64.format.order d H5 == some .eq) = _
    rw [h3, h4]
    unfold upB
    by_cases c : H5 < rest Q
    · rw [decide_eq_true c, decide_eq_true (Nat.le_of_lt c)]; rfl
    · by_cases c2 : H5 = rest Q
      · rw [decide_eq_false c, decide_eq_true c2, decide_eq_true (by omega)]; rfl
      · rw [decide_eq_false c, decide_eq_false c2, decide_eq_false (by omega)]; rfl
theorem whole_any (s : Bool) (Q : Nat) (w : World) (hQ : Q ≤ double.infRung) (hs : s = false ∨ Q = 0) :
    Calls Try.prog 36 #[.float .f64 (double.word s Q)] w fun e w' => e = .returned (.tuple #[.int .i64 (wv Q).1, .bool (wv Q).2]) ∧ w' = w := by
  have hg := gt_lit hQ hs
  by_cases hK : K9 < Q
  · rw [decide_eq_true hK] at hg
    rw [wv_none hK]
    generalize double.word s Q = a at *
    clear hK hs hQ
    go_enter Try.func36, Try.ntmps36
    go_wp2_with fail
    go_ret2
    exact ⟨rfl, rfl⟩
  · rw [decide_eq_false hK] at hg
    obtain ⟨t, f, d, b, e1, e2, k1, k2, k3, k4⟩ := runs hK hs
    rw [e1]
    generalize double.word s Q = a at *
    clear hK hs hQ e1
    cases b
    · go_enter Try.func36, Try.ntmps36
      go_wp2_with fail
      go_ret2
      exact ⟨rfl, rfl⟩
    · go_enter Try.func36, Try.ntmps36
      go_wp2_with fail
      go_ret2
      exact ⟨rfl, rfl⟩
def sgnd (p : Int × Bool) (b : Bool) : Int × Bool := (if b = true then -p.1 else p.1, p.2)
/-- what QuantumOf gives, by the unit's value -/
def qOut (u : Nat × Bool) (x : Nat) : Int × Bool := if u.2 = true ∧ rung single x < single.infRung then sgnd (wv (qR (rung single x) (rung single u.1))) (sgn single x ^^ sgn single u.1) else (0, false)
theorem wv_bound (Q : Nat) : 0 ≤ (wv Q).1 ∧ (wv Q).1 ≤ 1000000001 := by
  by_cases h : K9 < Q
  · rw [wv_none h]; decide
  · rw [wv_some h]
    have := tr_le (Nat.le_of_not_lt h)
    have := up_le Q
    show 0 ≤ ((tr Q + up Q : Nat) : Int) ∧ _
    constructor
    · omega
    · show ((tr Q + up Q : Nat) : Int) ≤ _
      omega
/-- the quotient, and how it is taken apart -/
theorem parts {x v : Nat} (hx : rung single x < single.infRung) (hv : rung single v < single.infRung) (h0 : rung single v ≠ 0) :
    ∃ (q : Nat) (Q : Nat) (b : Bool), Q ≤ double.infRung ∧ (∀ W, (binOp .quo 44 (.float .f64 (widen x)) (.float .f64 (widen v))).run Try.prog W = .ok (.float .f64 q) W) ∧
      (FloatKind.f64.format.order q 0 == some .lt) = b ∧ qOut (v, true) x = sgnd (wv Q) b ∧
      ((b = true ∧ Op.negFloat .f64 q = double.word false Q) ∨ (b = false ∧ ∃ s, q = double.word s Q ∧ (s = false ∨ Q = 0))) := by
  have hb := quo_bits hx hv h0
  have hQ := qR_le (rung single x) (rung single v)
  have hout : qOut (v, true) x = sgnd (wv (qR (rung single x) (rung single v))) (sgn single x ^^ sgn single v) := by unfold qOut; rw [if_pos ⟨rfl, hx⟩]
  generalize qR (rung single x) (rung single v) = Q at *
  generalize (sgn single x ^^ sgn single v) = s at *
  have hw : Q < double.signWeight := Nat.lt_of_le_of_lt hQ (Ieee.Format.infRung_lt double)
  have hlt : (FloatKind.f64.format.order (double.word s Q) 0 == some .lt) = (s && decide (Q ≠ 0)) := by
    rw [lt64]
    unfold ltW
    rw [word_nan double s hQ, nan_zero, word_sv double s hQ, sv_zero]
    simp only [Bool.not_false, Bool.true_and]
    cases s
    · rw [if_neg Bool.false_ne_true, Bool.false_and]
      exact decide_eq_false (by omega)
    · rw [if_pos rfl, Bool.true_and, decide_eq_decide]
      have h := mg_eq_zero double (r := Q)
      omega
  refine ⟨double.word s Q, Q, s && decide (Q ≠ 0), hQ, fun W => run_float_arith (P := Try.prog) W .quo 44 .f64 _ _ _ hb, hlt, ?_, ?_⟩
  · rw [hout]
    by_cases h : Q = 0
    · rw [h, wv_zero]; cases s <;> rfl
    · rw [decide_eq_true h, Bool.and_true]
  · by_cases h : Q = 0
    · exact .inr ⟨by rw [h]; simp, s, rfl, .inr h⟩
    · cases s
      · exact .inr ⟨rfl, false, rfl, .inl rfl⟩
      · refine .inl ⟨by rw [decide_eq_true h]; rfl, ?_⟩
        have := neg_eq .f64 (w := double.word true Q) (word_lt' double true hw)
        rw [this]
        show double.word (!sgn double (double.word true Q)) (rung double (double.word true Q)) = _
        rw [sgn_word double true hw, rung_word double true hw]
        rfl
/-- what QuantumOf gives -/
def QOut (s : ByteArray) (m e : Int) (x : Nat) (w : World) (y : Ending) (w' : World) : Prop := y = .returned (.tuple #[.int .i64 (qOut (uOut s m e) x).1, .bool (qOut (uOut s m e) x).2]) ∧ Below w.heap.size w w'
theorem qOut_none (x : Nat) : qOut (0, false) x = (0, false) := by unfold qOut; rw [if_neg (fun h => by cases h.1)]
theorem qOut_inf {v x : Nat} (h : ¬ rung single x < single.infRung) : qOut (v, true) x = (0, false) := by unfold qOut; rw [if_neg (fun g => h g.2)]
theorem fin_of {x r : Nat} (h : ¬ rung single x < single.infRung) (hr : Wid x r) : isFinD r = false := by
  cases nx : isNaN Ieee.single x
  · rw [hr.2.2 nx, isFin_widen, decide_eq_false h]
  · exact isFin_nan (by rw [hr.2.1, nx])
theorem impl_quant (s : ByteArray) (m e : Int) (x : Nat) (w : World) :
    Calls Try.prog 14 #[.float .f32 x, uv s m e] w (QOut s m e x w) := by
  have hu := fun W => impl_unit s m e W
  unfold UOut at hu
  unfold QOut
  rcases unit_cases s m e with h | ⟨v, h, v1, v2, v3⟩
  · simp only [h] at hu ⊢
    rw [qOut_none]
    unfold uv at *
    go_enter Try.func14, Try.ntmps14
    go_wp2_with fail
    refine (hu _).mono ?_
    rintro y w1 ⟨rfl, hb⟩
    have Hb := Lib.hid hb
    clear hb
    go_wp2_with fail
    go_ret2
    exact ⟨rfl, (((Below.refl _ _).alloc (Nat.le_refl _) _).trans (Hb.out.mono (by go_grown)))⟩
  · simp only [h] at hu ⊢
    unfold uv at *
    by_cases hx : rung single x < single.infRung
    · obtain ⟨q, Q, b, hQ, kq, hlt, ho, hcase⟩ := parts hx v2 v3
      rw [ho]
      have kx := fun W => conv_sd hx W
      have kv := fun W => conv_sd v2 W
      have hfx : isFinD (widen x) = true := by rw [isFin_widen]; exact decide_eq_true hx
      have hwx := widen_wl x
      have hwb := wv_bound Q
      rcases hcase with ⟨rfl, hneg⟩ | ⟨rfl, s', hq, hs'⟩
      · have hc := fun W => whole_any false Q W hQ (.inl rfl)
        rw [← hneg] at hc
        obtain ⟨⟨n, ok⟩, hn⟩ : ∃ p, wv Q = p := ⟨_, rfl⟩
        rw [hn] at hc hwb ⊢
        unfold sgnd
        dsimp only at hc hwb ⊢
        clear hneg hn ho hx v1 v2 v3 h
        go_enter Try.func14, Try.ntmps14
        go_wp2_with fail
        refine (hu _).mono ?_
        rintro y w1 ⟨rfl, hb⟩
        have Hb := Lib.hid hb
        clear hb
        go_wp2_with fail
        refine (fin_any (widen x) _ hwx).mono ?_
        rintro y w' ⟨rfl, hw'⟩
        subst w'
        rw [hfx]
        go_wp2_with fail
        refine (hc _).mono ?_
        rintro y w' ⟨rfl, hw'⟩
        subst w'
        go_wp2_with fail
        go_ret2
        exact ⟨rfl, (((Below.refl _ _).alloc (Nat.le_refl _) _).trans (Hb.out.mono (by go_grown)))⟩
      · have hc := fun W => whole_any s' Q W hQ hs'
        rw [← hq] at hc
        obtain ⟨⟨n, ok⟩, hn⟩ : ∃ p, wv Q = p := ⟨_, rfl⟩
        rw [hn] at hc hwb ⊢
        unfold sgnd
        dsimp only at hc hwb ⊢
        clear hq hs' hn ho hx v1 v2 v3 h
        go_enter Try.func14, Try.ntmps14
        go_wp2_with fail
        refine (hu _).mono ?_
        rintro y w1 ⟨rfl, hb⟩
        have Hb := Lib.hid hb
        clear hb
        go_wp2_with fail
        refine (fin_any (widen x) _ hwx).mono ?_
        rintro y w' ⟨rfl, hw'⟩
        subst w'
        rw [hfx]
        go_wp2_with fail
        refine (hc _).mono ?_
        rintro y w' ⟨rfl, hw'⟩
        subst w'
        go_wp2_with fail
        go_ret2
        exact ⟨rfl, (((Below.refl _ _).alloc (Nat.le_refl _) _).trans (Hb.out.mono (by go_grown)))⟩
    · rw [qOut_inf hx]
      go_enter Try.func14, Try.ntmps14
      go_wp2_with fail
      refine (hu _).mono ?_
      rintro y w1 ⟨rfl, hb⟩
      have Hb := Lib.hid hb
      clear hb
      obtain ⟨r, n, hr, kr⟩ := run_widen_any (P := Try.prog) 31 44 x us32 Try.underlying44 w1
      have hfin := fin_of hx hr
      have hr1 := hr.1
      clear hr hx
      go_wp2_with fail
      refine (fin_any r _ hr1).mono ?_
      rintro y w' ⟨rfl, hw'⟩
      subst w'
      rw [hfin]
      go_wp2_with fail
      go_ret2
      exact ⟨rfl, below_drewN (((Below.refl _ _).alloc (Nat.le_refl _) _).trans (Hb.out.mono (by go_grown))) _⟩
theorem fine_any (a : Nat) (w : World) :
    Calls Try.prog 37 #[.float .f64 a] w fun e w' => e = .returned (.bool (isFinD a)) ∧ ∃ n, w' = w.drewN n := by
  obtain ⟨r, n, wr, hr, kr⟩ := run_float_any (P := Try.prog) .sub (.inr (.inl rfl)) 44 .f64 a a w
  have heq := eq64 r 0
  have hf : eqW Ieee.double r 0 = isFinD a := by
    cases h : isFinD a
    · rw [sub_nofin h] at hr
      rcases hr with hr | ⟨_, hr⟩
      · cases hr
      · exact eqW_nan _ (by rw [show isNaN Ieee.double r = true from hr]; rfl)
    · rw [sub_self h] at hr
      rcases hr with hr | ⟨hr, _⟩
      · cases hr; decide
      · cases hr
  rw [hf] at heq
  clear hf hr wr
  go_enter Try.func37, Try.ntmps37
  go_wp2
  go_ret
  exact ⟨rfl, n, rfl⟩
set_option maxHeartbeats 800000 in
theorem spec_quant (s : ByteArray) (m e : Int) (x : Nat) (w : World) :
    Calls Try.prog 15 #[.float .f32 x, uv s m e] w (QOut s m e x w) := by
  have hu := fun W => spec_unit s m e W
  unfold UOut at hu
  unfold QOut
  rcases unit_cases s m e with h | ⟨v, h, v1, v2, v3⟩
  · simp only [h] at hu ⊢
    rw [qOut_none]
    unfold uv at *
    go_enter Try.func15, Try.ntmps15
    go_wp2_with fail
    refine (hu _).mono ?_
    rintro y w1 ⟨rfl, hb⟩
    have Hb := Lib.hid hb
    clear hb
    go_wp2_with fail
    go_ret2
    exact ⟨rfl, (((Below.refl _ _).alloc (Nat.le_refl _) _).trans (Hb.out.mono (by go_grown)))⟩
  · simp only [h] at hu ⊢
    unfold uv at *
    by_cases hx : rung single x < single.infRung
    · obtain ⟨q, Q, b, hQ, kq, hlt, ho, hcase⟩ := parts hx v2 v3
      rw [ho]
      have kx := fun W => conv_sd hx W
      have kv := fun W => conv_sd v2 W
      have kd := fun W => conv_dd q W
      have hfx : isFinD (widen x) = true := by rw [isFin_widen]; exact decide_eq_true hx
      rcases hcase with ⟨rfl, hneg⟩ | ⟨rfl, s', hq, hs'⟩
      · have hg := gt_lit (s := false) hQ (.inl rfl)
        by_cases hK : K9 < Q
        · rw [decide_eq_true hK, ← hneg] at hg
          rw [wv_none hK]
          unfold sgnd
          dsimp only
          clear hneg ho hx v1 v2 v3 h hK hQ
          go_enter Try.func15, Try.ntmps15
          go_wp2_with fail
          refine (hu _).mono ?_
          rintro y w1 ⟨rfl, hb⟩
          have Hb := Lib.hid hb
          clear hb
          go_wp2_with fail
          refine (fine_any (widen x) _).mono ?_
          rintro y w' ⟨rfl, n, rfl⟩
          rw [hfx]
          go_wp2_with fail
          go_ret2
          exact ⟨rfl, below_drewN (((Below.refl _ _).alloc (Nat.le_refl _) _).trans (Hb.out.mono (by go_grown))) _⟩
        · rw [decide_eq_false hK, ← hneg] at hg
          obtain ⟨t, f, d, c, e1, e2, k1, k2, k3, k4⟩ := runs (s := false) hK (.inl rfl)
          rw [← hneg] at k1 k3
          rw [e1]
          unfold sgnd
          dsimp only
          clear hneg ho hx v1 v2 v3 h hK hQ e1
          cases c
          all_goals
            go_enter Try.func15, Try.ntmps15
            go_wp2_with fail
            refine (hu _).mono ?_
            rintro y w1 ⟨rfl, hb⟩
            have Hb := Lib.hid hb
            clear hb
            go_wp2_with fail
            refine (fine_any (widen x) _).mono ?_
            rintro y w' ⟨rfl, n, rfl⟩
            rw [hfx]
            go_wp2_with fail
            go_ret2
            exact ⟨rfl, below_drewN (((Below.refl _ _).alloc (Nat.le_refl _) _).trans (Hb.out.mono (by go_grown))) _⟩
      · have hg := gt_lit hQ hs'
        by_cases hK : K9 < Q
        · rw [decide_eq_true hK, ← hq] at hg
          rw [wv_none hK]
          unfold sgnd
          dsimp only
          clear hq hs' ho hx v1 v2 v3 h hK hQ
          go_enter Try.func15, Try.ntmps15
          go_wp2_with fail
          refine (hu _).mono ?_
          rintro y w1 ⟨rfl, hb⟩
          have Hb := Lib.hid hb
          clear hb
          go_wp2_with fail
          refine (fine_any (widen x) _).mono ?_
          rintro y w' ⟨rfl, n, rfl⟩
          rw [hfx]
          go_wp2_with fail
          go_ret2
          exact ⟨rfl, below_drewN (((Below.refl _ _).alloc (Nat.le_refl _) _).trans (Hb.out.mono (by go_grown))) _⟩
        · rw [decide_eq_false hK, ← hq] at hg
          obtain ⟨t, f, d, c, e1, e2, k1, k2, k3, k4⟩ := runs hK hs'
          rw [← hq] at k1 k3
          rw [e1]
          unfold sgnd
          dsimp only
          clear hq hs' ho hx v1 v2 v3 h hK hQ e1
          cases c
          all_goals
            go_enter Try.func15, Try.ntmps15
            go_wp2_with fail
            refine (hu _).mono ?_
            rintro y w1 ⟨rfl, hb⟩
            have Hb := Lib.hid hb
            clear hb
            go_wp2_with fail
            refine (fine_any (widen x) _).mono ?_
            rintro y w' ⟨rfl, n, rfl⟩
            rw [hfx]
            go_wp2_with fail
            go_ret2
            exact ⟨rfl, below_drewN (((Below.refl _ _).alloc (Nat.le_refl _) _).trans (Hb.out.mono (by go_grown))) _⟩
    · rw [qOut_inf hx]
      go_enter Try.func15, Try.ntmps15
      go_wp2_with fail
      refine (hu _).mono ?_
      rintro y w1 ⟨rfl, hb⟩
      have Hb := Lib.hid hb
      clear hb
      obtain ⟨r, n, hr, kr⟩ := run_widen_any (P := Try.prog) 31 44 x us32 Try.underlying44 w1
      have hfin := fin_of hx hr
      clear hr hx
      go_wp2_with fail
      refine (fine_any r _).mono ?_
      rintro y w' ⟨rfl, k, rfl⟩
      rw [hfin]
      go_wp2_with fail
      go_ret2
      exact ⟨rfl, below_drewN (((Below.refl _ _).alloc (Nat.le_refl _) _).trans (Hb.out.mono (by go_grown))) _⟩
end Go.Proofs.Ytkjjeccgmeiniaa.Qtm
/- A unit in memory. -/
namespace Go.Proofs.Ytkjjeccgmeiniaa.Qtm
open Go.ChangeShapes Go.WideShapes Go.ChangeAt Go.RowKit Go.Proofs.Ytkjjeccgmeiniaa
set_option linter.unusedVariables false
/-- block 'R' holds a unit -/
def Ub (R : Nat) (s : ByteArray) (m e : Int) (w : World) : Prop := w.cell? ⟨R, 0, none⟩ = some (.string s) ∧ w.cell? ⟨R, 1, none⟩ = some (.int .i64 m) ∧ w.cell? ⟨R, 2, none⟩ = some (.int .i64 e)
theorem Ub.lt {R : Nat} {s : ByteArray} {m e : Int} {w : World} (h : Ub R s m e w) : R < w.heap.size := World.block_lt_of_cell? w _ h.1
theorem Ub.keep {R : Nat} {s : ByteArray} {m e : Int} {w w' : World} (h : Ub R s m e w) (hb : Below w.heap.size w w') : Ub R s m e w' := by
  have h1 := h.lt
  exact ⟨(hb.cell (by exact h1)).trans h.1, (hb.cell (by exact h1)).trans h.2.1, (hb.cell (by exact h1)).trans h.2.2⟩
theorem Ub.keepB {B R : Nat} {s : ByteArray} {m e : Int} {w w' : World} (h : Ub R s m e w) (hb : Below B w w') (hR : R < B) : Ub R s m e w' :=
  ⟨(hb.cell (by exact hR)).trans h.1, (hb.cell (by exact hR)).trans h.2.1, (hb.cell (by exact hR)).trans h.2.2⟩
theorem Ub.alloc {R : Nat} {s : ByteArray} {m e : Int} {w : World} (h : Ub R s m e w) (o : Obj) : Ub R s m e (w.alloc o) := h.keep ((Below.refl _ _).alloc (Nat.le_refl _) _)
theorem Ub.drewN {R : Nat} {s : ByteArray} {m e : Int} {w : World} (h : Ub R s m e w) (n : Nat) : Ub R s m e (w.drewN n) := h
theorem Ub.new (s : ByteArray) (m e : Int) (w : World) (T : TypeId) : Ub w.heap.size s m e (w.alloc (.cells #[.string s, .int .i64 m, .int .i64 e] T)) := by
  have hb : (w.alloc (.cells #[.string s, .int .i64 m, .int .i64 e] T)).heap[w.heap.size]? = some (.cells #[.string s, .int .i64 m, .int .i64 e] T (0, 0)) := by
    show (w.heap.push _)[w.heap.size]? = _
    simp
  refine ⟨?_, ?_, ?_⟩ <;> (unfold World.cell?; rw [hb]; rfl)
/-- memory below a mark as it was, and a unit in a block -/
def UB (R : Nat) (s : ByteArray) (m e : Int) (w w' : World) : Prop := Below w.heap.size w w' ∧ Ub R s m e w'
theorem UB.next {R : Nat} {s : ByteArray} {m e : Int} {w w1 w2 : World} (h : UB R s m e w w1) (hb : Below w1.heap.size w1 w2) : UB R s m e w w2 := ⟨h.1.trans (hb.mono h.1.size), h.2.keep hb⟩
theorem UB.alloc {R : Nat} {s : ByteArray} {m e : Int} {w w1 : World} (h : UB R s m e w w1) (o : Obj) : UB R s m e w (w1.alloc o) := h.next ((Below.refl _ _).alloc (Nat.le_refl _) _)
theorem UB.drewN {R : Nat} {s : ByteArray} {m e : Int} {w w1 : World} (h : UB R s m e w w1) (n : Nat) : UB R s m e w (w1.drewN n) := ⟨below_drewN h.1 n, h.2⟩
theorem UB.new (s : ByteArray) (m e : Int) (w : World) (T : TypeId) : UB w.heap.size s m e w (w.alloc (.cells #[.string s, .int .i64 m, .int .i64 e] T)) := ⟨(Below.refl _ _).alloc (Nat.le_refl _) _, Ub.new s m e w T⟩
end Go.Proofs.Ytkjjeccgmeiniaa.Qtm
/- InUnits: of the program at drawn units; of the model at any unit some single. -/
namespace Go.Proofs.Ytkjjeccgmeiniaa.Qtm
open Go.ChangeShapes Go.WideShapes Go.ChangeAt Go.RowKit Go.Proofs.Ytkjjeccgmeiniaa Go.Proofs.Ytkjjeccgmeiniaa.Flt Go.Proofs.Ytkjjeccgmeiniaa.Mth
open Ieee (single double)
set_option linter.unusedVariables false
set_option linter.unusedSimpArgs false
theorem isq_any (n : Int) (w : World) :
    Calls Try.prog 34 #[.int .i64 n] w fun e w' => e = .returned (.bool (decide (-1000000000 ≤ n ∧ n ≤ 1000000000))) ∧ w' = w := by
  by_cases h1 : -1000000000 ≤ n
  · by_cases h2 : n ≤ 1000000000
    · go_enter Try.func34, Try.ntmps34
      go_wp2
      go_ret
      exact ⟨ret_bool (decide_eq_true ⟨h1, h2⟩).symm, rfl⟩
    · go_enter Try.func34, Try.ntmps34
      go_wp2
      go_ret
      exact ⟨ret_bool (decide_eq_false (by omega)).symm, rfl⟩
  · go_enter Try.func34, Try.ntmps34
    go_wp2
    go_ret
    exact ⟨ret_bool (by rw [decide_eq_false (show ¬ (-1000000000 ≤ n) by omega), Bool.false_and]), rfl⟩
theorem conv_ds {a x : Nat} (h : floatToFloatBits .f64 a .f32 = some x) (w : World) : (convert 44 31 (.float .f64 a)).run Try.prog w = .ok (.float .f32 x) w :=
  run_convert_float_float (P := Try.prog) w 44 31 .f64 .f32 _ _ us64 Try.underlying31 h
/-- so many units, at most a million -/
def inU (n : Int) (v : Nat) : Nat := single.word (decide (n < 0) ^^ sgn single v) (rr single (n.natAbs * mg single (rung single v)) 1)
theorem inU_fin {n : Int} {v : Nat} (hn : n.natAbs ≤ 1000000) (hv : rung single v < single.infRung) (hb : mg single (rung single v) ≤ 2 ^ 233) :
    rung single (inU n v) = rr single (n.natAbs * mg single (rung single v)) 1 ∧ rung single (inU n v) < single.infRung ∧ sgn single (inU n v) = (decide (n < 0) ^^ sgn single v) := by
  obtain ⟨_, _, _, _, _, h⟩ := times_bits hn hv hb
  have hw := Nat.lt_trans h (Ieee.Format.infRung_lt single)
  unfold inU
  rw [rung_word single _ hw, sgn_word single _ hw]
  exact ⟨rfl, h, rfl⟩
theorem impl_units (s : ByteArray) (m e n : Int) (v : Nat) (w : World) (hu : uOut s m e = (v, true)) (hn : n.natAbs ≤ 1000000) (hv : rung single v < single.infRung) (hb : mg single (rung single v) ≤ 2 ^ 233) :
    Calls Try.prog 13 #[.int .i64 n, uv s m e] w fun y w' => y = .returned (.tuple #[.float .f32 (inU n v), .bool true]) ∧ Below w.heap.size w w' := by
  have hc := fun W => impl_unit s m e W
  unfold UOut at hc
  simp only [hu] at hc
  obtain ⟨r, x, h1, h2, h3, _⟩ := times_bits hn hv hb
  have hx : x = inU n v := h3
  subst hx
  have hf := (inU_fin hn hv hb).2.1
  have kx := fun W => conv_sd hf W
  have kv := fun W => conv_sd hv W
  have ki := fun W => conv_id n W
  have km := fun W => run_float_arith (P := Try.prog) W .mul 44 .f64 _ _ _ h1
  have kn := fun W => conv_ds h2 W
  have hq := fun W => isq_any n W
  rw [decide_eq_true (show -1000000000 ≤ n ∧ n ≤ 1000000000 by omega)] at hq
  have hfin : isFinD (widen (inU n v)) = true := by rw [isFin_widen]; exact decide_eq_true hf
  have hwl := widen_wl (inU n v)
  generalize inU n v = X at *
  unfold uv
  clear h1 h2 h3 hf hb
  go_enter Try.func13, Try.ntmps13
  go_wp2_with fail
  refine (hc _).mono ?_
  rintro y w1 ⟨rfl, hb⟩
  have Hb := Lib.hid (show Below w.heap.size w w1 from ((Below.refl _ _).alloc (Nat.le_refl _) _).trans (hb.mono (by go_grown)))
  clear hb
  go_wp2_with fail
  refine (hq _).mono ?_
  rintro y w' ⟨rfl, hw'⟩
  subst w'
  go_wp2_with fail
  refine (fin_any (widen X) _ hwl).mono ?_
  rintro y w' ⟨rfl, hw'⟩
  subst w'
  rw [hfin]
  go_wp2_with fail
  go_ret2
  exact ⟨rfl, Hb.out⟩
theorem in_yes (x a b : Int) (w : World) (h1 : a ≤ x) (h2 : x ≤ b) :
    Calls Try.prog 40 #[.int .i64 x, .int .i64 a, .int .i64 b] w fun e w' => e = .returned (.bool true) ∧ w' = w := Mks.in_yes x a b w h1 h2
/-- the product, of a number of units at most 1000000000 -/
theorem prod_some {n : Int} {v : Nat} (hn : n.natAbs ≤ 1000000000) (hv : rung single v < single.infRung) : ∃ r, floatBits .mul .f64 (floatOfInt .f64 n) (widen v) = some r ∧ r < 18446744073709551616 ∧ isNaN double r = false := by
  have hA := A_sp (m := n.natAbs) (by omega)
  have hAw : A n.natAbs 149 < double.signWeight := Nat.lt_trans hA.1 (Ieee.Format.infRung_lt double)
  have r1 : rung double (floatOfInt .f64 n) = A n.natAbs 149 := by rw [ofIntI (by omega), rung_word double _ hAw]
  have r2 : rung double (widen v) = wr (rung single v) := by rw [rung_widen, if_pos hv]
  have hm := mul_rr double least_le64 (x := floatOfInt .f64 n) (y := widen v) (by rw [r1]; exact hA.1) (by rw [r2]; exact (wr_spec hv).1)
  have hm' : floatBits .mul .f64 (floatOfInt .f64 n) (widen v) = some _ := hm
  exact ⟨_, hm', lt_double (floatBits_wf hm'), bits_num (k := .f64) hm'⟩
/-- some single and a truth value -/
def USome (w : World) (y : Ending) (w' : World) : Prop := ∃ (x : Nat) (b : Bool), (Lit.float .f32 x).wf = true ∧ y = .returned (.tuple #[.float .f32 x, .bool b]) ∧ Below w.heap.size w w'
set_option maxHeartbeats 800000 in
theorem spec_units (s : ByteArray) (m e n : Int) (w : World) (hn : n.natAbs ≤ 1000000000) :
    Calls Try.prog 23 #[.int .i64 n, uv s m e] w (USome w) := by
  have hc := fun W => spec_unit s m e W
  unfold UOut at hc
  unfold USome
  rcases unit_cases s m e with h | ⟨v, h, v1, v2, v3⟩
  · simp only [h] at hc
    unfold uv
    clear h
    go_enter Try.func23, Try.ntmps23
    go_wp2_with fail
    refine (hc _).mono ?_
    rintro y w1 ⟨rfl, hb⟩
    have Hb := Lib.hid (show Below w.heap.size w w1 from ((Below.refl _ _).alloc (Nat.le_refl _) _).trans (hb.mono (by go_grown)))
    clear hb
    go_wp2_with fail
    go_ret2
    exact ⟨0, false, by decide, rfl, Hb.out⟩
  · simp only [h] at hc
    obtain ⟨r, h1, h2, h3⟩ := prod_some hn v2
    have kv := fun W => conv_sd v2 W
    have ki := fun W => conv_id n W
    have km := fun W => run_float_arith (P := Try.prog) W .mul 44 .f64 _ _ _ h1
    have hi := fun W => Mks.in_yes n (-1000000000) 1000000000 W (by omega) (by omega)
    have H2 := Lib.hid (And.intro h2 h3)
    unfold uv
    clear h h1 v1 v2 v3 hn h2 h3
    go_enter Try.func23, Try.ntmps23
    go_wp2_with fail
    refine (hc _).mono ?_
    rintro y w1 ⟨rfl, hb⟩
    have Hb := Lib.hid (show Below w.heap.size w w1 from ((Below.refl _ _).alloc (Nat.le_refl _) _).trans (hb.mono (by go_grown)))
    clear hb
    go_wp2_with fail
    refine (hi _).mono ?_
    rintro y w' ⟨rfl, hw'⟩
    subst w'
    obtain ⟨x, k1, wx, _, kn⟩ := run_narrow_any (P := Try.prog) 44 31 r us64 Try.underlying31 H2.out.2 H2.out.1 w1
    obtain ⟨d, k2, hd, kw⟩ := run_widen_any (P := Try.prog) 31 44 x us32 Try.underlying44 (w1.drewN k1)
    have Wx := Lib.hid (wf_single wx)
    obtain ⟨b, hb⟩ : ∃ b, isFinD d = b := ⟨_, rfl⟩
    clear hd wx
    go_wp2_with fail
    refine (fine_any d _).mono ?_
    rintro y w' ⟨rfl, k3, rfl⟩
    rw [hb]
    clear hb
    cases b
    · go_wp2_with fail
      go_ret2
      exact ⟨0, false, by decide, rfl, below_drewN Hb.out _⟩
    · go_wp2_with fail
      go_ret2
      exact ⟨x, true, Wx.out, rfl, below_drewN Hb.out _⟩
end Go.Proofs.Ytkjjeccgmeiniaa.Qtm
/- The model's NextUp and NextDown at every single: some single. -/
namespace Go.Proofs.Ytkjjeccgmeiniaa.Qtm
open Go.ChangeShapes Go.WideShapes Go.ChangeAt Go.RowKit Go.Deep Go.Proofs.Ytkjjeccgmeiniaa Go.Proofs.Ytkjjeccgmeiniaa.Flt Go.Proofs.Ytkjjeccgmeiniaa.Mth Go.Proofs.Ytkjjeccgmeiniaa.Spn
open Ieee (single double)
set_option linter.unusedVariables false
set_option linter.unusedSimpArgs false
set_option maxRecDepth 20000
/-- some single, after some draws -/
def F32 (w : World) (e : Ending) (w' : World) : Prop := ∃ r : Nat, (Lit.float .f32 r).wf = true ∧ e = .returned (.float .f32 r) ∧ ∃ n, w' = w.drewN n
set_option maxHeartbeats 800000 in
theorem made_f (m q : Nat) (w : World) (hm : m ≤ 16777216) (hq : q ≤ 300) :
    Calls Try.prog 43 #[.int .i64 (m : Int), .int .i64 ((q : Int) - 149)] w (F32 w) := by
  have hA := A_lt (m := m) (q := q) (by omega) (by omega)
  obtain ⟨x, n, wx, _, kn⟩ := run_narrow_any (P := Try.prog) 44 31 (A m q) (by rw [Try.underlying44]; rfl) Try.underlying31 (nan_A (by omega) (by omega)) (by omega) w
  have Wx := Lib.hid (wf_single wx)
  have Kn := Lib.hid kn
  have ki := run_ofint (m := m) (by omega)
  have ku := Lib.hid (fun p hp w => run_up (m := m) (p := p) (by omega) hp w)
  have kd := Lib.hid (fun p hp w => run_dn (m := m) (p := p) (by omega) hp w)
  clear kn wx hA
  obtain ⟨E, hE⟩ : ∃ E : Int, E = (q : Int) - 149 := ⟨_, rfl⟩
  rw [← hE]
  have He := Lib.hid hE
  have hE1 : E ≤ 151 := by omega
  have hE2 : -149 ≤ E := by omega
  clear hE
  go_enter Try.func43, Try.ntmps43
  go_wp2_with fail
  go_loop [5, 6] (fun av kv => ∃ k : Nat, (k : Int) ≤ max E 0 ∧ kv = .int .i64 k ∧ av = .float .f64 (A m (149 + k))) (fun _ kv => (E - intOf kv).toNat)
  case atStart => exact ⟨0, by omega, rfl, rfl⟩
  case round =>
    obtain ⟨k, hk, rfl, rfl⟩ := hrel
    by_cases hlt : (k : Int) < E
    · have hmul := ku.out (149 + k) (by omega) w
      go_wp2_with fail
      go_round
      case rel => exact ⟨k + 1, by omega, by go_num, rfl⟩
      case measure => simp [intOf]; omega
    · have Hke := Lib.hid (show k = E.toNat by omega)
      have hkk : k ≤ 151 := by omega
      clear hk
      go_wp2_with fail
      go_loop [5, 7] (fun av kv => ∃ j : Nat, (j : Int) ≤ max (-E) 0 ∧ kv = .int .i64 (-(j : Int)) ∧ av = .float .f64 (A m (149 + k - j))) (fun _ kv => (intOf kv - E).toNat)
      case atStart => exact ⟨0, by omega, rfl, rfl⟩
      case round =>
        obtain ⟨j, hj, rfl, rfl⟩ := hrel
        by_cases hlt2 : E < -(j : Int)
        · have hj1 : 1 ≤ 149 + k - j := by omega
          have hdiv := kd.out (149 + k - j - 1) (by omega) w
          rw [show 149 + k - j - 1 + 1 = 149 + k - j by omega] at hdiv
          have hs : 149 + k - j - 1 = 149 + k - (j + 1) := by omega
          rw [hs] at hdiv
          clear hs
          go_wp2_with fail
          go_round
          case rel => exact ⟨j + 1, by omega, by congr 1; omega, rfl⟩
          case measure => simp [intOf]; omega
        · have hqq : 149 + k - j = q := by have := He.out; have := Hke.out; omega
          have kn := Kn.out
          rw [hqq]
          clear hqq hj
          generalize A m q = v at *
          go_wp2_with fail
          go_ret
          exact ⟨_, Wx.out, rfl, n, rfl⟩
theorem wf_neg {x : Nat} (h : (Lit.float .f32 x).wf = true) : (Lit.float .f32 (Op.negFloat .f32 x)).wf = true := wf_single (ng_lt (lt_single h))
set_option maxHeartbeats 1600000 in
theorem next_f (x : Nat) (w : World) (wx : (Lit.float .f32 x).wf = true) :
    Calls Try.prog 27 #[.float .f32 x] w (F32 w) := by
  have wl := lt_single wx
  have q1 := inf_quo
  have q2 := ninf_quo
  cases nx : isNaN single x
  · have hself : (FloatKind.f32.format.order x x != some .eq) = false := by rw [ne32, eqW_self, nx]; rfl
    by_cases hf : rung single x < single.infRung
    · have hx := fnS_iff.2 hf
      by_cases hy : fnS (nuW x) = true
      · refine (spec_next x w wl hx hy).mono ?_
        rintro e w9 ⟨rfl, rfl⟩
        refine ⟨nuW x, ?_, rfl, 0, rfl⟩
        have hxi : ¬ (sgn single x = false ∧ rung single x = single.infRung) := fun e => by omega
        obtain ⟨u1, u2, u3, _⟩ := nu_facts (fn_num hx) hxi
        exact wf_single u2
      · -- the greatest single
        have hs : sgn single x = false := by
          cases hs : sgn single x
          · rfl
          · exfalso
            apply hy
            rw [fnS_iff]
            have hi : (0 : Nat) < single.infRung := by rw [inf_single]; omega
            unfold nuW
            rw [if_neg (by rw [hs]; simp)]
            by_cases c0 : rung single x = 0
            · rw [if_pos c0]; decide
            · by_cases c1 : rung single x = 1
              · rw [if_neg c0, if_pos c1, rung_zero]; exact hi
              · rw [if_neg c0, if_neg c1, rung_word single _ (by have := inf_lt single; omega)]; omega
        have h0 : rung single x ≠ 0 := by
          intro h0
          apply hy
          rw [fnS_iff]
          unfold nuW
          rw [if_pos hs, h0, if_neg (by rw [inf_single]; omega)]
          decide
        have o1 : (FloatKind.f32.format.order x 2139095040 == some .eq) = false := fin_ne hx (by decide)
        have o2 : (FloatKind.f32.format.order x 4286578688 == some .eq) = false := fin_ne hx (by decide)
        have oz : (FloatKind.f32.format.order x 0 == some .eq) = decide (rung single x = 0) := by rw [eq32, eqW_zero _ nx]
        rw [decide_eq_false h0] at oz
        have og := (ord_gt nx h0)
        rw [hs, Bool.not_false] at og
        have hs24 := ss_single (rung single x)
        have hq := qq_lt_single hf
        have hge := fun h => ss_single_ge (r := rung single x) h
        have hp := fun w => parts_any (ss single (rung single x)) (qq single (rung single x)) w hs24 hq hge
        have hm := fun w => made_f (ss single (rung single x) + 1) (qq single (rung single x)) w (by omega) (by omega)
        have kw := run_wid' nx
        have ew : widen x = A (ss single (rung single x)) (qq single (rung single x)) := by rw [widen_A hf, hs]; rfl
        rw [ew] at kw
        clear h0 hx hy nx hf hge hs ew hq
        generalize A (ss single (rung single x)) (qq single (rung single x)) = v at *
        generalize ss single (rung single x) = s at *
        generalize qq single (rung single x) = q at *
        go_enter Try.func27, Try.ntmps27
        go_wp2_with fail
        refine (hp _).mono ?_
        rintro e w9 ⟨rfl, hw9⟩
        subst w9
        go_wp2_with fail
        refine (hm _).mono ?_
        rintro e w9 ⟨r, wr, rfl, n, rfl⟩
        go_wp2_with fail
        go_ret
        exact ⟨r, wr, rfl, n, rfl⟩
    · have hi : rung single x = single.infRung := by
        unfold isNaN at nx
        have := of_decide_eq_false nx
        omega
      rw [inf_single] at hi
      have hx2 : x = 2139095040 ∨ x = 4286578688 := by
        unfold rung at hi
        rw [sw_single] at hi
        omega
      rcases hx2 with rfl | rfl
      · have o1 : (FloatKind.f32.format.order 2139095040 2139095040 == some .eq) = true := by decide +kernel
        clear nx hf hi
        obtain ⟨x, hx⟩ : ∃ x, x = 2139095040 := ⟨_, rfl⟩
        rw [← hx] at hself o1 wx q1 ⊢
        clear hx
        go_enter Try.func27, Try.ntmps27
        go_wp2_with fail
        go_ret
        exact ⟨x, wx, rfl, 0, rfl⟩
      · have o1 : (FloatKind.f32.format.order 4286578688 2139095040 == some .eq) = false := by decide +kernel
        have o2 : (FloatKind.f32.format.order 4286578688 4286578688 == some .eq) = true := by decide +kernel
        have oz : (FloatKind.f32.format.order 4286578688 0 == some .eq) = false := by decide +kernel
        have hm := fun w => made_f 16777215 253 w (by omega) (by omega)
        rw [show ((253 : Nat) : Int) - 149 = 104 from rfl, show ((16777215 : Nat) : Int) = 16777215 from rfl] at hm
        clear nx hf hi
        obtain ⟨x, hx⟩ : ∃ x, x = 4286578688 := ⟨_, rfl⟩
        rw [← hx] at hself o1 o2 oz wx q2 ⊢
        clear hx
        go_enter Try.func27, Try.ntmps27
        go_wp2_with fail
        refine (hm _).mono ?_
        rintro e w9 ⟨r, wr, rfl, n, rfl⟩
        go_wp2_with fail
        go_ret
        exact ⟨_, wf_neg wr, rfl, n, rfl⟩
  · have hself : (FloatKind.f32.format.order x x != some .eq) = true := by rw [ne32, eqW_self, nx]; rfl
    clear nx
    go_enter Try.func27, Try.ntmps27
    go_wp2_with fail
    go_ret
    exact ⟨x, wx, rfl, 0, rfl⟩
theorem prev_f (x : Nat) (w : World) (wx : (Lit.float .f32 x).wf = true) :
    Calls Try.prog 29 #[.float .f32 x] w (F32 w) := by
  have hn := fun w => next_f (Op.negFloat .f32 x) w (wf_neg wx)
  go_enter Try.func29, Try.ntmps29
  go_wp2_with fail
  refine (hn _).mono ?_
  rintro e w9 ⟨r, wr, rfl, n, rfl⟩
  go_wp2_with fail
  go_ret
  exact ⟨_, wf_neg wr, rfl, n, rfl⟩
end Go.Proofs.Ytkjjeccgmeiniaa.Qtm
/- The model's draws of units, and of numbers near whole numbers of units. -/
namespace Go.Proofs.Ytkjjeccgmeiniaa.Qtm
open Go.ChangeShapes Go.WideShapes Go.ChangeAt Go.RowKit Go.Deep Go.Proofs.Ytkjjeccgmeiniaa Go.Proofs.Ytkjjeccgmeiniaa.Flt Go.Proofs.Ytkjjeccgmeiniaa.Mth Go.Proofs.Ytkjjeccgmeiniaa.Drw
open Ieee (single double)
set_option linter.unusedVariables false
set_option linter.unusedSimpArgs false
set_option maxRecDepth 20000
/-! three cells written anew -/
theorem three {W : World} {A : Nat} {x y z : Value} {T : TypeId} (h : W.heap[A]? = some (.cells #[x, y, z] T (0, 0))) (x' y' z' : Value) :
    (((W.setCell ⟨A, 0, none⟩ x').setCell ⟨A, 1, none⟩ y').setCell ⟨A, 2, none⟩ z').heap[A]? = some (.cells #[x', y', z'] T (0, 0)) := by
  have h1 := block_setCell (o := 0) h x'
  have h2 := block_setCell (o := 1) h1 y'
  exact block_setCell (o := 2) h2 z'
theorem cell_of {W : World} {A : Nat} {vs : Array Value} {T : TypeId} (h : W.heap[A]? = some (.cells vs T (0, 0))) (j : Nat) {v : Value} (hj : vs[j]? = some v) : W.cell? ⟨A, j, none⟩ = some v := by
  unfold World.cell?; rw [h]; exact hj
theorem free_of {W : World} {A : Nat} {vs : Array Value} {T : TypeId} (h : W.heap[A]? = some (.cells vs T (0, 0))) (j : Nat) : W.frozen? ⟨A, j, none⟩ = false := by
  unfold World.frozen?; rw [h]; rfl
theorem Only.setNew {B : Nat} {w w1 : World} (ho : Only B w w1) {a : Addr} (ha : w.heap.size ≤ a.block) (u : Value) : Only B w (w1.setCell a u) :=
  ⟨ho.os, ho.tape, ho.output, by rw [show (w1.setCell a u).heap.size = w1.heap.size by simp [World.setCell]]; exact ho.size, fun k hk hkB => by rw [Below.heap_setCell w1 a u k (by omega)]; exact ho.block k hk hkB⟩
theorem cur_set {base B : Nat} {w : World} (hc : Cur base w B) {R : Nat} (hR : base ≤ R) (hn : R ≠ B) (o : Nat) (u : Value) : Cur base (w.setCell ⟨R, o, none⟩ u) B := by
  obtain ⟨hB, a, len, cap, zs, i, h, hb, h0, h1, hr, ha⟩ := hc
  exact Cur.mk' hB hr ha (Below.setCell (Below.refl _ _) hR _) h0 h1 ((Below.heap_setCell _ _ _ _ (by show B ≠ R; omega)).trans hb)
/-- a cursor, all else as it was, and a block -/
structure Cu (base B : Nat) (w : World) (R : Nat) (vs : Array Value) (T : TypeId) (W : World) : Prop where
  c : Cur base W B
  o : Only B w W
  b : W.heap[R]? = some (.cells vs T (0, 0))
theorem Cu.next {base B : Nat} {w : World} {R : Nat} {vs : Array Value} {T : TypeId} {W W' : World} (h : Cu base B w R vs T W) (hn : R ≠ B) (hc : Cur base W' B) (ho : Only B W W') : Cu base B w R vs T W' :=
  ⟨hc, h.o.trans ho, (ho.block R (lt_of_block h.b) hn).trans h.b⟩
theorem Cu.alloc {base B : Nat} {w : World} {R : Nat} {vs : Array Value} {T : TypeId} {W : World} (h : Cu base B w R vs T W) (o : Obj) : Cu base B w R vs T (W.alloc o) :=
  ⟨h.c.alloc o, h.o.alloc o, (((Below.refl W.heap.size W).alloc (Nat.le_refl _) o).block R (lt_of_block h.b)).trans h.b⟩
theorem Cu.keep {base B : Nat} {w : World} {R : Nat} {vs : Array Value} {T : TypeId} {W W' : World} (h : Cu base B w R vs T W) (hb : Below W.heap.size W W') : Cu base B w R vs T W' :=
  ⟨h.c.keep hb, h.o.trans (Only.of_below hb), (hb.block R (lt_of_block h.b)).trans h.b⟩
theorem Cu.drewN {base B : Nat} {w : World} {R : Nat} {vs : Array Value} {T : TypeId} {W : World} (h : Cu base B w R vs T W) (n : Nat) : Cu base B w R vs T (W.drewN n) := ⟨h.c.drewN n, h.o.drewN n, h.b⟩
theorem Cu.set {base B : Nat} {w : World} {R : Nat} {vs : Array Value} {T : TypeId} {W : World} (h : Cu base B w R vs T W) (hn : R ≠ B) (hR : base ≤ R) (hw : w.heap.size ≤ R) (j : Nat) (v : Value) : Cu base B w R (vs.setIfInBounds j v) T (W.setCell ⟨R, j, none⟩ v) :=
  ⟨cur_set h.c hR hn j v, Only.setNew h.o hw v, block_setCell h.b v⟩
theorem Cu.new {base B : Nat} {w W : World} (hc : Cur base W B) (ho : Only B w W) {vs : Array Value} {T : TypeId} : Cu base B w W.heap.size vs T (W.alloc (.cells vs T)) := ⟨hc.alloc _, ho.alloc _, block_new _ _⟩
/-- a drawn unit -/
def UnitD (base B : Nat) (w : World) (e : Ending) (w' : World) : Prop := ∃ (b : Bool) (m k : Int), (1 ≤ m ∧ m ≤ 16777215 ∧ -149 ≤ k ∧ k ≤ 60) ∧ e = .returned (uv (if b = true then minus else plus) m k) ∧ Cur base w' B ∧ Only B w w'
def Sg (t : ByteArray) : Prop := ∃ b : Bool, t = if b = true then minus else plus
theorem signs3 : ∀ i, i < 3 → ∃ v : ByteArray, (#[Value.string ⟨#[43]⟩, .string ⟨#[43]⟩, .string ⟨#[45]⟩])[i]? = some (.string v) ∧ Sg v := by
  intro i hi
  obtain rfl | rfl | rfl : i = 0 ∨ i = 1 ∨ i = 2 := by omega
  · exact ⟨_, rfl, false, rfl⟩
  · exact ⟨_, rfl, false, rfl⟩
  · exact ⟨_, rfl, true, rfl⟩
def Mq (r : Int) : Prop := 1 ≤ r ∧ r ≤ 16777215
def Eq8 (r : Int) : Prop := -149 ≤ r ∧ r ≤ 60
theorem mants : ∀ i, i < 6 → ∃ v : Int, (#[Value.int .i64 1, .int .i64 1, .int .i64 3, .int .i64 5, .int .i64 1000, .int .i64 16777215])[i]? = some (.int .i64 v) ∧ Mq v := by
  intro i hi
  obtain rfl | rfl | rfl | rfl | rfl | rfl : i = 0 ∨ i = 1 ∨ i = 2 ∨ i = 3 ∨ i = 4 ∨ i = 5 := by omega
  all_goals exact ⟨_, rfl, by unfold Mq; omega⟩
theorem expos : ∀ i, i < 8 → ∃ v : Int, (#[Value.int .i64 0, .int .i64 0, .int .i64 (-1), .int .i64 (-3), .int .i64 4, .int .i64 (-20), .int .i64 (-149), .int .i64 60])[i]? = some (.int .i64 v) ∧ Eq8 v := by
  intro i hi
  obtain rfl | rfl | rfl | rfl | rfl | rfl | rfl | rfl : i = 0 ∨ i = 1 ∨ i = 2 ∨ i = 3 ∨ i = 4 ∨ i = 5 ∨ i = 6 ∨ i = 7 := by omega
  all_goals exact ⟨_, rfl, by unfold Eq8; omega⟩
set_option maxHeartbeats 1600000 in
theorem unit_any (base B : Nat) (w : World) (hc : Cur base w B) :
    Calls Try.prog 25 #[.pointer (some ⟨B, 0, none⟩)] w (UnitD base B w) := by
  have hB := hc.hB
  have hlt := hc.lt
  have hne : w.heap.size ≠ B := by omega
  have H0 := Lib.hid (Cu.new (vs := #[.string ⟨#[]⟩, .int .i64 0, .int .i64 0]) (T := 25) hc (Only.refl B w))
  have hL : ∀ o, ((w.alloc (.cells #[.string ⟨#[]⟩, .int .i64 0, .int .i64 0] 25)).alloc o).heap[w.heap.size + 1]? = some o := fun o => by
    have h := block_new (w.alloc (.cells #[.string ⟨#[]⟩, .int .i64 0, .int .i64 0] 25)) o
    rw [World.size_alloc] at h
    exact h
  clear hc
  go_enter Try.func25, Try.ntmps25
  go_wp2_with fail
  refine (pick_t Sg base B (w.heap.size + 1) 3 _ _ _ (H0.out.alloc _).c (by omega) (by omega) (hL _) (by omega) signs3).mono ?_
  rintro e w1 ⟨t, ht, rfl, hc1, ho1⟩
  have H1 := Lib.hid ((H0.out.alloc _).next hne hc1 ho1)
  have Ht := Lib.hid ht
  clear hc1 ho1 ht H0
  go_wp2_with fail
  have hl1 := H1.out.c.lt
  refine (pick_q Mq base B w1.heap.size 6 _ _ _ (H1.out.alloc _).c (by omega) (by omega) (block_new _ _) (by omega) mants).mono ?_
  rintro e w2 ⟨m, hm, rfl, hc2, ho2⟩
  have H2 := Lib.hid ((H1.out.alloc _).next hne hc2 ho2)
  have Hm := Lib.hid hm
  clear hc2 ho2 hm H1 hl1
  go_wp2_with fail
  have hl2 := H2.out.c.lt
  refine (pick_q Eq8 base B w2.heap.size 8 _ _ _ (H2.out.alloc _).c (by omega) (by omega) (block_new _ _) (by omega) expos).mono ?_
  rintro e w3 ⟨k, hk, rfl, hc3, ho3⟩
  have H3 := Lib.hid ((H2.out.alloc _).next hne hc3 ho3)
  have Hk := Lib.hid hk
  clear hc3 ho3 hk H2 hl2
  have z0 := free_of H3.out.b 0
  have z1 := free_of H3.out.b 1
  have z2 := free_of H3.out.b 2
  have t0 := cell_of H3.out.b 0 rfl
  have t1 := cell_of H3.out.b 1 rfl
  have t2 := cell_of H3.out.b 2 rfl
  go_wp2_with fail
  have hw : w.heap.size ≤ w.heap.size := Nat.le_refl _
  have hb : base ≤ w.heap.size := by omega
  have H4 := ((H3.out.set hne hb hw 0 (.string t)).set hne hb hw 1 (.int .i64 m)).set hne hb hw 2 (.int .i64 k)
  have d0 := cell_of H4.b 0 rfl
  have d1 := cell_of H4.b 1 rfl
  have d2 := cell_of H4.b 2 rfl
  refine bodyPost_ret (by simp [results, Try.results25, go_sem, d0, d1, d2]; try rfl) rfl ?_
  obtain ⟨b, rfl⟩ := Ht.out
  exact ⟨b, m, k, ⟨Hm.out.1, Hm.out.2, Hk.out.1, Hk.out.2⟩, rfl, H4.c, H4.o⟩
end Go.Proofs.Ytkjjeccgmeiniaa.Qtm
/- The model's draws of numbers near whole numbers of units. -/
namespace Go.Proofs.Ytkjjeccgmeiniaa.Qtm
open Go.ChangeShapes Go.WideShapes Go.ChangeAt Go.RowKit Go.Deep Go.Proofs.Ytkjjeccgmeiniaa Go.Proofs.Ytkjjeccgmeiniaa.Flt Go.Proofs.Ytkjjeccgmeiniaa.Mth Go.Proofs.Ytkjjeccgmeiniaa.Drw
open Ieee (single double)
set_option linter.unusedVariables false
set_option linter.unusedSimpArgs false
set_option maxRecDepth 20000
theorem Cu.ub {base B : Nat} {w : World} {R : Nat} {s : ByteArray} {m e : Int} {T : TypeId} {W : World} (h : Cu base B w R #[.string s, .int .i64 m, .int .i64 e] T W) : Ub R s m e W :=
  ⟨cell_of h.b 0 rfl, cell_of h.b 1 rfl, cell_of h.b 2 rfl⟩
theorem uOut_lt (s : ByteArray) (m e : Int) : (Lit.float .f32 (uOut s m e).1).wf = true := by
  rcases unit_cases s m e with h | ⟨v, h, h1, _⟩
  · rw [h]; decide
  · rw [h]; exact wf_single h1
set_option maxHeartbeats 3200000 in
theorem near_any (base B : Nat) (s : ByteArray) (m e : Int) (w : World) (hc : Cur base w B) :
    Calls Try.prog 42 #[.pointer (some ⟨B, 0, none⟩), uv s m e] w (SingleOut base B w) := by
  have hne : w.heap.size ≠ B := by have := hc.lt; omega
  have H1 := Lib.hid (Cu.new (vs := #[.string s, .int .i64 m, .int .i64 e]) (T := 25) hc (Only.refl B w))
  obtain ⟨⟨v, ok⟩, ho⟩ : ∃ o, uOut s m e = o := ⟨_, rfl⟩
  have hv := fun W => spec_unit s m e W
  unfold UOut at hv
  simp only [ho] at hv
  have hn := fun n W (h : n.natAbs ≤ 1000000000) => spec_units s m e n W h
  clear hc ho
  unfold uv at *
  go_enter Try.func42, Try.ntmps42
  go_wp2_with fail
  have U1 := Lib.hid H1.out.ub
  obtain ⟨b0, b1, b2⟩ := H1.out.ub
  go_region_held (fun w' => w'.cell? ⟨w.heap.size, 0, none⟩ = some (.string s) ∧ w'.cell? ⟨w.heap.size, 1, none⟩ = some (.int .i64 m) ∧ w'.cell? ⟨w.heap.size, 2, none⟩ = some (.int .i64 e))
    (first | exact U1.out | exact U2.out | exact U3.out)
    (first
      | (go_at_call 32; refine (below_any base B _ _ (H1.out.drewN 1).c (by omega)).mono ?_; rintro y w2 ⟨r, r0, r1, rfl, hc2, ho2⟩; have r2 := r1 (by omega); have H2 := Lib.hid ((H1.out.drewN 1).next hne hc2 ho2); have U2 := Lib.hid H2.out.ub; clear hc2 ho2 r1)
      | (go_at_call 23; refine (hn (IntKind.i64.wrap (r - 20)) _ (by rw [IntKind.wrap_i64]; omega)).mono ?_; rintro y w3 ⟨x, b, wx, rfl, hb3⟩; have H3 := Lib.hid (H2.out.keep hb3); have U3 := Lib.hid H3.out.ub; have Wx := Lib.hid wx; clear hb3 wx))
  all_goals
    clear b0 b1 b2
    obtain ⟨b0, b1, b2⟩ := H3.out.ub
    go_wp2_with fail
    refine (hv _).mono ?_
    rintro y w4 ⟨rfl, hb4⟩
    have H4 := Lib.hid (H3.out.keep hb4)
    clear hb4 b0 b1 b2
    cases b
    · go_wp2_with fail
      refine (single_any base B _ H4.out.c).mono ?_
      rintro y w5 ⟨q, wq, rfl, hc5, ho5⟩
      have Hc5 := Lib.hid hc5
      have Ho5 := Lib.hid (H4.out.o.trans ho5)
      clear hc5 ho5
      go_wp2_with fail
      go_ret
      exact ⟨q, wq, rfl, Hc5.out, Ho5.out⟩
    · go_wp2_with fail
      refine (once_any' base B 4 _ H4.out.c (by omega)).mono ?_
      rintro y w5 ⟨b4, rfl, hc5, ho5⟩
      have Hc5 := Lib.hid hc5
      have Ho5 := Lib.hid (H4.out.o.trans ho5)
      clear hc5 ho5
      cases b4
      · go_wp2_with fail
        refine (below_any base B _ _ Hc5.out (by omega)).mono ?_
        rintro y w6 ⟨i, i0, i1, rfl, hc6, ho6⟩
        have Hc6 := Lib.hid hc6
        have Ho6 := Lib.hid (Ho5.out.trans ho6)
        clear hc6 ho6 i1
        by_cases h0 : i = 0
        · subst h0
          obtain ⟨p, n, wp, _, kp⟩ := run_float_any (P := Try.prog) .quo (.inr (.inr (.inr rfl))) 31 .f32 v 1073741824 w6
          obtain ⟨q, k, wq, _, kq⟩ := run_float_any (P := Try.prog) .add (.inl rfl) 31 .f32 x p (w6.drewN n)
          clear wp
          go_wp2_with fail
          go_ret
          exact ⟨q, wq, rfl, Hc6.out.drewN _, Ho6.out.drewN _⟩
        · have e0 : (i == 0) = false := beq_eq_false_iff_ne.2 h0
          clear h0
          by_cases h1 : i = 1
          · subst h1
            obtain ⟨p, n, wp, _, kp⟩ := run_float_any (P := Try.prog) .quo (.inr (.inr (.inr rfl))) 31 .f32 v 1082130432 w6
            obtain ⟨q, k, wq, _, kq⟩ := run_float_any (P := Try.prog) .add (.inl rfl) 31 .f32 x p (w6.drewN n)
            clear wp
            go_wp2_with fail
            go_ret
            exact ⟨q, wq, rfl, Hc6.out.drewN _, Ho6.out.drewN _⟩
          · have e1 : (i == 1) = false := beq_eq_false_iff_ne.2 h1
            clear h1
            go_wp2_with fail
            go_ret
            exact ⟨x, Wx.out, rfl, Hc6.out, Ho6.out⟩
      · go_wp2_with fail
        refine (single_any base B _ Hc5.out).mono ?_
        rintro y w6 ⟨q, wq, rfl, hc6, ho6⟩
        have Hc6 := Lib.hid hc6
        have Ho6 := Lib.hid (Ho5.out.trans ho6)
        clear hc6 ho6
        go_wp2_with fail
        go_ret
        exact ⟨q, wq, rfl, Hc6.out, Ho6.out⟩
end Go.Proofs.Ytkjjeccgmeiniaa.Qtm
/- The model's DrawUnit and DrawInUnits. -/
namespace Go.Proofs.Ytkjjeccgmeiniaa.Qtm
open Go.ChangeShapes Go.WideShapes Go.ChangeAt Go.RowKit Go.Deep Go.Proofs.Ytkjjeccgmeiniaa Go.Proofs.Ytkjjeccgmeiniaa.Flt Go.Proofs.Ytkjjeccgmeiniaa.Mth Go.Proofs.Ytkjjeccgmeiniaa.Drw
open Ieee (single double)
set_option linter.unusedVariables false
set_option linter.unusedSimpArgs false
set_option maxRecDepth 20000
/-- a drawn complex number -/
def CpxD (base B : Nat) (w : World) (e : Ending) (w' : World) : Prop := ∃ x y : Nat, ((Lit.float .f32 x).wf = true ∧ (Lit.float .f32 y).wf = true) ∧ e = .returned (.complex .f32 x y) ∧ Cur base w' B ∧ Only B w w'
set_option maxHeartbeats 800000 in
theorem number_any (base B : Nat) (s : ByteArray) (m e : Int) (w : World) (hc : Cur base w B) :
    Calls Try.prog 26 #[.pointer (some ⟨B, 0, none⟩), uv s m e] w (CpxD base B w) := by
  have hne : w.heap.size ≠ B := by have := hc.lt; omega
  have H1 := Lib.hid (Cu.new (vs := #[.string s, .int .i64 m, .int .i64 e]) (T := 25) hc (Only.refl B w))
  have hn := fun W (h : Cur base W B) => near_any base B s m e W h
  clear hc
  unfold uv at *
  go_enter Try.func26, Try.ntmps26
  go_wp2_with fail
  refine (hn _ H1.out.c).mono ?_
  rintro y w2 ⟨x, wx, rfl, hc2, ho2⟩
  have H2 := Lib.hid (H1.out.next hne hc2 ho2)
  have Wx := Lib.hid wx
  clear hc2 ho2 wx
  obtain ⟨b0, b1, b2⟩ := H2.out.ub
  go_wp2_with fail
  refine (hn _ H2.out.c).mono ?_
  rintro y w3 ⟨z, wz, rfl, hc3, ho3⟩
  have H3 := Lib.hid (H2.out.next hne hc3 ho3)
  have Wz := Lib.hid wz
  clear hc3 ho3 wz
  go_wp2_with fail
  go_ret
  exact ⟨x, z, ⟨Wx.out, Wz.out⟩, rfl, H3.out.c, H3.out.o⟩
/-- block 'R' as it is -/
theorem only_bk {B : Nat} {w w' : World} (h : Only B w w') {R : Nat} {o : Obj} (hb : w.heap[R]? = some o) (hn : R ≠ B) : w'.heap[R]? = some o := (h.block R (lt_of_block hb) hn).trans hb
theorem below_bk {w w' : World} (h : Below w.heap.size w w') {R : Nat} {o : Obj} (hb : w.heap[R]? = some o) : w'.heap[R]? = some o := (h.block R (lt_of_block hb)).trans hb
theorem ub_of {R : Nat} {s : ByteArray} {m e : Int} {T : TypeId} {W : World} (h : W.heap[R]? = some (.cells #[.string s, .int .i64 m, .int .i64 e] T (0, 0))) : Ub R s m e W :=
  ⟨cell_of h 0 rfl, cell_of h 1 rfl, cell_of h 2 rfl⟩
/-- any unit has been drawn -/
def AnyD (base B : Nat) (w : World) (e : Ending) (w' : World) : Prop := ∃ (s : ByteArray) (m k : Int), e = .returned (uv s m k) ∧ Cur base w' B ∧ Only B w w'
theorem ints3 {a b c : Int} : ∀ i, i < 3 → ∃ v : Int, (#[Value.int .i64 a, .int .i64 b, .int .i64 c])[i]? = some (.int .i64 v)
  | 0, _ => ⟨_, rfl⟩ | 1, _ => ⟨_, rfl⟩ | 2, _ => ⟨_, rfl⟩
  | n + 3, h => by omega
set_option maxHeartbeats 3200000 in
theorem any_any (base B : Nat) (w : World) (hc : Cur base w B) :
    Calls Try.prog 30 #[.pointer (some ⟨B, 0, none⟩)] w (AnyD base B w) := by
  have hB := hc.hB
  have hlt := hc.lt
  have hne : w.heap.size ≠ B := by omega
  have hw : w.heap.size ≤ w.heap.size := Nat.le_refl _
  have hb : base ≤ w.heap.size := by omega
  have H0 := Lib.hid (Cu.new (vs := #[.string ⟨#[]⟩, .int .i64 0, .int .i64 0]) (T := 25) hc (Only.refl B w))
  clear hc
  go_enter Try.func30, Try.ntmps30
  go_wp2_with fail
  refine (unit_any base B _ H0.out.c).mono ?_
  rintro y w1 ⟨b, m, k, _, rfl, hc1, ho1⟩
  obtain ⟨s, hs⟩ : ∃ s, (if b = true then minus else plus) = s := ⟨_, rfl⟩
  rw [hs]
  unfold uv
  have H1 := Lib.hid (H0.out.next hne hc1 ho1)
  clear hc1 ho1 H0 hs
  have hl1 := H1.out.c.lt
  have hRU : w.heap.size < w1.heap.size := lt_of_block H1.out.b
  go_wp2_with fail
  have hU0 : ∀ o, (w1.alloc o).heap[w1.heap.size]? = some o := fun o => block_new w1 o
  have HU0 := Lib.hid (hU0 (.cells #[.string s, .int .i64 m, .int .i64 k] 25))
  have HR0 := Lib.hid (H1.out.alloc (.cells #[.string s, .int .i64 m, .int .i64 k] 25))
  clear H1 hU0
  have hUB : w1.heap.size ≠ B := by omega
  refine (below_any base B _ _ HR0.out.c (by omega)).mono ?_
  rintro y w2 ⟨i, i0, i1, rfl, hc2, ho2⟩
  have HR := Lib.hid (HR0.out.next hne hc2 ho2)
  have HU := Lib.hid (only_bk ho2 HU0.out hUB)
  clear hc2 ho2 i1 HR0 HU0
  generalize w1.heap.size = U at *
  by_cases h0 : i = 0
  · subst h0
    go_wp2_with fail
    refine (sign_any base B _ HR.out.c).mono ?_
    rintro y w3 ⟨s', _, rfl, hc3, ho3⟩
    have HR' := Lib.hid (HR.out.next hne hc3 ho3)
    have HU' := Lib.hid (only_bk ho3 HU.out hUB)
    clear hc3 ho3 HR HU
    have hUR : U ≠ w.heap.size := by omega
    have hRU' : w.heap.size ≠ U := by omega
    have f0 := free_of HU'.out 0
    obtain ⟨t0, t1, t2⟩ := ub_of HU'.out
    obtain ⟨r0, r1, r2⟩ := HR'.out.ub
    have z0 := free_of HR'.out.b 0
    have z1 := free_of HR'.out.b 1
    have z2 := free_of HR'.out.b 2
    go_wp2_with fail
    have HR := Lib.hid (show Cu base B w w.heap.size #[.string ⟨#[]⟩, .int .i64 0, .int .i64 0] 25 (w3.setCell ⟨U, 0, none⟩ (.string s')) from ⟨cur_set HR'.out.c (by omega) hUB _ _, Only.setNew HR'.out.o (by show w.heap.size ≤ U; omega) _, (Below.heap_setCell _ _ _ _ (by show w.heap.size ≠ U; omega)).trans HR'.out.b⟩)
    have HU := Lib.hid (show (w3.setCell ⟨U, 0, none⟩ (.string s')).heap[U]? = some (.cells #[.string s', .int .i64 m, .int .i64 k] 25 (0, 0)) from block_setCell (o := 0) HU'.out (.string s'))
    have H4 := ((HR.out.set hne hb hw 0 (.string s')).set hne hb hw 1 (.int .i64 m)).set hne hb hw 2 (.int .i64 k)
    have d0 := cell_of H4.b 0 rfl
    have d1 := cell_of H4.b 1 rfl
    have d2 := cell_of H4.b 2 rfl
    refine bodyPost_ret (by simp [results, Try.results30, go_sem, d0, d1, d2]; try rfl) rfl ?_
    exact ⟨s', m, k, rfl, H4.c, H4.o⟩
  have e0 : (i == 0) = false := beq_eq_false_iff_ne.2 h0
  clear h0
  by_cases h0 : i = 1
  · subst h0
    go_wp2_with fail
    have hl2 := HR.out.c.lt
    refine (pick_any base B w2.heap.size 3 _ _ _ (HR.out.alloc _).c (by omega) (by omega) (block_new _ _) (by omega) ints3).mono ?_
    rintro y w3 ⟨m', rfl, hc3, ho3⟩
    have HR' := Lib.hid ((HR.out.alloc _).next hne hc3 ho3)
    have HU' := Lib.hid (only_bk ho3 (below_bk ((Below.refl _ _).alloc (Nat.le_refl _) _) HU.out) hUB)
    clear hc3 ho3 HR HU hl2
    have hUR : U ≠ w.heap.size := by omega
    have hRU' : w.heap.size ≠ U := by omega
    have f0 := free_of HU'.out 1
    obtain ⟨t0, t1, t2⟩ := ub_of HU'.out
    obtain ⟨r0, r1, r2⟩ := HR'.out.ub
    have z0 := free_of HR'.out.b 0
    have z1 := free_of HR'.out.b 1
    have z2 := free_of HR'.out.b 2
    go_wp2_with fail
    have HR := Lib.hid (show Cu base B w w.heap.size #[.string ⟨#[]⟩, .int .i64 0, .int .i64 0] 25 (w3.setCell ⟨U, 1, none⟩ (.int .i64 m')) from ⟨cur_set HR'.out.c (by omega) hUB _ _, Only.setNew HR'.out.o (by show w.heap.size ≤ U; omega) _, (Below.heap_setCell _ _ _ _ (by show w.heap.size ≠ U; omega)).trans HR'.out.b⟩)
    have HU := Lib.hid (show (w3.setCell ⟨U, 1, none⟩ (.int .i64 m')).heap[U]? = some (.cells #[.string s, .int .i64 m', .int .i64 k] 25 (0, 0)) from block_setCell (o := 1) HU'.out (.int .i64 m'))
    have H4 := ((HR.out.set hne hb hw 0 (.string s)).set hne hb hw 1 (.int .i64 m')).set hne hb hw 2 (.int .i64 k)
    have d0 := cell_of H4.b 0 rfl
    have d1 := cell_of H4.b 1 rfl
    have d2 := cell_of H4.b 2 rfl
    refine bodyPost_ret (by simp [results, Try.results30, go_sem, d0, d1, d2]; try rfl) rfl ?_
    exact ⟨s, m', k, rfl, H4.c, H4.o⟩
  have e1 : (i == 1) = false := beq_eq_false_iff_ne.2 h0
  clear h0
  by_cases h0 : i = 2
  · subst h0
    go_wp2_with fail
    have hl2 := HR.out.c.lt
    refine (pick_any base B w2.heap.size 3 _ _ _ (HR.out.alloc _).c (by omega) (by omega) (block_new _ _) (by omega) ints3).mono ?_
    rintro y w3 ⟨k', rfl, hc3, ho3⟩
    have HR' := Lib.hid ((HR.out.alloc _).next hne hc3 ho3)
    have HU' := Lib.hid (only_bk ho3 (below_bk ((Below.refl _ _).alloc (Nat.le_refl _) _) HU.out) hUB)
    clear hc3 ho3 HR HU hl2
    have hUR : U ≠ w.heap.size := by omega
    have hRU' : w.heap.size ≠ U := by omega
    have f0 := free_of HU'.out 2
    obtain ⟨t0, t1, t2⟩ := ub_of HU'.out
    obtain ⟨r0, r1, r2⟩ := HR'.out.ub
    have z0 := free_of HR'.out.b 0
    have z1 := free_of HR'.out.b 1
    have z2 := free_of HR'.out.b 2
    go_wp2_with fail
    have HR := Lib.hid (show Cu base B w w.heap.size #[.string ⟨#[]⟩, .int .i64 0, .int .i64 0] 25 (w3.setCell ⟨U, 2, none⟩ (.int .i64 k')) from ⟨cur_set HR'.out.c (by omega) hUB _ _, Only.setNew HR'.out.o (by show w.heap.size ≤ U; omega) _, (Below.heap_setCell _ _ _ _ (by show w.heap.size ≠ U; omega)).trans HR'.out.b⟩)
    have HU := Lib.hid (show (w3.setCell ⟨U, 2, none⟩ (.int .i64 k')).heap[U]? = some (.cells #[.string s, .int .i64 m, .int .i64 k'] 25 (0, 0)) from block_setCell (o := 2) HU'.out (.int .i64 k'))
    have H4 := ((HR.out.set hne hb hw 0 (.string s)).set hne hb hw 1 (.int .i64 m)).set hne hb hw 2 (.int .i64 k')
    have d0 := cell_of H4.b 0 rfl
    have d1 := cell_of H4.b 1 rfl
    have d2 := cell_of H4.b 2 rfl
    refine bodyPost_ret (by simp [results, Try.results30, go_sem, d0, d1, d2]; try rfl) rfl ?_
    exact ⟨s, m, k', rfl, H4.c, H4.o⟩
  have e2 : (i == 2) = false := beq_eq_false_iff_ne.2 h0
  clear h0
  obtain ⟨r0, r1, r2⟩ := HR.out.ub
  have z0 := free_of HR.out.b 0
  have z1 := free_of HR.out.b 1
  have z2 := free_of HR.out.b 2
  obtain ⟨t0, t1, t2⟩ := ub_of HU.out
  go_wp2_with fail
  have H4 := ((HR.out.set hne hb hw 0 (.string s)).set hne hb hw 1 (.int .i64 m)).set hne hb hw 2 (.int .i64 k)
  have d0 := cell_of H4.b 0 rfl
  have d1 := cell_of H4.b 1 rfl
  have d2 := cell_of H4.b 2 rfl
  refine bodyPost_ret (by simp [results, Try.results30, go_sem, d0, d1, d2]; try rfl) rfl ?_
  exact ⟨s, m, k, rfl, H4.c, H4.o⟩
end Go.Proofs.Ytkjjeccgmeiniaa.Qtm
/- The model's DrawUnit and DrawInUnits. -/
namespace Go.Proofs.Ytkjjeccgmeiniaa.Qtm
open Go.ChangeShapes Go.WideShapes Go.ChangeAt Go.RowKit Go.Deep Go.Proofs.Ytkjjeccgmeiniaa Go.Proofs.Ytkjjeccgmeiniaa.Flt Go.Proofs.Ytkjjeccgmeiniaa.Mth Go.Proofs.Ytkjjeccgmeiniaa.Drw
open Ieee (single double)
set_option linter.unusedVariables false
set_option linter.unusedSimpArgs false
set_option maxRecDepth 20000
def wf2 (x y : Nat) : Prop := (Lit.float .f32 x).wf = true ∧ (Lit.float .f32 y).wf = true
/-- a valid unit and three numbers have been drawn -/
def DrawnU (w : World) (e : Ending) (w' : World) : Prop := ∃ (b : Bool) (m k : Int) (x y z p q r : Nat), (1 ≤ m ∧ m ≤ 16777215 ∧ -149 ≤ k ∧ k ≤ 60) ∧ (wf2 x y ∧ wf2 z p ∧ wf2 q r) ∧
  e = .returned (.tuple #[uv (if b = true then minus else plus) m k, .complex .f32 x y, .complex .f32 z p, .complex .f32 q r]) ∧ Below w.heap.size w w'
theorem size_al (w : World) (o : Obj) : (w.alloc o).heap.size = w.heap.size + 1 := World.size_alloc ..
/-- the result's block at the end -/
theorem fin_below {w W : World} (h : Below w.heap.size w W) (x y z : Value) : Below w.heap.size w (((W.setCell ⟨w.heap.size, 0, none⟩ x).setCell ⟨w.heap.size, 1, none⟩ y).setCell ⟨w.heap.size, 2, none⟩ z) :=
  Below.setCell (Below.setCell (Below.setCell h (Nat.le_refl _) _) (Nat.le_refl _) _) (Nat.le_refl _) _
set_option maxHeartbeats 3200000 in
theorem drawUnit_any (a : Option Addr) (len cap : Nat) (zs : List Int) (w : World) (hr : IsRow .u8 w a len cap zs) (ha : ∀ x, a = some x → 0 < cap → x.block < w.heap.size) :
    Calls Try.prog 10 #[.slice a len cap] w (DrawnU w) := by
  have hr1 : ∀ o, IsRow .u8 (w.alloc o) a len cap zs := fun o => IsRow.below hr ha ((Below.refl _ _).alloc (Nat.le_refl _) o)
  clear hr ha
  go_enter Try.func10, Try.ntmps10
  go_wp2_with fail
  refine (new_any a len cap zs _ (hr1 _)).mono ?_
  rintro e w1 ⟨rfl, hc, hb⟩
  rw [size_al] at hc hb ⊢
  have hR1 : w1.heap[w.heap.size]? = some (.cells #[.string ⟨#[]⟩, .int .i64 0, .int .i64 0] 25 (0, 0)) := (hb.block w.heap.size (by omega)).trans (block_new _ _)
  have hb1 : Below w.heap.size w w1 := ((Below.refl _ _).alloc (Nat.le_refl _) _).trans (hb.mono (by omega))
  have HR1 := Lib.hid hR1
  have Hb1 := Lib.hid hb1
  have Hc := Lib.hid hc
  have hBlt := hc.lt
  clear hr1 hR1 hb1 hb hc
  have hRB : w.heap.size < w.heap.size + 1 := by omega
  generalize w.heap.size + 1 = B at *
  go_wp2_with fail
  refine (unit_any B B _ Hc.out).mono ?_
  rintro e w2 ⟨b, m, k, hmk, rfl, hc2, ho2⟩
  obtain ⟨s, hs⟩ : ∃ s, (if b = true then minus else plus) = s := ⟨_, rfl⟩
  rw [hs]
  unfold uv
  have hl2 := hc2.lt
  have HU2 := Lib.hid (Cu.new (vs := #[.string s, .int .i64 m, .int .i64 k]) (T := 25) hc2 ho2)
  have Hmk := Lib.hid (And.intro hs hmk)
  clear hc2 ho2 hs hmk Hc
  have hUB : w2.heap.size ≠ B := by omega
  go_wp2_with fail
  have hnum := fun W (h : Cur B W B) => number_any B B s m k W h
  unfold uv at hnum
  refine (hnum _ HU2.out.c).mono ?_
  rintro e w3 ⟨x, y, hxy, rfl, hc3, ho3⟩
  have HU3 := Lib.hid (HU2.out.next hUB hc3 ho3)
  have Hxy := Lib.hid (show wf2 x y from hxy)
  clear hc3 ho3 hxy HU2
  generalize w2.heap.size = U at *
  have hup := fun W => next_f x W Hxy.out.1
  go_wp2_with fail
  refine (hup _).mono ?_
  rintro e w' ⟨z, wz, rfl, n4, rfl⟩
  have HU4 := Lib.hid (HU3.out.drewN n4)
  have Hz := Lib.hid (show wf2 z y from ⟨wz, Hxy.out.2⟩)
  clear wz hup HU3
  generalize w3.drewN n4 = w4 at *
  go_wp2_with fail
  refine (once_any' B B 3 _ HU4.out.c (by omega)).mono ?_
  rintro e w5 ⟨b5, rfl, hc5, ho5⟩
  have HU5 := Lib.hid (HU4.out.next hUB hc5 ho5)
  clear hc5 ho5 HU4
  cases b5
  all_goals
    go_wp2_with fail
    first
      | refine (prev_f _ _ Hz.out.2).mono ?_
      | refine (prev_f _ _ Hxy.out.2).mono ?_
    rintro e w' ⟨r, wr, rfl, n6, rfl⟩
    have HU6 := Lib.hid (HU5.out.drewN n6)
    have Wr := Lib.hid wr
    clear wr HU5
    generalize w5.drewN n6 = w6 at *
    go_wp2_with fail
    refine (once_any' B B 3 _ HU6.out.c (by omega)).mono ?_
    rintro e w7 ⟨b7, rfl, hc7, ho7⟩
    have HU7 := Lib.hid (HU6.out.next hUB hc7 ho7)
    clear hc7 ho7 HU6
    obtain ⟨c0, c1, c2⟩ := HU7.out.ub
    cases b7
    · have hRW := only_bk HU7.out.o HR1.out (show w.heap.size ≠ B by omega)
      obtain ⟨t0, t1, t2⟩ := ub_of hRW
      have z0 := free_of hRW 0
      have z1 := free_of hRW 1
      have z2 := free_of hRW 2
      have Hb7 := Lib.hid (Hb1.out.trans (HU7.out.o.below (by omega) Hb1.out.size))
      have h3 := three hRW (.string s) (.int .i64 m) (.int .i64 k)
      go_wp2_with fail
      have d0 := cell_of h3 0 rfl
      have d1 := cell_of h3 1 rfl
      have d2 := cell_of h3 2 rfl
      refine bodyPost_ret (by simp [results, Try.results10, go_sem, d0, d1, d2]; try rfl) rfl ?_
      obtain ⟨rfl, hmk⟩ := Hmk.out
      first
        | exact ⟨b, m, k, x, y, z, y, z, r, hmk, ⟨Hxy.out, Hz.out, ⟨Hz.out.1, Wr.out⟩⟩, rfl, fin_below Hb7.out _ _ _⟩
        | exact ⟨b, m, k, x, y, x, y, x, r, hmk, ⟨Hxy.out, Hxy.out, ⟨Hxy.out.1, Wr.out⟩⟩, rfl, fin_below Hb7.out _ _ _⟩
    · go_wp2_with fail
      refine (hnum _ HU7.out.c).mono ?_
      rintro e w8 ⟨i, j, hij, rfl, hc8, ho8⟩
      have HU8 := Lib.hid (HU7.out.next hUB hc8 ho8)
      have Hij := Lib.hid (show wf2 i j from hij)
      clear hc8 ho8 hij HU7 c0 c1 c2
      obtain ⟨c0, c1, c2⟩ := HU8.out.ub
      have hRW := only_bk HU8.out.o HR1.out (show w.heap.size ≠ B by omega)
      obtain ⟨t0, t1, t2⟩ := ub_of hRW
      have z0 := free_of hRW 0
      have z1 := free_of hRW 1
      have z2 := free_of hRW 2
      have Hb7 := Lib.hid (Hb1.out.trans (HU8.out.o.below (by omega) Hb1.out.size))
      have h3 := three hRW (.string s) (.int .i64 m) (.int .i64 k)
      go_wp2_with fail
      have d0 := cell_of h3 0 rfl
      have d1 := cell_of h3 1 rfl
      have d2 := cell_of h3 2 rfl
      refine bodyPost_ret (by simp [results, Try.results10, go_sem, d0, d1, d2]; try rfl) rfl ?_
      obtain ⟨rfl, hmk⟩ := Hmk.out
      first
        | exact ⟨b, m, k, x, y, z, y, i, j, hmk, ⟨Hxy.out, Hz.out, Hij.out⟩, rfl, fin_below Hb7.out _ _ _⟩
        | exact ⟨b, m, k, x, y, x, y, i, j, hmk, ⟨Hxy.out, Hxy.out, Hij.out⟩, rfl, fin_below Hb7.out _ _ _⟩
end Go.Proofs.Ytkjjeccgmeiniaa.Qtm
/- The model's DrawInUnits. -/
namespace Go.Proofs.Ytkjjeccgmeiniaa.Qtm
open Go.ChangeShapes Go.WideShapes Go.ChangeAt Go.RowKit Go.Deep Go.Proofs.Ytkjjeccgmeiniaa Go.Proofs.Ytkjjeccgmeiniaa.Flt Go.Proofs.Ytkjjeccgmeiniaa.Mth Go.Proofs.Ytkjjeccgmeiniaa.Drw
open Ieee (single double)
set_option linter.unusedVariables false
set_option linter.unusedSimpArgs false
set_option maxRecDepth 20000
theorem Ub.out {R : Nat} {s : ByteArray} {m e : Int} {w : World} (h : Ub R s m e w) : w.cell? ⟨R, 0, none⟩ = some (.string s) ∧ w.cell? ⟨R, 1, none⟩ = some (.int .i64 m) ∧ w.cell? ⟨R, 2, none⟩ = some (.int .i64 e) := h
theorem Ub.drew {R : Nat} {s : ByteArray} {m e : Int} {w : World} (h : Ub R s m e w) : Ub R s m e w.drew := h
theorem ub_set1 {w : World} {a b : Addr} {v u : Value} (h : w.cell? a = some v) (hn : b.block ≠ a.block) : (w.setCell b u).cell? a = some v := by
  rw [World.cell?_setCell_other w b a u (fun e => hn (by rw [e]))]; exact h
theorem Ub.setCell {R : Nat} {s : ByteArray} {m e : Int} {w : World} (h : Ub R s m e w) {p : Addr} (h0 : p.block ≠ R) (u : Value) : Ub R s m e (w.setCell p u) := ⟨ub_set1 h.1 h0, ub_set1 h.2.1 h0, ub_set1 h.2.2 h0⟩
theorem tenI {a b c d e f g h i j : Int} : ∀ k, k < 10 → ∃ v : Int, (#[Value.int .i64 a, .int .i64 b, .int .i64 c, .int .i64 d, .int .i64 e, .int .i64 f, .int .i64 g, .int .i64 h, .int .i64 i, .int .i64 j])[k]? = some (.int .i64 v)
  | 0, _ => ⟨_, rfl⟩ | 1, _ => ⟨_, rfl⟩ | 2, _ => ⟨_, rfl⟩ | 3, _ => ⟨_, rfl⟩ | 4, _ => ⟨_, rfl⟩ | 5, _ => ⟨_, rfl⟩ | 6, _ => ⟨_, rfl⟩ | 7, _ => ⟨_, rfl⟩ | 8, _ => ⟨_, rfl⟩ | 9, _ => ⟨_, rfl⟩
  | n + 10, h => by omega
/-- a number of units has been drawn -/
def DrawnN (w : World) (e : Ending) (w' : World) : Prop := ∃ (n : Int) (s : ByteArray) (m k : Int), e = .returned (.tuple #[.int .i64 n, uv s m k]) ∧ Below w.heap.size w w'
set_option maxHeartbeats 3200000 in
theorem drawN_any (a : Option Addr) (len cap : Nat) (zs : List Int) (w : World) (hr : IsRow .u8 w a len cap zs) (ha : ∀ x, a = some x → 0 < cap → x.block < w.heap.size) :
    Calls Try.prog 11 #[.slice a len cap] w (DrawnN w) := by
  have hr1 : ∀ o, IsRow .u8 (w.alloc o) a len cap zs := fun o => IsRow.below hr ha ((Below.refl _ _).alloc (Nat.le_refl _) o)
  clear hr ha
  go_enter Try.func11, Try.ntmps11
  go_wp2_with fail
  refine (new_any a len cap zs _ (hr1 _)).mono ?_
  rintro e w1 ⟨rfl, hc, hb⟩
  rw [size_al] at hc hb ⊢
  have hR1 : w1.heap[w.heap.size]? = some (.cells #[.string ⟨#[]⟩, .int .i64 0, .int .i64 0] 25 (0, 0)) := (hb.block w.heap.size (by omega)).trans (block_new _ _)
  have hb1 : Below w.heap.size w w1 := ((Below.refl _ _).alloc (Nat.le_refl _) _).trans (hb.mono (by omega))
  have HR1 := Lib.hid hR1
  have Hb1 := Lib.hid hb1
  have Hc := Lib.hid hc
  have hBlt := hc.lt
  clear hr1 hR1 hb1 hb hc
  have hRB : w.heap.size < w.heap.size + 1 := by omega
  generalize w.heap.size + 1 = B at *
  go_wp2_with fail
  refine (any_any B B _ Hc.out).mono ?_
  rintro e w2 ⟨s, m, k, rfl, hc2, ho2⟩
  unfold uv
  have hl2 := hc2.lt
  have HU2 := Lib.hid (Cu.new (vs := #[.string s, .int .i64 m, .int .i64 k]) (T := 25) hc2 ho2)
  have hs2 := ho2.size
  clear hc2 ho2 Hc
  have hUB : w2.heap.size ≠ B := by omega
  have hRU : w.heap.size ≠ w2.heap.size := by omega
  go_wp2_with fail
  have U2 := Lib.hid HU2.out.ub
  obtain ⟨b0, b1, b2⟩ := HU2.out.ub
  have C2 := Lib.hid (show Cur B (w2.alloc (.cells #[.string s, .int .i64 m, .int .i64 k] 25)).drew B from HU2.out.c.drewN 1)
  generalize w2.heap.size = U at *
  go_region_held (fun w' => w'.cell? ⟨U, 0, none⟩ = some (.string s) ∧ w'.cell? ⟨U, 1, none⟩ = some (.int .i64 m) ∧ w'.cell? ⟨U, 2, none⟩ = some (.int .i64 k))
    ((refine Ub.out ?_; (repeat (first | (with_reducible exact U2.out) | (with_reducible exact U3.out) | (with_reducible exact U4.out) | (with_reducible exact U5.out) | (with_reducible refine Ub.alloc ?_ _) | (with_reducible refine Ub.drew ?_) | (with_reducible refine Ub.setCell ?_ ?_ _))); all_goals first | (with_reducible exact U5.out) | (with_reducible exact U4.out) | (with_reducible exact U3.out) | (with_reducible exact U2.out) | omega))
    (first
      | (go_at_call 31; refine (pick_any B B w4.heap.size 10 _ _ _ (HU4.out.alloc _).c (by omega) (by omega) (block_new _ _) (by omega) tenI).mono ?_; rintro y w5 ⟨n, rfl, hc5, ho5⟩; have HU5 := Lib.hid ((HU4.out.alloc _).next hUB hc5 ho5); have U5 := Lib.hid HU5.out.ub; have hRW := only_bk HU5.out.o HR1.out (show w.heap.size ≠ B by omega); obtain ⟨t0, t1, t2⟩ := ub_of hRW; have z0 := free_of hRW 0; have z1 := free_of hRW 1; have z2 := free_of hRW 2; clear hc5 ho5 hRW)
      | (go_at_call 32; (with_reducible refine (below_any B B 1000000 _ C2.out (by omega)).mono ?_); rintro y w3 ⟨r, r0, r1, rfl, hc3, ho3⟩; have r2 := r1 (by omega); have HU3 := Lib.hid ((HU2.out.drewN 1).next hUB hc3 ho3); have C3 := Lib.hid HU3.out.c; have U3 := Lib.hid HU3.out.ub; clear hc3 ho3 r1)
      | (go_at_call 32; (with_reducible refine (below_any B B 4000 _ C3.out (by omega)).mono ?_); rintro y w4 ⟨q, q0, q1, rfl, hc4, ho4⟩; have q2 := q1 (by omega); have HU4 := Lib.hid (HU3.out.next hUB hc4 ho4); have U4 := Lib.hid HU4.out.ub; have hl4 := HU4.out.c.lt; clear hc4 ho4 q1))
  all_goals
    have hRW := only_bk HU5.out.o HR1.out (show w.heap.size ≠ B by omega)
    have Hb7 := Lib.hid (Hb1.out.trans (HU5.out.o.below (by omega) Hb1.out.size))
    have h3 := three hRW (.string s) (.int .i64 m) (.int .i64 k)
    have d0 := cell_of h3 0 rfl
    have d1 := cell_of h3 1 rfl
    have d2 := cell_of h3 2 rfl
    go_wp2_with fail
    refine bodyPost_ret (by simp [results, Try.results11, go_sem, d0, d1, d2]; try rfl) rfl ?_
    exact ⟨n, s, m, k, rfl, fin_below Hb7.out _ _ _⟩
end Go.Proofs.Ytkjjeccgmeiniaa.Qtm
