/- QuantumOf, in the model and in the program. -/
import Derived.Test.YtkjjeccgmeiniaaQtmU
import Derived.Laws.FloatArith
namespace Go.Proofs.Ytkjjeccgmeiniaa.Flt
end Go.Proofs.Ytkjjeccgmeiniaa.Flt
namespace Go.Proofs.Ytkjjeccgmeiniaa.Mth
end Go.Proofs.Ytkjjeccgmeiniaa.Mth
namespace Go.Proofs.Ytkjjeccgmeiniaa.Qtm
open Go.ChangeShapes Go.WideShapes Go.ChangeAt Go.RowKit Go.Proofs.Ytkjjeccgmeiniaa Go.Proofs.Ytkjjeccgmeiniaa.Flt Go.Proofs.Ytkjjeccgmeiniaa.Mth
open Ieee (single double)
set_option linter.unusedVariables false
set_option linter.unusedSimpArgs false
theorem us32 : (Try.prog.underlying 31).isSome = true := by rw [Try.underlying31]; rfl
theorem us64 : (Try.prog.underlying 44).isSome = true := by rw [Try.underlying44]; rfl
theorem conv_dd (r : Nat) (w : World) : (convert 44 44 (.float .f64 r)).run Try.prog w = .ok (.float .f64 r) w := by
  have hu : Try.prog.underlying 44 = some (.float .f64) := Try.underlying44
  simp [convert, run_underlying hu, Conv.floatToFloat]
theorem conv_id (k : Int) (w : World) : (convert 3 44 (.int .i64 k)).run Try.prog w = .ok (.float .f64 (floatOfInt .f64 k)) w :=
  run_convert_int_float (P := Try.prog) w 3 44 .i64 .f64 k (by rw [Try.underlying3]; rfl) Try.underlying44
theorem conv_di {a : Nat} {k : Int} (h : floatToIntVal .f64 a .i64 = some k) (w : World) : (convert 44 3 (.float .f64 a)).run Try.prog w = .ok (.int .i64 k) w :=
  run_convert_float_int (P := Try.prog) w _ _ _ _ _ _ us64 Try.underlying3 h
theorem conv_sd {x : Nat} (h : rung single x < single.infRung) (w : World) : (convert 31 44 (.float .f32 x)).run Try.prog w = .ok (.float .f64 (widen x)) w :=
  run_widen _ _ _ us32 Try.underlying44 (by unfold isNaN; exact decide_eq_false (by omega)) w
theorem gt_lit {s : Bool} {Q : Nat} (hQ : Q ≤ double.infRung) (hs : s = false ∨ Q = 0) : (FloatKind.f64.format.order (double.word s Q) 4741671816366391296 == some .gt) = decide (K9 < Q) := gt_K9 hQ hs
/-- an amount as a whole number -/
def wv (Q : Nat) : Int × Bool := match whole Q with | some t => ((t : Int), true) | none => (0, false)
theorem wv_none {Q : Nat} (h : K9 < Q) : wv Q = (0, false) := by unfold wv whole; rw [if_pos h]
theorem wv_some {Q : Nat} (h : ¬ K9 < Q) : wv Q = (((tr Q + up Q : Nat) : Int), true) := by unfold wv whole; rw [if_neg h]
theorem tr_zero : tr 0 = 0 := by unfold tr; rw [mg_zero]; exact Nat.zero_div _
theorem up_zero : up 0 = 0 := by
  have h : rest 0 = 0 := by unfold rest; rw [mg_zero, Nat.zero_sub, rr_zero double Nat.one_pos]
  unfold up upB
  rw [h, decide_eq_false (by unfold H5; omega)]
  rfl
theorem wv_zero : wv 0 = (0, true) := by rw [wv_some (by unfold K9; omega), tr_zero, up_zero]; rfl
/-- the four steps, as runs -/
theorem runs {s : Bool} {Q : Nat} (hQ : ¬ K9 < Q) (hs : s = false ∨ Q = 0) :
    ∃ (t : Nat) (f d : Nat) (b : Bool), wv Q = (((if b = true then t + 1 else t : Nat) : Int), true) ∧ t ≤ 1000000000 ∧
      (∀ W, (convert 44 3 (.float .f64 (double.word s Q))).run Try.prog W = .ok (.int .i64 (t : Int)) W) ∧
      (∀ W, (convert 3 44 (.int .i64 (t : Int))).run Try.prog W = .ok (.float .f64 f) W) ∧
      (∀ W, (binOp .sub 44 (.float .f64 (double.word s Q)) (.float .f64 f)).run Try.prog W = .ok (.float .f64 d) W) ∧
      (FloatKind.f64.format.order d 4602678819172646912 == some .gt || FloatKind.f64.format.order d 4602678819172646912 == some .eq) = b := by
  obtain ⟨d, h1, h2, h3, h4⟩ := steps (Nat.le_of_not_lt hQ) hs
  refine ⟨tr Q, _, d, upB Q, ?_, tr_le (Nat.le_of_not_lt hQ), fun W => conv_di h1 W, fun W => conv_id _ W, fun W => run_float_arith (P := Try.prog) W .sub 44 .f64 _ _ _ h2, ?_⟩
  · rw [wv_some hQ]
    unfold up
    cases upB Q <;> simp
  · show (FloatKind.f64.format.order d H5 == some .gt || FloatKind.f64.format.order d H5 == some .eq) = _
    rw [h3, h4]
    unfold upB
    by_cases c : H5 < rest Q
    · rw [decide_eq_true c, decide_eq_true (Nat.le_of_lt c)]; rfl
    · by_cases c2 : H5 = rest Q
      · rw [decide_eq_false c, decide_eq_true c2, decide_eq_true (by omega)]; rfl
      · rw [decide_eq_false c, decide_eq_false c2, decide_eq_false (by omega)]; rfl
theorem whole_any (s : Bool) (Q : Nat) (w : World) (hQ : Q ≤ double.infRung) (hs : s = false ∨ Q = 0) :
    Calls Try.prog 36 #[.float .f64 (double.word s Q)] w fun e w' => e = .returned (.tuple #[.int .i64 (wv Q).1, .bool (wv Q).2]) ∧ w' = w := by
  have hg := gt_lit hQ hs
  by_cases hK : K9 < Q
  · rw [decide_eq_true hK] at hg
    rw [wv_none hK]
    generalize double.word s Q = a at *
    clear hK hs hQ
    go_enter Try.func36, Try.ntmps36
    go_wp2_with fail
    go_ret2
    exact ⟨rfl, rfl⟩
  · rw [decide_eq_false hK] at hg
    obtain ⟨t, f, d, b, e1, e2, k1, k2, k3, k4⟩ := runs hK hs
    rw [e1]
    generalize double.word s Q = a at *
    clear hK hs hQ e1
    cases b
    · go_enter Try.func36, Try.ntmps36
      go_wp2_with fail
      go_ret2
      exact ⟨rfl, rfl⟩
    · go_enter Try.func36, Try.ntmps36
      go_wp2_with fail
      go_ret2
      exact ⟨rfl, rfl⟩
def sgnd (p : Int × Bool) (b : Bool) : Int × Bool := (if b = true then -p.1 else p.1, p.2)
/-- what QuantumOf gives, by the unit's value -/
def qOut (u : Nat × Bool) (x : Nat) : Int × Bool := if u.2 = true ∧ rung single x < single.infRung then sgnd (wv (qR (rung single x) (rung single u.1))) (sgn single x ^^ sgn single u.1) else (0, false)
theorem wv_bound (Q : Nat) : 0 ≤ (wv Q).1 ∧ (wv Q).1 ≤ 1000000001 := by
  by_cases h : K9 < Q
  · rw [wv_none h]; decide
  · rw [wv_some h]
    have := tr_le (Nat.le_of_not_lt h)
    have := up_le Q
    show 0 ≤ ((tr Q + up Q : Nat) : Int) ∧ _
    constructor
    · omega
    · show ((tr Q + up Q : Nat) : Int) ≤ _
      omega
/-- the quotient, and how it is taken apart -/
theorem parts {x v : Nat} (hx : rung single x < single.infRung) (hv : rung single v < single.infRung) (h0 : rung single v ≠ 0) :
    ∃ (q : Nat) (Q : Nat) (b : Bool), Q ≤ double.infRung ∧ (∀ W, (binOp .quo 44 (.float .f64 (widen x)) (.float .f64 (widen v))).run Try.prog W = .ok (.float .f64 q) W) ∧
      (FloatKind.f64.format.order q 0 == some .lt) = b ∧ qOut (v, true) x = sgnd (wv Q) b ∧
      ((b = true ∧ Op.negFloat .f64 q = double.word false Q) ∨ (b = false ∧ ∃ s, q = double.word s Q ∧ (s = false ∨ Q = 0))) := by
  have hb := quo_bits hx hv h0
  have hQ := qR_le (rung single x) (rung single v)
  have hout : qOut (v, true) x = sgnd (wv (qR (rung single x) (rung single v))) (sgn single x ^^ sgn single v) := by unfold qOut; rw [if_pos ⟨rfl, hx⟩]
  generalize qR (rung single x) (rung single v) = Q at *
  generalize (sgn single x ^^ sgn single v) = s at *
  have hw : Q < double.signWeight := Nat.lt_of_le_of_lt hQ (Ieee.Format.infRung_lt double)
  have hlt : (FloatKind.f64.format.order (double.word s Q) 0 == some .lt) = (s && decide (Q ≠ 0)) := by
    rw [lt64]
    unfold ltW
    rw [word_nan double s hQ, nan_zero, word_sv double s hQ, sv_zero]
    simp only [Bool.not_false, Bool.true_and]
    cases s
    · rw [if_neg Bool.false_ne_true, Bool.false_and]
      exact decide_eq_false (by omega)
    · rw [if_pos rfl, Bool.true_and, decide_eq_decide]
      have h := mg_eq_zero double (r := Q)
      omega
  refine ⟨double.word s Q, Q, s && decide (Q ≠ 0), hQ, fun W => run_float_arith (P := Try.prog) W .quo 44 .f64 _ _ _ hb, hlt, ?_, ?_⟩
  · rw [hout]
    by_cases h : Q = 0
    · rw [h, wv_zero]; cases s <;> rfl
    · rw [decide_eq_true h, Bool.and_true]
  · by_cases h : Q = 0
    · exact .inr ⟨by rw [h]; simp, s, rfl, .inr h⟩
    · cases s
      · exact .inr ⟨rfl, false, rfl, .inl rfl⟩
      · refine .inl ⟨by rw [decide_eq_true h]; rfl, ?_⟩
        have := neg_eq .f64 (w := double.word true Q) (word_lt' double true hw)
        rw [this]
        show double.word (!sgn double (double.word true Q)) (rung double (double.word true Q)) = _
        rw [sgn_word double true hw, rung_word double true hw]
        rfl
/-- what QuantumOf gives -/
def QOut (s : ByteArray) (m e : Int) (x : Nat) (w : World) (y : Ending) (w' : World) : Prop := y = .returned (.tuple #[.int .i64 (qOut (uOut s m e) x).1, .bool (qOut (uOut s m e) x).2]) ∧ Below w.heap.size w w'
theorem qOut_none (x : Nat) : qOut (0, false) x = (0, false) := by unfold qOut; rw [if_neg (fun h => by cases h.1)]
theorem qOut_inf {v x : Nat} (h : ¬ rung single x < single.infRung) : qOut (v, true) x = (0, false) := by unfold qOut; rw [if_neg (fun g => h g.2)]
theorem fin_of {x r : Nat} (h : ¬ rung single x < single.infRung) (hr : Wid x r) : isFinD r = false := by
  cases nx : isNaN Ieee.single x
  · rw [hr.2.2 nx, isFin_widen, decide_eq_false h]
  · exact isFin_nan (by rw [hr.2.1, nx])
theorem impl_quant (s : ByteArray) (m e : Int) (x : Nat) (w : World) :
    Calls Try.prog 14 #[.float .f32 x, uv s m e] w (QOut s m e x w) := by
  have hu := fun W => impl_unit s m e W
  unfold UOut at hu
  unfold QOut
  rcases unit_cases s m e with h | ⟨v, h, v1, v2, v3⟩
  · simp only [h] at hu ⊢
    rw [qOut_none]
    unfold uv at *
    go_enter Try.func14, Try.ntmps14
    go_wp2_with fail
    refine (hu _).mono ?_
    rintro y w1 ⟨rfl, hb⟩
    have Hb := Lib.hid hb
    clear hb
    go_wp2_with fail
    go_ret2
    exact ⟨rfl, (((Below.refl _ _).alloc (Nat.le_refl _) _).trans (Hb.out.mono (by go_grown)))⟩
  · simp only [h] at hu ⊢
    unfold uv at *
    by_cases hx : rung single x < single.infRung
    · obtain ⟨q, Q, b, hQ, kq, hlt, ho, hcase⟩ := parts hx v2 v3
      rw [ho]
      have kx := fun W => conv_sd hx W
      have kv := fun W => conv_sd v2 W
      have hfx : isFinD (widen x) = true := by rw [isFin_widen]; exact decide_eq_true hx
      have hwx := widen_wl x
      have hwb := wv_bound Q
      rcases hcase with ⟨rfl, hneg⟩ | ⟨rfl, s', hq, hs'⟩
      · have hc := fun W => whole_any false Q W hQ (.inl rfl)
        rw [← hneg] at hc
        obtain ⟨⟨n, ok⟩, hn⟩ : ∃ p, wv Q = p := ⟨_, rfl⟩
        rw [hn] at hc hwb ⊢
        unfold sgnd
        dsimp only at hc hwb ⊢
        clear hneg hn ho hx v1 v2 v3 h
        go_enter Try.func14, Try.ntmps14
        go_wp2_with fail
        refine (hu _).mono ?_
        rintro y w1 ⟨rfl, hb⟩
        have Hb := Lib.hid hb
        clear hb
        go_wp2_with fail
        refine (fin_any (widen x) _ hwx).mono ?_
        rintro y w' ⟨rfl, hw'⟩
        subst w'
        rw [hfx]
        go_wp2_with fail
        refine (hc _).mono ?_
        rintro y w' ⟨rfl, hw'⟩
        subst w'
        go_wp2_with fail
        go_ret2
        exact ⟨rfl, (((Below.refl _ _).alloc (Nat.le_refl _) _).trans (Hb.out.mono (by go_grown)))⟩
      · have hc := fun W => whole_any s' Q W hQ hs'
        rw [← hq] at hc
        obtain ⟨⟨n, ok⟩, hn⟩ : ∃ p, wv Q = p := ⟨_, rfl⟩
        rw [hn] at hc hwb ⊢
        unfold sgnd
        dsimp only at hc hwb ⊢
        clear hq hs' hn ho hx v1 v2 v3 h
        go_enter Try.func14, Try.ntmps14
        go_wp2_with fail
        refine (hu _).mono ?_
        rintro y w1 ⟨rfl, hb⟩
        have Hb := Lib.hid hb
        clear hb
        go_wp2_with fail
        refine (fin_any (widen x) _ hwx).mono ?_
        rintro y w' ⟨rfl, hw'⟩
        subst w'
        rw [hfx]
        go_wp2_with fail
        refine (hc _).mono ?_
        rintro y w' ⟨rfl, hw'⟩
        subst w'
        go_wp2_with fail
        go_ret2
        exact ⟨rfl, (((Below.refl _ _).alloc (Nat.le_refl _) _).trans (Hb.out.mono (by go_grown)))⟩
    · rw [qOut_inf hx]
      go_enter Try.func14, Try.ntmps14
      go_wp2_with fail
      refine (hu _).mono ?_
      rintro y w1 ⟨rfl, hb⟩
      have Hb := Lib.hid hb
      clear hb
      obtain ⟨r, n, hr, kr⟩ := run_widen_any (P := Try.prog) 31 44 x us32 Try.underlying44 w1
      have hfin := fin_of hx hr
      have hr1 := hr.1
      clear hr hx
      go_wp2_with fail
      refine (fin_any r _ hr1).mono ?_
      rintro y w' ⟨rfl, hw'⟩
      subst w'
      rw [hfin]
      go_wp2_with fail
      go_ret2
      exact ⟨rfl, below_drewN (((Below.refl _ _).alloc (Nat.le_refl _) _).trans (Hb.out.mono (by go_grown))) _⟩
theorem fine_any (a : Nat) (w : World) :
    Calls Try.prog 37 #[.float .f64 a] w fun e w' => e = .returned (.bool (isFinD a)) ∧ ∃ n, w' = w.drewN n := by
  obtain ⟨r, n, wr, hr, kr⟩ := run_float_any (P := Try.prog) .sub (.inr (.inl rfl)) 44 .f64 a a w
  have heq := eq64 r 0
  have hf : eqW Ieee.double r 0 = isFinD a := by
    cases h : isFinD a
    · rw [sub_nofin h] at hr
      rcases hr with hr | ⟨_, hr⟩
      · cases hr
      · exact eqW_nan _ (by rw [show isNaN Ieee.double r = true from hr]; rfl)
    · rw [sub_self h] at hr
      rcases hr with hr | ⟨hr, _⟩
      · cases hr; decide
      · cases hr
  rw [hf] at heq
  clear hf hr wr
  go_enter Try.func37, Try.ntmps37
  go_wp2
  go_ret
  exact ⟨rfl, n, rfl⟩
set_option maxHeartbeats 800000 in
theorem spec_quant (s : ByteArray) (m e : Int) (x : Nat) (w : World) :
    Calls Try.prog 15 #[.float .f32 x, uv s m e] w (QOut s m e x w) := by
  have hu := fun W => spec_unit s m e W
  unfold UOut at hu
  unfold QOut
  rcases unit_cases s m e with h | ⟨v, h, v1, v2, v3⟩
  · simp only [h] at hu ⊢
    rw [qOut_none]
    unfold uv at *
    go_enter Try.func15, Try.ntmps15
    go_wp2_with fail
    refine (hu _).mono ?_
    rintro y w1 ⟨rfl, hb⟩
    have Hb := Lib.hid hb
    clear hb
    go_wp2_with fail
    go_ret2
    exact ⟨rfl, (((Below.refl _ _).alloc (Nat.le_refl _) _).trans (Hb.out.mono (by go_grown)))⟩
  · simp only [h] at hu ⊢
    unfold uv at *
    by_cases hx : rung single x < single.infRung
    · obtain ⟨q, Q, b, hQ, kq, hlt, ho, hcase⟩ := parts hx v2 v3
      rw [ho]
      have kx := fun W => conv_sd hx W
      have kv := fun W => conv_sd v2 W
      have kd := fun W => conv_dd q W
      have hfx : isFinD (widen x) = true := by rw [isFin_widen]; exact decide_eq_true hx
      rcases hcase with ⟨rfl, hneg⟩ | ⟨rfl, s', hq, hs'⟩
      · have hg := gt_lit (s := false) hQ (.inl rfl)
        by_cases hK : K9 < Q
        · rw [decide_eq_true hK, ← hneg] at hg
          rw [wv_none hK]
          unfold sgnd
          dsimp only
          clear hneg ho hx v1 v2 v3 h hK hQ
          go_enter Try.func15, Try.ntmps15
          go_wp2_with fail
          refine (hu _).mono ?_
          rintro y w1 ⟨rfl, hb⟩
          have Hb := Lib.hid hb
          clear hb
          go_wp2_with fail
          refine (fine_any (widen x) _).mono ?_
          rintro y w' ⟨rfl, n, rfl⟩
          rw [hfx]
          go_wp2_with fail
          go_ret2
          exact ⟨rfl, below_drewN (((Below.refl _ _).alloc (Nat.le_refl _) _).trans (Hb.out.mono (by go_grown))) _⟩
        · rw [decide_eq_false hK, ← hneg] at hg
          obtain ⟨t, f, d, c, e1, e2, k1, k2, k3, k4⟩ := runs (s := false) hK (.inl rfl)
          rw [← hneg] at k1 k3
          rw [e1]
          unfold sgnd
          dsimp only
          clear hneg ho hx v1 v2 v3 h hK hQ e1
          cases c
          all_goals
            go_enter Try.func15, Try.ntmps15
            go_wp2_with fail
            refine (hu _).mono ?_
            rintro y w1 ⟨rfl, hb⟩
            have Hb := Lib.hid hb
            clear hb
            go_wp2_with fail
            refine (fine_any (widen x) _).mono ?_
            rintro y w' ⟨rfl, n, rfl⟩
            rw [hfx]
            go_wp2_with fail
            go_ret2
            exact ⟨rfl, below_drewN (((Below.refl _ _).alloc (Nat.le_refl _) _).trans (Hb.out.mono (by go_grown))) _⟩
      · have hg := gt_lit hQ hs'
        by_cases hK : K9 < Q
        · rw [decide_eq_true hK, ← hq] at hg
          rw [wv_none hK]
          unfold sgnd
          dsimp only
          clear hq hs' ho hx v1 v2 v3 h hK hQ
          go_enter Try.func15, Try.ntmps15
          go_wp2_with fail
          refine (hu _).mono ?_
          rintro y w1 ⟨rfl, hb⟩
          have Hb := Lib.hid hb
          clear hb
          go_wp2_with fail
          refine (fine_any (widen x) _).mono ?_
          rintro y w' ⟨rfl, n, rfl⟩
          rw [hfx]
          go_wp2_with fail
          go_ret2
          exact ⟨rfl, below_drewN (((Below.refl _ _).alloc (Nat.le_refl _) _).trans (Hb.out.mono (by go_grown))) _⟩
        · rw [decide_eq_false hK, ← hq] at hg
          obtain ⟨t, f, d, c, e1, e2, k1, k2, k3, k4⟩ := runs hK hs'
          rw [← hq] at k1 k3
          rw [e1]
          unfold sgnd
          dsimp only
          clear hq hs' ho hx v1 v2 v3 h hK hQ e1
          cases c
          all_goals
            go_enter Try.func15, Try.ntmps15
            go_wp2_with fail
            refine (hu _).mono ?_
            rintro y w1 ⟨rfl, hb⟩
            have Hb := Lib.hid hb
            clear hb
            go_wp2_with fail
            refine (fine_any (widen x) _).mono ?_
            rintro y w' ⟨rfl, n, rfl⟩
            rw [hfx]
            go_wp2_with fail
            go_ret2
            exact ⟨rfl, below_drewN (((Below.refl _ _).alloc (Nat.le_refl _) _).trans (Hb.out.mono (by go_grown))) _⟩
    · rw [qOut_inf hx]
      go_enter Try.func15, Try.ntmps15
      go_wp2_with fail
      refine (hu _).mono ?_
      rintro y w1 ⟨rfl, hb⟩
      have Hb := Lib.hid hb
      clear hb
      obtain ⟨r, n, hr, kr⟩ := run_widen_any (P := Try.prog) 31 44 x us32 Try.underlying44 w1
      have hfin := fin_of hx hr
      clear hr hx
      go_wp2_with fail
      refine (fine_any r _).mono ?_
      rintro y w' ⟨rfl, k, rfl⟩
      rw [hfin]
      go_wp2_with fail
      go_ret2
      exact ⟨rfl, below_drewN (((Below.refl _ _).alloc (Nat.le_refl _) _).trans (Hb.out.mono (by go_grown))) _⟩
end Go.Proofs.Ytkjjeccgmeiniaa.Qtm
