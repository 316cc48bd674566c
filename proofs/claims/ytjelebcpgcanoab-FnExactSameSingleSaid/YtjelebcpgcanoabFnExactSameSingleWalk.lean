/- The walk of FnExactSameSingle: it returns true. -/
import Derived.Test.YtjelebcpgcanoabRows
import Derived.Test.YtjelebcpgcanoabMath
import Derived.Deep.QuietTactic
import Derived.BigQuiet
import Derived.Outline
namespace Go.Proofs.Ytjelebcpgcanoab.fnExactSameSingle
open Go.ChangeShapes Go.WideShapes Go.ChangeAt Go.RowKit Go.Proofs.Ytjelebcpgcanoab.Flt Go.Proofs.Ytjelebcpgcanoab.Mth

theorem word_sv (a b : Nat) (ha : a < 18446744073709551616) (hb : b < 18446744073709551616) (h : sv Ieee.double a = sv Ieee.double b) : (sgn Ieee.double a == sgn Ieee.double b) = (a == b) := by
  have ha' : a < 2 ^ Ieee.double.width := by rw [width_double]; exact ha
  have hb' : b < 2 ^ Ieee.double.width := by rw [width_double]; exact hb
  by_cases h0 : rung Ieee.double a = 0
  · have h1 : rung Ieee.double b = 0 := (sv_eq_zero _).1 (by rw [← h]; exact (sv_eq_zero _).2 h0)
    rw [Bool.eq_iff_iff, beq_iff_eq, beq_iff_eq]
    exact ⟨fun hs => word_inj _ ha' hb' hs (by rw [h0, h1]), fun e => by rw [e]⟩
  · have := sv_inj _ ha' hb' h0 h
    subst this; simp
theorem order_double (a b : Nat) (na : isNaN Ieee.double a = false) (nb : isNaN Ieee.double b = false) : (FloatKind.f64.format.order a b == some .eq) = decide (sv Ieee.double a = sv Ieee.double b) := by
  show (Ieee.double.order a b == some .eq) = _
  rw [order_sv Ieee.double hd na nb]
  by_cases h : sv Ieee.double a = sv Ieee.double b
  · rw [compare_eq h, decide_eq_true h]; rfl
  · rw [decide_eq_false h]
    simp only [Option.some_beq_some, beq_eq_false_iff_ne]
    exact fun e => h (compare_eq_iff.1 e)
set_option maxHeartbeats 400000 in
theorem sameFloat_any (a b : Nat) (w : World) (ha : a < 18446744073709551616) (hb : b < 18446744073709551616) :
    Calls Try.prog 22 #[.float .f64 a, .float .f64 b] w fun e w' => e = .returned (.bool (sameW Ieee.double a b)) ∧ w' = w := by
  cases na : isNaN Ieee.double a <;> cases nb : isNaN Ieee.double b
  · have ho := order_double a b na nb
    by_cases h : sv Ieee.double a = sv Ieee.double b
    · rw [decide_eq_true h] at ho
      have Hf := Lib.hid (show (sgn Ieee.double a == sgn Ieee.double b) = sameW Ieee.double a b by rw [word_sv a b ha hb h]; unfold sameW; rw [na, nb]; rfl)
      clear h
      go_enter Try.func22, Try.ntmps22
      go_wp2_with (first | (go_at_call 28; refine (isNaN_any _ _).mono ?_; rintro e w' ⟨rfl, rfl⟩) | (go_at_call 29; refine (signbit_any _ _ (by assumption)).mono ?_; rintro e w' ⟨rfl, rfl⟩))
      go_ret
      exact ⟨ret_bool Hf.out, rfl⟩
    · rw [decide_eq_false h] at ho
      have Hf := Lib.hid (show false = sameW Ieee.double a b by
        unfold sameW; rw [na, nb]; symm
        exact beq_eq_false_iff_ne.2 (fun e => h (by rw [e])))
      clear h
      go_enter Try.func22, Try.ntmps22
      go_wp2_with (first | (go_at_call 28; refine (isNaN_any _ _).mono ?_; rintro e w' ⟨rfl, rfl⟩) | (go_at_call 29; refine (signbit_any _ _ (by assumption)).mono ?_; rintro e w' ⟨rfl, rfl⟩))
      go_ret
      exact ⟨ret_bool Hf.out, rfl⟩
  all_goals
    have Hf := Lib.hid (show (isNaN Ieee.double a && isNaN Ieee.double b) = sameW Ieee.double a b by unfold sameW; rw [na, nb]; rfl)
    rw [na, nb] at Hf
    go_enter Try.func22, Try.ntmps22
    go_wp2_with (first | (go_at_call 28; refine (isNaN_any _ _).mono ?_; rintro e w' ⟨rfl, rfl⟩))
    go_ret
    exact ⟨ret_bool Hf.out, rfl⟩
theorem zero_cases (a : Nat) (ha : a < 18446744073709551616) (h : rung Ieee.double a = 0) : a = 0 ∨ a = 9223372036854775808 := by
  unfold rung at h; rw [sw_double] at h; omega
theorem neq_of (a b : Nat) : (FloatKind.f64.format.order a b != some .eq) = !(FloatKind.f64.format.order a b == some .eq) := rfl
theorem self_ne (a : Nat) : (FloatKind.f64.format.order a a != some .eq) = isNaN Ieee.double a := by
  show (Ieee.double.order a a != some .eq) = _
  rw [order_self Ieee.double hd]; cases isNaN Ieee.double a <;> rfl
theorem sv_zero : sv Ieee.double 0 = 0 := (sv_eq_zero _).2 (by decide)
theorem nan_zero : isNaN Ieee.double 0 = false := by decide
theorem quo_zero (s : Nat) (h : s = 0 ∨ s = 9223372036854775808) (w : World) : (binOp .quo 38 (.float .f64 4607182418800017408) (.float .f64 s)).run Try.prog w = .ok (.float .f64 (9218868437227405312 + s)) w := by
  rcases h with rfl | rfl
  · exact run_float_arith w .quo _ _ _ _ _ (by decide)
  · exact run_float_arith w .quo _ _ _ _ _ (by decide)
set_option maxHeartbeats 400000 in
theorem l01Same_any (a b : Nat) (w : World) (ha : a < 18446744073709551616) (hb : b < 18446744073709551616) :
    Calls Try.prog 21 #[.float .f64 a, .float .f64 b] w fun e w' => e = .returned (.bool (sameW Ieee.double a b)) ∧ w' = w := by
  have sa := self_ne a
  have sb := self_ne b
  cases na : isNaN Ieee.double a <;> cases nb : isNaN Ieee.double b
  · rw [na] at sa
    rw [nb] at sb
    have ho := order_double a b na nb
    by_cases h : sv Ieee.double a = sv Ieee.double b
    · rw [decide_eq_true h] at ho
      by_cases h0 : rung Ieee.double a = 0
      · have h1 : rung Ieee.double b = 0 := (sv_eq_zero _).1 (by rw [← h]; exact (sv_eq_zero _).2 h0)
        have ca := zero_cases a ha h0
        have cb := zero_cases b hb h1
        have qa := quo_zero a ca
        have qb := quo_zero b cb
        clear h h0 h1 na nb sa sb ho
        rcases ca with rfl | rfl <;> rcases cb with rfl | rfl
        · have o1 : (FloatKind.f64.format.order 0 0 != some .eq) = false := by decide
          have o2 : (FloatKind.f64.format.order 0 0 == some .eq) = true := by decide
          have o3 : (FloatKind.f64.format.order 9218868437227405312 9218868437227405312 == some .eq) = true := by decide
          have Hf := Lib.hid (show true = sameW Ieee.double 0 0 by decide)
          go_enter Try.func21, Try.ntmps21
          go_wp2
          go_ret
          exact ⟨ret_bool Hf.out, rfl⟩
        · have o1 : (FloatKind.f64.format.order 0 0 != some .eq) = false := by decide
          have o4 : (FloatKind.f64.format.order 9223372036854775808 9223372036854775808 != some .eq) = false := by decide
          have o2 : (FloatKind.f64.format.order 0 9223372036854775808 == some .eq) = true := by decide
          have o3 : (FloatKind.f64.format.order 9218868437227405312 18442240474082181120 == some .eq) = false := by decide
          have Hf := Lib.hid (show false = sameW Ieee.double 0 9223372036854775808 by decide)
          go_enter Try.func21, Try.ntmps21
          go_wp2
          go_ret
          exact ⟨ret_bool Hf.out, rfl⟩
        · have o1 : (FloatKind.f64.format.order 0 0 != some .eq) = false := by decide
          have o4 : (FloatKind.f64.format.order 9223372036854775808 9223372036854775808 != some .eq) = false := by decide
          have o5 : (FloatKind.f64.format.order 9223372036854775808 0 != some .eq) = false := by decide
          have o2 : (FloatKind.f64.format.order 9223372036854775808 0 == some .eq) = true := by decide
          have o3 : (FloatKind.f64.format.order 18442240474082181120 9218868437227405312 == some .eq) = false := by decide
          have Hf := Lib.hid (show false = sameW Ieee.double 9223372036854775808 0 by decide)
          go_enter Try.func21, Try.ntmps21
          go_wp2
          go_ret
          exact ⟨ret_bool Hf.out, rfl⟩
        · have o1 : (FloatKind.f64.format.order 9223372036854775808 0 != some .eq) = false := by decide
          have o4 : (FloatKind.f64.format.order 9223372036854775808 9223372036854775808 != some .eq) = false := by decide
          have o2 : (FloatKind.f64.format.order 9223372036854775808 9223372036854775808 == some .eq) = true := by decide
          have o3 : (FloatKind.f64.format.order 18442240474082181120 18442240474082181120 == some .eq) = true := by decide
          have Hf := Lib.hid (show true = sameW Ieee.double 9223372036854775808 9223372036854775808 by decide)
          go_enter Try.func21, Try.ntmps21
          go_wp2
          go_ret
          exact ⟨ret_bool Hf.out, rfl⟩
      · have hab : a = b := sv_inj _ (by rw [width_double]; exact ha) (by rw [width_double]; exact hb) h0 h
        subst hab
        have hz : (FloatKind.f64.format.order a 0 != some .eq) = true := by
          rw [neq_of, order_double a 0 na nan_zero, sv_zero, decide_eq_false (fun e => h0 ((sv_eq_zero _).1 e))]; rfl
        have Hf := Lib.hid (show true = sameW Ieee.double a a by rw [sameW_refl])
        clear h h0 na nb
        go_enter Try.func21, Try.ntmps21
        go_wp2
        go_ret
        exact ⟨ret_bool Hf.out, rfl⟩
    · rw [decide_eq_false h] at ho
      have Hf := Lib.hid (show false = sameW Ieee.double a b by
        unfold sameW; rw [na, nb]; symm
        exact beq_eq_false_iff_ne.2 (fun e => h (by rw [e])))
      clear h na nb
      go_enter Try.func21, Try.ntmps21
      go_wp2
      go_ret
      exact ⟨ret_bool Hf.out, rfl⟩
  all_goals
    rw [na] at sa
    rw [nb] at sb
    have Hf := Lib.hid (show (isNaN Ieee.double a && isNaN Ieee.double b) = sameW Ieee.double a b by unfold sameW; rw [na, nb]; rfl)
    rw [na, nb] at Hf
    clear na nb
    go_enter Try.func21, Try.ntmps21
    go_wp2
    go_ret
    exact ⟨ret_bool Hf.out, rfl⟩
theorem lt_single {a : Nat} (w : (Lit.float .f32 a).wf = true) : a < 2 ^ Ieee.single.width := by
  rw [width_single]; simpa [Lit.wf] using w
theorem sameW_widen (a b : Nat) (wa : (Lit.float .f32 a).wf = true) (wb : (Lit.float .f32 b).wf = true) (na : isNaN Ieee.single a = false) (nb : isNaN Ieee.single b = false) : sameW Ieee.double (widen a) (widen b) = sameW Ieee.single a b := by
  unfold sameW
  rw [isNaN_widen, isNaN_widen, na, nb]
  simp only [Bool.or_self, Bool.false_eq_true, if_false]
  rw [Bool.eq_iff_iff, beq_iff_eq, beq_iff_eq]
  exact widen_inj (lt_single wa) (lt_single wb) na nb
theorem wl (a : Nat) : widen a < 18446744073709551616 := by have := widen_lt a; rw [width_double] at this; exact this

theorem implSame_00 (a b : Nat) (w : World) (wa : (Lit.float .f32 a).wf = true) (wb : (Lit.float .f32 b).wf = true) (na : isNaN Ieee.single a = false) (nb : isNaN Ieee.single b = false) :
    Calls Try.prog 15 #[.float .f32 a, .float .f32 b] w fun e w' => e = .returned (.bool (sameW Ieee.single a b)) ∧ ∃ n, w' = w.drewN n := by
  have us : (Try.prog.underlying 27).isSome = true := by rw [Try.underlying27]; rfl
  have ka := run_widen (P := Try.prog) 27 38 a us Try.underlying38 na w
  have kb := run_widen (P := Try.prog) 27 38 b us Try.underlying38 nb w
  have Hf := Lib.hid (sameW_widen a b wa wb na nb)
  clear na nb us wa wb
  go_enter Try.func15, Try.ntmps15
  go_wp2_with fail
  refine (sameFloat_any _ _ _ (wl _) (wl _)).mono ?_
  rintro e w' ⟨rfl, rfl⟩
  go_wp2_with fail
  go_ret
  exact ⟨ret_bool Hf.out, 0, rfl⟩

theorem implSame_01 (a b : Nat) (w : World) (na : isNaN Ieee.single a = false) (nb : isNaN Ieee.single b = true) :
    Calls Try.prog 15 #[.float .f32 a, .float .f32 b] w fun e w' => e = .returned (.bool (sameW Ieee.single a b)) ∧ ∃ n, w' = w.drewN n := by
  have us : (Try.prog.underlying 27).isSome = true := by rw [Try.underlying27]; rfl
  have ka := run_widen (P := Try.prog) 27 38 a us Try.underlying38 na w
  obtain ⟨s, s1, s2, kb⟩ := run_widen_nan' (P := Try.prog) 27 38 b us Try.underlying38 nb w
  have Hf := Lib.hid (show sameW Ieee.double (widen a) s = sameW Ieee.single a b by unfold sameW; rw [na, nb, isNaN_widen, s1]; rfl)
  clear na nb us s1
  go_enter Try.func15, Try.ntmps15
  go_wp2_with fail
  refine (sameFloat_any _ _ _ (wl _) (s2)).mono ?_
  rintro e w' ⟨rfl, rfl⟩
  go_wp2_with fail
  go_ret
  exact ⟨ret_bool Hf.out, 1, rfl⟩

theorem implSame_10 (a b : Nat) (w : World) (na : isNaN Ieee.single a = true) (nb : isNaN Ieee.single b = false) :
    Calls Try.prog 15 #[.float .f32 a, .float .f32 b] w fun e w' => e = .returned (.bool (sameW Ieee.single a b)) ∧ ∃ n, w' = w.drewN n := by
  have us : (Try.prog.underlying 27).isSome = true := by rw [Try.underlying27]; rfl
  obtain ⟨r, r1, r2, ka⟩ := run_widen_nan' (P := Try.prog) 27 38 a us Try.underlying38 na w
  have kb := run_widen (P := Try.prog) 27 38 b us Try.underlying38 nb w.drew
  have Hf := Lib.hid (show sameW Ieee.double r (widen b) = sameW Ieee.single a b by unfold sameW; rw [na, nb, r1, isNaN_widen]; rfl)
  clear na nb us r1
  go_enter Try.func15, Try.ntmps15
  go_wp2_with fail
  refine (sameFloat_any _ _ _ (r2) (wl _)).mono ?_
  rintro e w' ⟨rfl, rfl⟩
  go_wp2_with fail
  go_ret
  exact ⟨ret_bool Hf.out, 1, rfl⟩

theorem implSame_11 (a b : Nat) (w : World) (na : isNaN Ieee.single a = true) (nb : isNaN Ieee.single b = true) :
    Calls Try.prog 15 #[.float .f32 a, .float .f32 b] w fun e w' => e = .returned (.bool (sameW Ieee.single a b)) ∧ ∃ n, w' = w.drewN n := by
  have us : (Try.prog.underlying 27).isSome = true := by rw [Try.underlying27]; rfl
  obtain ⟨r, r1, r2, ka⟩ := run_widen_nan' (P := Try.prog) 27 38 a us Try.underlying38 na w
  obtain ⟨s, s1, s2, kb⟩ := run_widen_nan' (P := Try.prog) 27 38 b us Try.underlying38 nb w.drew
  have Hf := Lib.hid (show sameW Ieee.double r s = sameW Ieee.single a b by unfold sameW; rw [na, nb, r1, s1]; rfl)
  clear na nb us r1 s1
  go_enter Try.func15, Try.ntmps15
  go_wp2_with fail
  refine (sameFloat_any _ _ _ (r2) (s2)).mono ?_
  rintro e w' ⟨rfl, rfl⟩
  go_wp2_with fail
  go_ret
  exact ⟨ret_bool Hf.out, 2, rfl⟩

theorem implSame_any (a b : Nat) (w : World) (wa : (Lit.float .f32 a).wf = true) (wb : (Lit.float .f32 b).wf = true) :
    Calls Try.prog 15 #[.float .f32 a, .float .f32 b] w fun e w' => e = .returned (.bool (sameW Ieee.single a b)) ∧ ∃ n, w' = w.drewN n := by
  cases na : isNaN Ieee.single a <;> cases nb : isNaN Ieee.single b
  · exact implSame_00 a b w wa wb na nb
  · exact implSame_01 a b w na nb
  · exact implSame_10 a b w na nb
  · exact implSame_11 a b w na nb

theorem specSame_00 (a b : Nat) (w : World) (wa : (Lit.float .f32 a).wf = true) (wb : (Lit.float .f32 b).wf = true) (na : isNaN Ieee.single a = false) (nb : isNaN Ieee.single b = false) :
    Calls Try.prog 14 #[.float .f32 a, .float .f32 b] w fun e w' => e = .returned (.bool (sameW Ieee.single a b)) ∧ ∃ n, w' = w.drewN n := by
  have us : (Try.prog.underlying 27).isSome = true := by rw [Try.underlying27]; rfl
  have ka := run_widen (P := Try.prog) 27 38 a us Try.underlying38 na w
  have kb := run_widen (P := Try.prog) 27 38 b us Try.underlying38 nb w
  have Hf := Lib.hid (sameW_widen a b wa wb na nb)
  clear na nb us wa wb
  go_enter Try.func14, Try.ntmps14
  go_wp2_with fail
  refine (l01Same_any _ _ _ (wl _) (wl _)).mono ?_
  rintro e w' ⟨rfl, rfl⟩
  go_wp2_with fail
  go_ret
  exact ⟨ret_bool Hf.out, 0, rfl⟩

theorem specSame_01 (a b : Nat) (w : World) (na : isNaN Ieee.single a = false) (nb : isNaN Ieee.single b = true) :
    Calls Try.prog 14 #[.float .f32 a, .float .f32 b] w fun e w' => e = .returned (.bool (sameW Ieee.single a b)) ∧ ∃ n, w' = w.drewN n := by
  have us : (Try.prog.underlying 27).isSome = true := by rw [Try.underlying27]; rfl
  have ka := run_widen (P := Try.prog) 27 38 a us Try.underlying38 na w
  obtain ⟨s, s1, s2, kb⟩ := run_widen_nan' (P := Try.prog) 27 38 b us Try.underlying38 nb w
  have Hf := Lib.hid (show sameW Ieee.double (widen a) s = sameW Ieee.single a b by unfold sameW; rw [na, nb, isNaN_widen, s1]; rfl)
  clear na nb us s1
  go_enter Try.func14, Try.ntmps14
  go_wp2_with fail
  refine (l01Same_any _ _ _ (wl _) (s2)).mono ?_
  rintro e w' ⟨rfl, rfl⟩
  go_wp2_with fail
  go_ret
  exact ⟨ret_bool Hf.out, 1, rfl⟩

theorem specSame_10 (a b : Nat) (w : World) (na : isNaN Ieee.single a = true) (nb : isNaN Ieee.single b = false) :
    Calls Try.prog 14 #[.float .f32 a, .float .f32 b] w fun e w' => e = .returned (.bool (sameW Ieee.single a b)) ∧ ∃ n, w' = w.drewN n := by
  have us : (Try.prog.underlying 27).isSome = true := by rw [Try.underlying27]; rfl
  obtain ⟨r, r1, r2, ka⟩ := run_widen_nan' (P := Try.prog) 27 38 a us Try.underlying38 na w
  have kb := run_widen (P := Try.prog) 27 38 b us Try.underlying38 nb w.drew
  have Hf := Lib.hid (show sameW Ieee.double r (widen b) = sameW Ieee.single a b by unfold sameW; rw [na, nb, r1, isNaN_widen]; rfl)
  clear na nb us r1
  go_enter Try.func14, Try.ntmps14
  go_wp2_with fail
  refine (l01Same_any _ _ _ (r2) (wl _)).mono ?_
  rintro e w' ⟨rfl, rfl⟩
  go_wp2_with fail
  go_ret
  exact ⟨ret_bool Hf.out, 1, rfl⟩

theorem specSame_11 (a b : Nat) (w : World) (na : isNaN Ieee.single a = true) (nb : isNaN Ieee.single b = true) :
    Calls Try.prog 14 #[.float .f32 a, .float .f32 b] w fun e w' => e = .returned (.bool (sameW Ieee.single a b)) ∧ ∃ n, w' = w.drewN n := by
  have us : (Try.prog.underlying 27).isSome = true := by rw [Try.underlying27]; rfl
  obtain ⟨r, r1, r2, ka⟩ := run_widen_nan' (P := Try.prog) 27 38 a us Try.underlying38 na w
  obtain ⟨s, s1, s2, kb⟩ := run_widen_nan' (P := Try.prog) 27 38 b us Try.underlying38 nb w.drew
  have Hf := Lib.hid (show sameW Ieee.double r s = sameW Ieee.single a b by unfold sameW; rw [na, nb, r1, s1]; rfl)
  clear na nb us r1 s1
  go_enter Try.func14, Try.ntmps14
  go_wp2_with fail
  refine (l01Same_any _ _ _ (r2) (s2)).mono ?_
  rintro e w' ⟨rfl, rfl⟩
  go_wp2_with fail
  go_ret
  exact ⟨ret_bool Hf.out, 2, rfl⟩

theorem specSame_any (a b : Nat) (w : World) (wa : (Lit.float .f32 a).wf = true) (wb : (Lit.float .f32 b).wf = true) :
    Calls Try.prog 14 #[.float .f32 a, .float .f32 b] w fun e w' => e = .returned (.bool (sameW Ieee.single a b)) ∧ ∃ n, w' = w.drewN n := by
  cases na : isNaN Ieee.single a <;> cases nb : isNaN Ieee.single b
  · exact specSame_00 a b w wa wb na nb
  · exact specSame_01 a b w na nb
  · exact specSame_10 a b w na nb
  · exact specSame_11 a b w na nb

theorem walk (a b : Nat) (w : World) (wa : (Lit.float .f32 a).wf = true) (wb : (Lit.float .f32 b).wf = true) :
    Calls Try.prog 6 #[.float .f32 a, .float .f32 b] w fun e w' => e = .returned (.bool true) ∧ Below w.heap.size w w' := by
  go_enter Try.func6, Try.ntmps6
  go_wp2_with fail
  refine (specSame_any a b _ wa wb).mono ?_
  rintro e w' ⟨rfl, n, rfl⟩
  go_wp2_with fail
  refine (implSame_any a b _ wa wb).mono ?_
  rintro e w' ⟨rfl, m, rfl⟩
  go_wp2_with fail
  go_ret
  exact ⟨rfl, below_drewN (Below.refl _ _) _⟩
end Go.Proofs.Ytjelebcpgcanoab.fnExactSameSingle
