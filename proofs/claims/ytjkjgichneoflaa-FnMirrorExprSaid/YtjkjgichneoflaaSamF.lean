/- Contracts of the program's sameFloat and of the model's l01Same. -/
import Derived.Test.YtjkjgichneoflaaMathSb
import Derived.Test.YtjkjgichneoflaaMath
import Derived.Deep.QuietTactic
import Derived.BigQuiet
import Derived.Outline
namespace Go.Proofs.Ytjkjgichneoflaa.SamF
open Go.ChangeShapes Go.WideShapes Go.ChangeAt Go.RowKit Go.Proofs.Ytjkjgichneoflaa Go.Proofs.Ytjkjgichneoflaa.Flt Go.Proofs.Ytjkjgichneoflaa.Mth

theorem word_sv (a b : Nat) (ha : a < 18446744073709551616) (hb : b < 18446744073709551616) (h : sv Ieee.double a = sv Ieee.double b) : (sgn Ieee.double a == sgn Ieee.double b) = (a == b) := by
  have ha' : a < 2 ^ Ieee.double.width := by rw [width_double]; exact ha
  have hb' : b < 2 ^ Ieee.double.width := by rw [width_double]; exact hb
  by_cases h0 : rung Ieee.double a = 0
  · have h1 : rung Ieee.double b = 0 := (sv_eq_zero _).1 (by rw [← h]; exact (sv_eq_zero _).2 h0)
    rw [Bool.eq_iff_iff, beq_iff_eq, beq_iff_eq]
    exact ⟨fun hs => word_inj _ ha' hb' hs (by rw [h0, h1]), fun e => by rw [e]⟩
  · have := sv_inj _ ha' hb' h0 h
    subst this; simp
theorem order_double (a b : Nat) (na : isNaN Ieee.double a = false) (nb : isNaN Ieee.double b = false) : (FloatKind.f64.format.order a b == some .eq) = decide (sv Ieee.double a = sv Ieee.double b) := by
  show (Ieee.double.order a b == some .eq) = _
  rw [order_sv Ieee.double hd na nb]
  by_cases h : sv Ieee.double a = sv Ieee.double b
  · rw [compare_eq h, decide_eq_true h]; rfl
  · rw [decide_eq_false h]
    simp only [Option.some_beq_some, beq_eq_false_iff_ne]
    exact fun e => h (compare_eq_iff.1 e)
set_option maxHeartbeats 400000 in
theorem sameFloat_any (a b : Nat) (w : World) (ha : a < 18446744073709551616) (hb : b < 18446744073709551616) :
    Calls Try.prog 74 #[.float .f64 a, .float .f64 b] w fun e w' => e = .returned (.bool (sameW Ieee.double a b)) ∧ w' = w := by
  cases na : isNaN Ieee.double a <;> cases nb : isNaN Ieee.double b
  · have ho := order_double a b na nb
    by_cases h : sv Ieee.double a = sv Ieee.double b
    · rw [decide_eq_true h] at ho
      have Hf := Lib.hid (show (sgn Ieee.double a == sgn Ieee.double b) = sameW Ieee.double a b by rw [word_sv a b ha hb h]; unfold sameW; rw [na, nb]; rfl)
      clear h
      go_enter Try.func74, Try.ntmps74
      go_wp2_with (first | (go_at_call 64; refine (isNaN_any _ _).mono ?_; rintro e w' ⟨rfl, rfl⟩) | (go_at_call 78; refine (signbit_any _ _ (by assumption)).mono ?_; rintro e w' ⟨rfl, rfl⟩))
      go_ret
      exact ⟨ret_bool Hf.out, rfl⟩
    · rw [decide_eq_false h] at ho
      have Hf := Lib.hid (show false = sameW Ieee.double a b by
        unfold sameW; rw [na, nb]; symm
        exact beq_eq_false_iff_ne.2 (fun e => h (by rw [e])))
      clear h
      go_enter Try.func74, Try.ntmps74
      go_wp2_with (first | (go_at_call 64; refine (isNaN_any _ _).mono ?_; rintro e w' ⟨rfl, rfl⟩) | (go_at_call 78; refine (signbit_any _ _ (by assumption)).mono ?_; rintro e w' ⟨rfl, rfl⟩))
      go_ret
      exact ⟨ret_bool Hf.out, rfl⟩
  all_goals
    have Hf := Lib.hid (show (isNaN Ieee.double a && isNaN Ieee.double b) = sameW Ieee.double a b by unfold sameW; rw [na, nb]; rfl)
    rw [na, nb] at Hf
    go_enter Try.func74, Try.ntmps74
    go_wp2_with (first | (go_at_call 64; refine (isNaN_any _ _).mono ?_; rintro e w' ⟨rfl, rfl⟩))
    go_ret
    exact ⟨ret_bool Hf.out, rfl⟩
theorem zero_cases (a : Nat) (ha : a < 18446744073709551616) (h : rung Ieee.double a = 0) : a = 0 ∨ a = 9223372036854775808 := by
  unfold rung at h; rw [sw_double] at h; omega
theorem neq_of (a b : Nat) : (FloatKind.f64.format.order a b != some .eq) = !(FloatKind.f64.format.order a b == some .eq) := rfl
theorem self_ne (a : Nat) : (FloatKind.f64.format.order a a != some .eq) = isNaN Ieee.double a := by
  show (Ieee.double.order a a != some .eq) = _
  rw [order_self Ieee.double hd]; cases isNaN Ieee.double a <;> rfl
theorem sv_zero : sv Ieee.double 0 = 0 := (sv_eq_zero _).2 (by decide)
theorem nan_zero : isNaN Ieee.double 0 = false := by decide
theorem quo_zero (s : Nat) (h : s = 0 ∨ s = 9223372036854775808) (w : World) : (binOp .quo 37 (.float .f64 4607182418800017408) (.float .f64 s)).run Try.prog w = .ok (.float .f64 (9218868437227405312 + s)) w := by
  rcases h with rfl | rfl
  · exact run_float_arith w .quo _ _ _ _ _ (by decide)
  · exact run_float_arith w .quo _ _ _ _ _ (by decide)
set_option maxHeartbeats 400000 in
theorem l01Same_any (a b : Nat) (w : World) (ha : a < 18446744073709551616) (hb : b < 18446744073709551616) :
    Calls Try.prog 76 #[.float .f64 a, .float .f64 b] w fun e w' => e = .returned (.bool (sameW Ieee.double a b)) ∧ w' = w := by
  have sa := self_ne a
  have sb := self_ne b
  cases na : isNaN Ieee.double a <;> cases nb : isNaN Ieee.double b
  · rw [na] at sa
    rw [nb] at sb
    have ho := order_double a b na nb
    by_cases h : sv Ieee.double a = sv Ieee.double b
    · rw [decide_eq_true h] at ho
      by_cases h0 : rung Ieee.double a = 0
      · have h1 : rung Ieee.double b = 0 := (sv_eq_zero _).1 (by rw [← h]; exact (sv_eq_zero _).2 h0)
        have ca := zero_cases a ha h0
        have cb := zero_cases b hb h1
        have qa := quo_zero a ca
        have qb := quo_zero b cb
        clear h h0 h1 na nb sa sb ho
        rcases ca with rfl | rfl <;> rcases cb with rfl | rfl
        · have o1 : (FloatKind.f64.format.order 0 0 != some .eq) = false := by decide
          have o2 : (FloatKind.f64.format.order 0 0 == some .eq) = true := by decide
          have o3 : (FloatKind.f64.format.order 9218868437227405312 9218868437227405312 == some .eq) = true := by decide
          have Hf := Lib.hid (show true = sameW Ieee.double 0 0 by decide)
          go_enter Try.func76, Try.ntmps76
          go_wp2
          go_ret
          exact ⟨ret_bool Hf.out, rfl⟩
        · have o1 : (FloatKind.f64.format.order 0 0 != some .eq) = false := by decide
          have o4 : (FloatKind.f64.format.order 9223372036854775808 9223372036854775808 != some .eq) = false := by decide
          have o2 : (FloatKind.f64.format.order 0 9223372036854775808 == some .eq) = true := by decide
          have o3 : (FloatKind.f64.format.order 9218868437227405312 18442240474082181120 == some .eq) = false := by decide
          have Hf := Lib.hid (show false = sameW Ieee.double 0 9223372036854775808 by decide)
          go_enter Try.func76, Try.ntmps76
          go_wp2
          go_ret
          exact ⟨ret_bool Hf.out, rfl⟩
        · have o1 : (FloatKind.f64.format.order 0 0 != some .eq) = false := by decide
          have o4 : (FloatKind.f64.format.order 9223372036854775808 9223372036854775808 != some .eq) = false := by decide
          have o5 : (FloatKind.f64.format.order 9223372036854775808 0 != some .eq) = false := by decide
          have o2 : (FloatKind.f64.format.order 9223372036854775808 0 == some .eq) = true := by decide
          have o3 : (FloatKind.f64.format.order 18442240474082181120 9218868437227405312 == some .eq) = false := by decide
          have Hf := Lib.hid (show false = sameW Ieee.double 9223372036854775808 0 by decide)
          go_enter Try.func76, Try.ntmps76
          go_wp2
          go_ret
          exact ⟨ret_bool Hf.out, rfl⟩
        · have o1 : (FloatKind.f64.format.order 9223372036854775808 0 != some .eq) = false := by decide
          have o4 : (FloatKind.f64.format.order 9223372036854775808 9223372036854775808 != some .eq) = false := by decide
          have o2 : (FloatKind.f64.format.order 9223372036854775808 9223372036854775808 == some .eq) = true := by decide
          have o3 : (FloatKind.f64.format.order 18442240474082181120 18442240474082181120 == some .eq) = true := by decide
          have Hf := Lib.hid (show true = sameW Ieee.double 9223372036854775808 9223372036854775808 by decide)
          go_enter Try.func76, Try.ntmps76
          go_wp2
          go_ret
          exact ⟨ret_bool Hf.out, rfl⟩
      · have hab : a = b := sv_inj _ (by rw [width_double]; exact ha) (by rw [width_double]; exact hb) h0 h
        subst hab
        have hz : (FloatKind.f64.format.order a 0 != some .eq) = true := by
          rw [neq_of, order_double a 0 na nan_zero, sv_zero, decide_eq_false (fun e => h0 ((sv_eq_zero _).1 e))]; rfl
        have Hf := Lib.hid (show true = sameW Ieee.double a a by rw [sameW_refl])
        clear h h0 na nb
        go_enter Try.func76, Try.ntmps76
        go_wp2
        go_ret
        exact ⟨ret_bool Hf.out, rfl⟩
    · rw [decide_eq_false h] at ho
      have Hf := Lib.hid (show false = sameW Ieee.double a b by
        unfold sameW; rw [na, nb]; symm
        exact beq_eq_false_iff_ne.2 (fun e => h (by rw [e])))
      clear h na nb
      go_enter Try.func76, Try.ntmps76
      go_wp2
      go_ret
      exact ⟨ret_bool Hf.out, rfl⟩
  all_goals
    rw [na] at sa
    rw [nb] at sb
    have Hf := Lib.hid (show (isNaN Ieee.double a && isNaN Ieee.double b) = sameW Ieee.double a b by unfold sameW; rw [na, nb]; rfl)
    rw [na, nb] at Hf
    clear na nb
    go_enter Try.func76, Try.ntmps76
    go_wp2
    go_ret
    exact ⟨ret_bool Hf.out, rfl⟩
end Go.Proofs.Ytjkjgichneoflaa.SamF
