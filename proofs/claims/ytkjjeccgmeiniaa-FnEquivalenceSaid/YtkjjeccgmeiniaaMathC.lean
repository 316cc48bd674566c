/- Contracts of package math's Abs, IsInf, Trunc at doubles. -/
import Derived.Test.YtkjjeccgmeiniaaFltG
import Derived.Test.YtkjjeccgmeiniaaMath
import Derived.Laws.BitsAllLaws
namespace Go.Proofs.Ytkjjeccgmeiniaa.Flt
end Go.Proofs.Ytkjjeccgmeiniaa.Flt
namespace Go.Proofs.Ytkjjeccgmeiniaa.Mth
open Go.ChangeShapes Go.WideShapes Go.ChangeAt Go.RowKit Go.Proofs.Ytkjjeccgmeiniaa Go.Proofs.Ytkjjeccgmeiniaa.Flt
set_option linter.unusedVariables false
theorem run_frombits (n : Nat) (w : World) : (callFunc 57 #[.int .u64 (n : Int)]).run Try.prog w = .ok (.value (.float .f64 n)) w := by
  rw [run_callFunc_extern (e := Extern.MathFloatBits.float64frombits) Try.func57 (by kernel_rfl) (by kernel_rfl) (by kernel_rfl) (by kernel_rfl)]
  rfl
theorem and_low (a : Nat) : a &&& 9223372036854775807 = rung Ieee.double a := by
  unfold rung; rw [sw_double]
  exact Nat.and_two_pow_sub_one_eq_mod a 63
theorem abs_bits (a : Nat) (ha : a < 18446744073709551616) : bits .andNot .u64 (a : Int) 9223372036854775808 = ((rung Ieee.double a : Nat) : Int) := by
  have h := u64_andNot_nat a 9223372036854775808 ha (by decide)
  rw [← and_low]; exact h
theorem abs_any (a : Nat) (w : World) (ha : a < 18446744073709551616) :
    Calls Try.prog 55 #[.float .f64 a] w fun e w' => e = .returned (.float .f64 (rung Ieee.double a)) ∧ w' = w := by
  have hb := fun w => run_float64bits a w
  have hc := fun w => run_frombits (rung Ieee.double a) w
  rw [← abs_bits a ha] at hc
  go_enter Try.func55, Try.ntmps55
  go_wp2
  go_ret
  exact ⟨rfl, rfl⟩
theorem isInf_any (a : Nat) (w : World) (ha : a < 18446744073709551616) (na : isNaN Ieee.double a = false) :
    Calls Try.prog 50 #[.float .f64 a, .int .i64 0] w fun e w' => e = .returned (.bool (!isFinD a)) ∧ w' = w := by
  have hg : (FloatKind.f64.format.order (rung Ieee.double a) 9218868437227405311 == some .gt) = !isFinD a := by
    have hn := of_decide_eq_false na
    have hr := rung_lt Ieee.double a
    rw [sw_double] at hr
    rw [inf_double] at hn
    have e1 : rung Ieee.double (rung Ieee.double a) = rung Ieee.double a := by
      generalize rung Ieee.double a = r at *
      unfold rung; rw [sw_double]; exact Nat.mod_eq_of_lt hr
    have e2 : sgn Ieee.double (rung Ieee.double a) = false := by
      generalize rung Ieee.double a = r at *
      unfold sgn; rw [sw_double, Nat.div_eq_of_lt hr]; rfl
    rw [gt64]
    unfold ltW isFinD
    rw [show isNaN Ieee.double 9218868437227405311 = false by decide, show isNaN Ieee.double (rung Ieee.double a) = false by unfold isNaN; rw [e1, inf_double]; exact decide_eq_false hn]
    have e3 : sv Ieee.double (rung Ieee.double a) = ((mg Ieee.double (rung Ieee.double a) : Nat) : Int) := by unfold sv; rw [e2, e1]; rfl
    have e4 : sv Ieee.double 9218868437227405311 = ((mg Ieee.double 9218868437227405311 : Nat) : Int) := by unfold sv; rw [show sgn Ieee.double 9218868437227405311 = false by decide, show rung Ieee.double 9218868437227405311 = 9218868437227405311 by decide]; rfl
    rw [e3, e4, inf_double]
    simp only [Bool.not_false, Bool.true_and]
    have h5 : (((mg Ieee.double 9218868437227405311 : Nat) : Int) < ((mg Ieee.double (rung Ieee.double a) : Nat) : Int)) ↔ 9218868437227405311 < rung Ieee.double a := by
      rw [Int.ofNat_lt]; exact mg_lt_iff _
    by_cases h : rung Ieee.double a < 9218868437227405312
    · rw [decide_eq_true h, decide_eq_false (fun e => by have := h5.1 e; omega)]; rfl
    · rw [decide_eq_false h, decide_eq_true (h5.2 (by omega))]; rfl
  clear na
  go_enter Try.func50, Try.ntmps50
  go_wp2_with fail
  refine (abs_any a _ ha).mono ?_
  rintro e w' ⟨rfl, rfl⟩
  go_wp2_with fail
  go_ret
  exact ⟨rfl, rfl⟩
theorem fin_any (a : Nat) (w : World) (ha : a < 18446744073709551616) :
    Calls Try.prog 35 #[.float .f64 a] w fun e w' => e = .returned (.bool (isFinD a)) ∧ w' = w := by
  cases na : isNaN Ieee.double a
  · go_enter Try.func35, Try.ntmps35
    go_wp2_with fail
    refine (isNaN_any a _).mono ?_
    rintro e w' ⟨rfl, rfl⟩
    go_wp2_with fail
    refine (isInf_any a _ ha na).mono ?_
    rintro e w' ⟨rfl, rfl⟩
    go_wp2_with fail
    go_ret
    exact ⟨ret_bool (by simp), rfl⟩
  · have hf := isFin_nan na
    go_enter Try.func35, Try.ntmps35
    go_wp2_with fail
    refine (isNaN_any a _).mono ?_
    rintro e w' ⟨rfl, rfl⟩
    go_wp2_with fail
    go_ret
    exact ⟨ret_bool (by rw [hf]), rfl⟩
end Go.Proofs.Ytkjjeccgmeiniaa.Mth
