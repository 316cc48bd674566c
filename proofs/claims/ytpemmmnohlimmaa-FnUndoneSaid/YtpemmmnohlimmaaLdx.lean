/- The contract of math.Ldexp at 1: a power of two. -/
import Derived.Test.YtpemmmnohlimmaaMathC
import Derived.Test.YtpemmmnohlimmaaFltF
namespace Go.Proofs.Ytpemmmnohlimmaa.Mth
open Go.ChangeShapes Go.WideShapes Go.ChangeAt Go.RowKit Go.Proofs.Ytpemmmnohlimmaa Go.Proofs.Ytpemmmnohlimmaa.Flt
set_option linter.unusedVariables false
theorem pos_facts {N : Nat} (h1 : 4503599627370496 ≤ N) (h2 : N < 9218868437227405312) :
    rung Ieee.double N = N ∧ sgn Ieee.double N = false ∧ isNaN Ieee.double N = false ∧ isFinD N = true ∧ (FloatKind.f64.format.order N 4503599627370496 == some .lt) = false ∧ (FloatKind.f64.format.order N 0 == some .eq) = false ∧ (FloatKind.f64.format.order N 0 == some .lt) = false := by
  have e1 : rung Ieee.double N = N := by unfold rung; rw [sw_double]; exact Nat.mod_eq_of_lt (by omega)
  have e2 : sgn Ieee.double N = false := by unfold sgn; rw [sw_double, Nat.div_eq_of_lt (by omega)]; rfl
  have e3 : isNaN Ieee.double N = false := by unfold isNaN; rw [e1, inf_double]; exact decide_eq_false (by omega)
  have e4 : sv Ieee.double N = ((mg Ieee.double N : Nat) : Int) := by unfold sv; rw [e2, e1]; rfl
  refine ⟨e1, e2, e3, by unfold isFinD; rw [e1, inf_double]; exact decide_eq_true h2, ?_, ?_, ?_⟩
  · rw [lt64]; unfold ltW
    rw [e3, show isNaN Ieee.double 4503599627370496 = false by decide, e4, show sv Ieee.double 4503599627370496 = ((mg Ieee.double 4503599627370496 : Nat) : Int) by unfold sv; rw [show sgn Ieee.double 4503599627370496 = false by decide, show rung Ieee.double 4503599627370496 = 4503599627370496 by decide]; rfl]
    simp only [Bool.not_false, Bool.true_and]
    refine decide_eq_false fun h => ?_
    have := (mg_lt_iff Ieee.double).1 (Int.ofNat_lt.1 h)
    omega
  · rw [eq64, eqW_zero _ e3, e1]; exact decide_eq_false (by omega)
  · rw [lt64]; unfold ltW; rw [e3, nan_zero, sv_zero, e4]
    simp only [Bool.not_false, Bool.true_and]
    exact decide_eq_false (by omega)
theorem normalize_any (N : Nat) (w : World) (h1 : 4503599627370496 ≤ N) (h2 : N < 9218868437227405312) :
    Calls Try.prog 60 #[.float .f64 N] w fun e w' => e = .returned (.tuple #[.float .f64 N, .int .i64 0]) ∧ w' = w := by
  obtain ⟨e1, e2, e3, e4, l1, l2, l3⟩ := pos_facts h1 h2
  clear e2 e3 e4 l2 l3
  go_enter Try.func60, Try.ntmps60
  go_wp2_with fail
  refine (abs_any N _ (by omega)).mono ?_
  rintro e w' ⟨rfl, rfl⟩
  rw [e1]
  go_wp2_with fail
  go_ret2
  exact ⟨rfl, rfl⟩
theorem one_facts : (4503599627370496 : Nat) ≤ 4607182418800017408 ∧ 4607182418800017408 < 9218868437227405312 := by decide
theorem read_one : Ieee.double.read 4607182418800017408 = .number false P52 (-52) := by decide
theorem mul_one {p : Nat} (h : p < 9218868437227405312) : floatBits .mul .f64 4607182418800017408 p = some p := by
  have e1 : rung Ieee.double p = p := by unfold rung; rw [sw_double]; exact Nat.mod_eq_of_lt (by omega)
  have e2 : sgn Ieee.double p = false := by unfold sgn; rw [sw_double, Nat.div_eq_of_lt (by omega)]; rfl
  have hrd := reads_fin Ieee.double (w := p) (by rw [e1, inf_double]; exact h)
  rw [e1, e2] at hrd
  have hmg := mg_ss Ieee.double p
  show Ieee.double.mul 4607182418800017408 p = some p
  unfold Ieee.Format.mul
  rw [read_one, hrd, product_num, Option.map_some, write_num, Bool.xor_self]
  rw [show (-52 : Int) + (Ieee.double.leastPlace + (qq Ieee.double p : Int)) = Ieee.double.leastPlace + (qq Ieee.double p : Int) - ((52 : Nat) : Int) by omega]
  rw [nearest_exact' Ieee.double false _ _ 52 p (by rw [inf_double]; omega) (by rw [hmg, P52_pow, Nat.mul_assoc, Nat.mul_comm]), word_false]
theorem or_zero (X : Nat) (h : X < 18446744073709551616) : bits .or .u64 0 (X : Int) = (X : Int) := by
  have := u64_or_nat 0 X (by decide) h
  rw [Nat.zero_or] at this; exact this
theorem ldexp_any (k : Int) (E p : Nat) (w : World) (hE : (E : Int) = k + 1023) (h1 : 1 ≤ E) (h2 : E ≤ 2046) (hp : p = E * 4503599627370496) :
    Calls Try.prog 57 #[.float .f64 4607182418800017408, .int .i64 k] w fun e w' => e = .returned (.float .f64 p) ∧ w' = w := by
  obtain ⟨e1, e2, e3, e4, l1, l2, l3⟩ := pos_facts one_facts.1 one_facts.2
  have k1 := fun w => run_float64bits 4607182418800017408 w
  have hk1 : -1022 ≤ k := by omega
  have hk2 : k ≤ 1023 := by omega
  have c1 : bits .and .i64 1023 2047 = 1023 := by decide
  have c2 : bits .andNot .u64 4607182418800017408 9218868437227405312 = 0 := by decide
  have hp2 : p < 9218868437227405312 := by omega
  have k2 := fun w => run_frombits p w
  have k3 := fun w => run_float_arith (P := Try.prog) w .mul 37 .f64 _ _ _ (mul_one hp2)
  have hX : bits .or .u64 0 ((k + 1023) * 4503599627370496) = (p : Int) := by
    rw [show (k + 1023) * 4503599627370496 = (p : Int) by omega]; exact or_zero p (by omega)
  rw [← hX] at k2
  clear hE l1 l3 e1 e2 hp hX
  go_enter Try.func57, Try.ntmps57
  go_wp2_with fail
  refine (isInf_any _ _ (by decide) e3).mono ?_
  rintro e w' ⟨rfl, rfl⟩
  go_wp2_with fail
  refine (isNaN_any _ _).mono ?_
  rintro e w' ⟨rfl, rfl⟩
  go_wp2_with fail
  refine (normalize_any _ _ one_facts.1 one_facts.2).mono ?_
  rintro e w' ⟨rfl, rfl⟩
  go_wp2_with fail
  go_ret
  exact ⟨rfl, rfl⟩
theorem Ldexp_any (k : Int) (E p : Nat) (w : World) (hE : (E : Int) = k + 1023) (h1 : 1 ≤ E) (h2 : E ≤ 2046) (hp : p = E * 4503599627370496) :
    Calls Try.prog 52 #[.float .f64 4607182418800017408, .int .i64 k] w fun e w' => e = .returned (.float .f64 p) ∧ w' = w := by
  go_enter Try.func52, Try.ntmps52
  go_wp2_with fail
  refine (ldexp_any k E p _ hE h1 h2 hp).mono ?_
  rintro e w' ⟨rfl, rfl⟩
  clear hE hp
  go_wp2_with fail
  go_ret
  exact ⟨rfl, rfl⟩
end Go.Proofs.Ytpemmmnohlimmaa.Mth
