/- Contracts of package math's Frexp, Ldexp and Mod, as far as whole numbers modulo 2 want them. -/
import Derived.Test.YtlngplohnknhjaaGreatDoorPkB
import Derived.Test.YtlngplohnknhjaaGreatDoorPkA
namespace Go.Proofs.YtlngplohnknhjaaGreatDoor.Mth
open Go.ChangeShapes Go.WideShapes Go.ChangeAt Go.RowKit Go.Proofs.YtlngplohnknhjaaGreatDoor Go.Proofs.YtlngplohnknhjaaGreatDoor.Flt
set_option linter.unusedVariables false
theorem pos_facts {N : Nat} (h1 : 4503599627370496 ≤ N) (h2 : N < 9218868437227405312) :
    rung Ieee.double N = N ∧ sgn Ieee.double N = false ∧ isNaN Ieee.double N = false ∧ isFinD N = true ∧ (FloatKind.f64.format.order N 4503599627370496 == some .lt) = false ∧ (FloatKind.f64.format.order N 0 == some .eq) = false ∧ (FloatKind.f64.format.order N 0 == some .lt) = false := by
  have e1 : rung Ieee.double N = N := by unfold rung; rw [sw_double]; exact Nat.mod_eq_of_lt (by omega)
  have e2 : sgn Ieee.double N = false := by unfold sgn; rw [sw_double, Nat.div_eq_of_lt (by omega)]; rfl
  have e3 : isNaN Ieee.double N = false := by unfold isNaN; rw [e1, inf_double]; exact decide_eq_false (by omega)
  have e4 : sv Ieee.double N = ((mg Ieee.double N : Nat) : Int) := by unfold sv; rw [e2, e1]; rfl
  refine ⟨e1, e2, e3, by unfold isFinD; rw [e1, inf_double]; exact decide_eq_true h2, ?_, ?_, ?_⟩
  · rw [lt64]; unfold ltW
    rw [e3, show isNaN Ieee.double 4503599627370496 = false by decide, e4, show sv Ieee.double 4503599627370496 = ((mg Ieee.double 4503599627370496 : Nat) : Int) by unfold sv; rw [show sgn Ieee.double 4503599627370496 = false by decide, show rung Ieee.double 4503599627370496 = 4503599627370496 by decide]; rfl]
    simp only [Bool.not_false, Bool.true_and]
    refine decide_eq_false fun h => ?_
    have := (mg_lt_iff Ieee.double).1 (Int.ofNat_lt.1 h)
    omega
  · rw [eq64, eqW_zero _ e3, e1]; exact decide_eq_false (by omega)
  · rw [lt64]; unfold ltW; rw [e3, nan_zero, sv_zero, e4]
    simp only [Bool.not_false, Bool.true_and]
    exact decide_eq_false (by omega)
theorem normalize_any (N : Nat) (w : World) (h1 : 4503599627370496 ≤ N) (h2 : N < 9218868437227405312) :
    Calls Tryz.prog 163 #[.float .f64 N] w fun e w' => e = .returned (.tuple #[.float .f64 N, .int .i64 0]) ∧ w' = w := by
  obtain ⟨e1, e2, e3, e4, l1, l2, l3⟩ := pos_facts h1 h2
  clear e2 e3 e4 l2 l3
  go_enter Tryz.func163, Tryz.ntmps163
  go_wp2_with fail
  refine (abs_any N _ (by omega)).mono ?_
  rintro e w' ⟨rfl, rfl⟩
  rw [e1]
  go_wp2_with fail
  go_ret2
  exact ⟨rfl, rfl⟩
theorem and_mask (N : Nat) (h : N < 9223372036854775808) : N &&& 9227875636482146303 = N % 4503599627370496 := by
  have e1 : (9227875636482146303 : Nat) = 4503599627370495 ||| 9223372036854775808 := by decide
  rw [e1, Nat.and_or_distrib_left]
  have e2 : N &&& 4503599627370495 = N % 4503599627370496 := Nat.and_two_pow_sub_one_eq_mod N 52
  have e3 : N &&& 9223372036854775808 = 0 := by
    have : (9223372036854775808 : Nat) = 2 ^ 63 := by decide
    rw [this]
    apply Nat.eq_of_testBit_eq
    intro i
    rw [Nat.testBit_and, Nat.testBit_two_pow, Nat.zero_testBit]
    by_cases hi : 63 = i
    · subst hi; rw [Nat.testBit_lt_two_pow (by omega)]; rfl
    · rw [decide_eq_false hi, Bool.and_false]
  rw [e2, e3, Nat.or_zero]
theorem frexp_bits (N : Nat) (h2 : N < 9218868437227405312) :
    bits .and .u64 ((N : Int) / 4503599627370496) 2047 = ((N / 4503599627370496 : Nat) : Int) ∧ bits .andNot .u64 (N : Int) 9218868437227405312 = ((N % 4503599627370496 : Nat) : Int) ∧
      bits .or .u64 ((N % 4503599627370496 : Nat) : Int) 4602678819172646912 = ((4602678819172646912 + N % 4503599627370496 : Nat) : Int) := by
  have hE : N / 4503599627370496 < 2048 := by omega
  have hf : N % 4503599627370496 < 4503599627370496 := Nat.mod_lt _ (by omega)
  refine ⟨?_, ?_, ?_⟩
  · have h := u64_and_nat (N / 4503599627370496) 2047 (by omega) (by decide)
    rw [show ((N : Int) / 4503599627370496) = ((N / 4503599627370496 : Nat) : Int) by omega]
    have e : N / 4503599627370496 &&& 2047 = N / 4503599627370496 := by
      have := Nat.and_two_pow_sub_one_eq_mod (N / 4503599627370496) 11
      rw [show (2 : Nat) ^ 11 - 1 = 2047 by decide] at this
      rw [this]; exact Nat.mod_eq_of_lt (by omega)
    rw [e] at h; exact h
  · have h := u64_andNot_nat N 9218868437227405312 (by omega) (by decide)
    rw [show 18446744073709551615 - 9218868437227405312 = 9227875636482146303 by decide, and_mask N (by omega)] at h
    exact h
  · have h := u64_or_nat (N % 4503599627370496) 4602678819172646912 (by omega) (by decide)
    have e := Nat.two_pow_add_eq_or_of_lt (i := 52) (a := 1022) (show N % 4503599627370496 < 2 ^ 52 by omega)
    rw [show (2 : Nat) ^ 52 * 1022 = 4602678819172646912 by decide] at e
    rw [Nat.or_comm, ← e] at h
    exact h
theorem ret_frexp {g : Nat} {a b : Int} (h : a = b) : Ending.returned (.tuple #[.float .f64 g, .int .i64 a]) = .returned (.tuple #[.float .f64 g, .int .i64 b]) := by rw [h]
theorem frexp_any (N E f g : Nat) (w : World) (h1 : 4503599627370496 ≤ N) (h2 : N < 9218868437227405312) (hE : E = N / 4503599627370496) (hf : f = N % 4503599627370496) (hg : g = 4602678819172646912 + f) :
    Calls Tryz.prog 157 #[.float .f64 N] w fun e w' => e = .returned (.tuple #[.float .f64 g, .int .i64 ((E : Int) - 1022)]) ∧ w' = w := by
  obtain ⟨e1, e2, e3, e4, l1, l2, l3⟩ := pos_facts h1 h2
  obtain ⟨b1, b2, b3⟩ := frexp_bits N h2
  rw [← hf, ← hg] at b3
  rw [← hf] at b2
  rw [← hE] at b1
  have hE1 : 1 ≤ E := by omega
  have hE2 : E ≤ 2046 := by omega
  have k1 := fun w => run_float64bits N w
  have k2 := fun w => run_frombits g w
  have hg' : g < 18446744073709551616 := by omega
  clear hE hf hg l1 l3 e1 e2
  go_enter Tryz.func157, Tryz.ntmps157
  go_wp2_with fail
  refine (isInf_any N _ (by omega) e3).mono ?_
  rintro e w' ⟨rfl, rfl⟩
  go_wp2_with fail
  refine (isNaN_any N _).mono ?_
  rintro e w' ⟨rfl, rfl⟩
  go_wp2_with fail
  refine (normalize_any N _ h1 h2).mono ?_
  rintro e w' ⟨rfl, rfl⟩
  go_wp2_with fail
  go_ret2
  exact ⟨ret_frexp (by omega), rfl⟩
theorem Frexp_any (N E f g : Nat) (w : World) (h1 : 4503599627370496 ≤ N) (h2 : N < 9218868437227405312) (hE : E = N / 4503599627370496) (hf : f = N % 4503599627370496) (hg : g = 4602678819172646912 + f) :
    Calls Tryz.prog 146 #[.float .f64 N] w fun e w' => e = .returned (.tuple #[.float .f64 g, .int .i64 ((E : Int) - 1022)]) ∧ w' = w := by
  go_enter Tryz.func146, Tryz.ntmps146
  go_wp2_with fail
  refine (frexp_any N E f g _ h1 h2 hE hf hg).mono ?_
  rintro e w' ⟨rfl, rfl⟩
  have HE := Lib.hid hE
  have Hf := Lib.hid hf
  have Hg := Lib.hid hg
  clear hE hf hg
  go_wp2_with fail
  go_ret2
  exact ⟨rfl, rfl⟩
theorem two_facts : (4503599627370496 : Nat) ≤ 4611686018427387904 ∧ 4611686018427387904 < 9218868437227405312 ∧ (1024 : Nat) = 4611686018427387904 / 4503599627370496 ∧ (0 : Nat) = 4611686018427387904 % 4503599627370496 ∧ (4602678819172646912 : Nat) = 4602678819172646912 + 0 := by decide
theorem read_one : Ieee.double.read 4607182418800017408 = .number false P52 (-52) := by decide
theorem mul_one {p : Nat} (h : p < 9218868437227405312) : floatBits .mul .f64 4607182418800017408 p = some p := by
  have e1 : rung Ieee.double p = p := by unfold rung; rw [sw_double]; exact Nat.mod_eq_of_lt (by omega)
  have e2 : sgn Ieee.double p = false := by unfold sgn; rw [sw_double, Nat.div_eq_of_lt (by omega)]; rfl
  have hrd := reads_fin Ieee.double (w := p) (by rw [e1, inf_double]; exact h)
  rw [e1, e2] at hrd
  have hmg := mg_ss Ieee.double p
  show Ieee.double.mul 4607182418800017408 p = some p
  unfold Ieee.Format.mul
  rw [read_one, hrd, product_num, Option.map_some, write_num, Bool.xor_self]
  rw [show (-52 : Int) + (Ieee.double.leastPlace + (qq Ieee.double p : Int)) = Ieee.double.leastPlace + (qq Ieee.double p : Int) - ((52 : Nat) : Int) by omega]
  rw [nearest_exact' Ieee.double false _ _ 52 p (by rw [inf_double]; omega) (by rw [hmg, P52_pow, Nat.mul_assoc, Nat.mul_comm]), word_false]
theorem or_zero (X : Nat) (h : X < 18446744073709551616) : bits .or .u64 0 (X : Int) = (X : Int) := by
  have := u64_or_nat 0 X (by decide) h
  rw [Nat.zero_or] at this; exact this
/-- 2.0 scaled: a power of two -/
theorem ldexp_any (k : Int) (E p : Nat) (w : World) (hE : (E : Int) = k + 1024) (h1 : 1 ≤ E) (h2 : E ≤ 2046) (hp : p = E * 4503599627370496) :
    Calls Tryz.prog 159 #[.float .f64 4611686018427387904, .int .i64 k] w fun e w' => e = .returned (.float .f64 p) ∧ w' = w := by
  obtain ⟨e1, e2, e3, e4, l1, l2, l3⟩ := pos_facts two_facts.1 two_facts.2.1
  have k1 := fun w => run_float64bits 4611686018427387904 w
  have hk1 : -1023 ≤ k := by omega
  have hk2 : k ≤ 1022 := by omega
  have c1 : bits .and .i64 1024 2047 = 1024 := by decide
  have c2 : bits .andNot .u64 4611686018427387904 9218868437227405312 = 0 := by decide
  have hp2 : p < 9218868437227405312 := by omega
  have k2 := fun w => run_frombits p w
  have k3 := fun w => run_float_arith (P := Tryz.prog) w .mul 60 .f64 _ _ _ (mul_one hp2)
  have hX : bits .or .u64 0 ((k + 1 + 1023) * 4503599627370496) = (p : Int) := by
    rw [show (k + 1 + 1023) * 4503599627370496 = (p : Int) by omega]; exact or_zero p (by omega)
  rw [← hX] at k2
  clear hE l1 l3 e1 e2 hp hX
  go_enter Tryz.func159, Tryz.ntmps159
  go_wp2_with fail
  refine (isInf_any _ _ (by decide) e3).mono ?_
  rintro e w' ⟨rfl, rfl⟩
  go_wp2_with fail
  refine (isNaN_any _ _).mono ?_
  rintro e w' ⟨rfl, rfl⟩
  go_wp2_with fail
  refine (normalize_any _ _ two_facts.1 two_facts.2.1).mono ?_
  rintro e w' ⟨rfl, rfl⟩
  go_wp2_with fail
  go_ret
  exact ⟨rfl, rfl⟩
theorem Ldexp_any (k : Int) (E p : Nat) (w : World) (hE : (E : Int) = k + 1024) (h1 : 1 ≤ E) (h2 : E ≤ 2046) (hp : p = E * 4503599627370496) :
    Calls Tryz.prog 147 #[.float .f64 4611686018427387904, .int .i64 k] w fun e w' => e = .returned (.float .f64 p) ∧ w' = w := by
  go_enter Tryz.func147, Tryz.ntmps147
  go_wp2_with fail
  refine (ldexp_any k E p _ hE h1 h2 hp).mono ?_
  rintro e w' ⟨rfl, rfl⟩
  clear hE hp
  go_wp2_with fail
  go_ret
  exact ⟨rfl, rfl⟩
end Go.Proofs.YtlngplohnknhjaaGreatDoor.Mth
