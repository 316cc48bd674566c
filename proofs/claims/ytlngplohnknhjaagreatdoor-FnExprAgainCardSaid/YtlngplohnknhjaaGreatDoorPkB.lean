/- Several texts in one: MathC, MathB, FltH, QuoZ, Same, SignedS, MathSb, SgnText, ParseU, ExpC0, SamF, FltX, FltR, FltK, Dec, ScnI, FltS, FltT, Old, Same64, SameZ. Lemmas of this proof; no further condition. -/
import Derived.Test.YtlngplohnknhjaaGreatDoorPkA
import Derived.Laws.BitsAllLaws
import Derived.Outline
import Derived.Test.YtlngplohnknhjaaGreatDoorChecked
import Derived.Handy
import Derived.Test.YtlngplohnknhjaaGreatDoorRows
import Derived.Deep.QuietTactic
import Derived.BigQuiet
import Derived.Lib.IndexBytes
import Derived.Lib.Strings
import Derived.WalkKit
import Derived.WalkLawsBesides
import Derived.WalkMore
import Derived.WalkSpells
import Derived.Lib.Hide
import Derived.Below
/- Contracts of package math's Abs, IsInf, Trunc at doubles. -/
namespace Go.Proofs.YtlngplohnknhjaaGreatDoor.Mth
open Go.ChangeShapes Go.WideShapes Go.ChangeAt Go.RowKit Go.Proofs.YtlngplohnknhjaaGreatDoor Go.Proofs.YtlngplohnknhjaaGreatDoor.Flt
set_option linter.unusedVariables false
theorem run_frombits (n : Nat) (w : World) : (callFunc 121 #[.int .u64 (n : Int)]).run Tryz.prog w = .ok (.value (.float .f64 n)) w := by
  rw [run_callFunc_extern (e := Extern.MathFloatBits.float64frombits) Tryz.func121 (by kernel_rfl) (by kernel_rfl) (by kernel_rfl) (by kernel_rfl)]
  rfl
theorem and_low (a : Nat) : a &&& 9223372036854775807 = rung Ieee.double a := by
  unfold rung; rw [sw_double]
  exact Nat.and_two_pow_sub_one_eq_mod a 63
theorem abs_bits (a : Nat) (ha : a < 18446744073709551616) : bits .andNot .u64 (a : Int) 9223372036854775808 = ((rung Ieee.double a : Nat) : Int) := by
  have h := u64_andNot_nat a 9223372036854775808 ha (by decide)
  rw [← and_low]; exact h
theorem abs_any (a : Nat) (w : World) (ha : a < 18446744073709551616) :
    Calls Tryz.prog 105 #[.float .f64 a] w fun e w' => e = .returned (.float .f64 (rung Ieee.double a)) ∧ w' = w := by
  have hb := fun w => run_float64bits a w
  have hc := fun w => run_frombits (rung Ieee.double a) w
  rw [← abs_bits a ha] at hc
  go_enter Tryz.func105, Tryz.ntmps105
  go_wp2
  go_ret
  exact ⟨rfl, rfl⟩
theorem isInf_any (a : Nat) (w : World) (ha : a < 18446744073709551616) (na : isNaN Ieee.double a = false) :
    Calls Tryz.prog 89 #[.float .f64 a, .int .i64 0] w fun e w' => e = .returned (.bool (!isFinD a)) ∧ w' = w := by
  have hg : (FloatKind.f64.format.order (rung Ieee.double a) 9218868437227405311 == some .gt) = !isFinD a := by
    have hn := of_decide_eq_false na
    have hr := rung_lt Ieee.double a
    rw [sw_double] at hr
    rw [inf_double] at hn
    have e1 : rung Ieee.double (rung Ieee.double a) = rung Ieee.double a := by
      generalize rung Ieee.double a = r at *
      unfold rung; rw [sw_double]; exact Nat.mod_eq_of_lt hr
    have e2 : sgn Ieee.double (rung Ieee.double a) = false := by
      generalize rung Ieee.double a = r at *
      unfold sgn; rw [sw_double, Nat.div_eq_of_lt hr]; rfl
    rw [gt64]
    unfold ltW isFinD
    rw [show isNaN Ieee.double 9218868437227405311 = false by decide, show isNaN Ieee.double (rung Ieee.double a) = false by unfold isNaN; rw [e1, inf_double]; exact decide_eq_false hn]
    have e3 : sv Ieee.double (rung Ieee.double a) = ((mg Ieee.double (rung Ieee.double a) : Nat) : Int) := by unfold sv; rw [e2, e1]; rfl
    have e4 : sv Ieee.double 9218868437227405311 = ((mg Ieee.double 9218868437227405311 : Nat) : Int) := by unfold sv; rw [show sgn Ieee.double 9218868437227405311 = false by decide, show rung Ieee.double 9218868437227405311 = 9218868437227405311 by decide]; rfl
    rw [e3, e4, inf_double]
    simp only [Bool.not_false, Bool.true_and]
    have h5 : (((mg Ieee.double 9218868437227405311 : Nat) : Int) < ((mg Ieee.double (rung Ieee.double a) : Nat) : Int)) ↔ 9218868437227405311 < rung Ieee.double a := by
      rw [Int.ofNat_lt]; exact mg_lt_iff _
    by_cases h : rung Ieee.double a < 9218868437227405312
    · rw [decide_eq_true h, decide_eq_false (fun e => by have := h5.1 e; omega)]; rfl
    · rw [decide_eq_false h, decide_eq_true (h5.2 (by omega))]; rfl
  clear na
  go_enter Tryz.func89, Tryz.ntmps89
  go_wp2_with fail
  refine (abs_any a _ ha).mono ?_
  rintro e w' ⟨rfl, rfl⟩
  go_wp2_with fail
  go_ret
  exact ⟨rfl, rfl⟩
theorem fin_any (a : Nat) (w : World) (ha : a < 18446744073709551616) :
    Calls Tryz.prog 94 #[.float .f64 a] w fun e w' => e = .returned (.bool (isFinD a)) ∧ w' = w := by
  cases na : isNaN Ieee.double a
  · go_enter Tryz.func94, Tryz.ntmps94
    go_wp2_with fail
    refine (isNaN_any a _).mono ?_
    rintro e w' ⟨rfl, rfl⟩
    go_wp2_with fail
    refine (isInf_any a _ ha na).mono ?_
    rintro e w' ⟨rfl, rfl⟩
    go_wp2_with fail
    go_ret
    exact ⟨ret_bool (by simp), rfl⟩
  · have hf := isFin_nan na
    go_enter Tryz.func94, Tryz.ntmps94
    go_wp2_with fail
    refine (isNaN_any a _).mono ?_
    rintro e w' ⟨rfl, rfl⟩
    go_wp2_with fail
    go_ret
    exact ⟨ret_bool (by rw [hf]), rfl⟩
end Go.Proofs.YtlngplohnknhjaaGreatDoor.Mth

/- Contracts of package math: Trunc. -/
namespace Go.Proofs.YtlngplohnknhjaaGreatDoor.Mth
open Go.ChangeShapes Go.WideShapes Go.ChangeAt Go.RowKit Go.Proofs.YtlngplohnknhjaaGreatDoor Go.Proofs.YtlngplohnknhjaaGreatDoor.Flt
set_option linter.unusedVariables false
theorem run_archTrunc (a : Nat) (na : isNaN Ieee.double a = false) (w : World) : (callFunc 123 #[.float .f64 a]).run Tryz.prog w = .ok (.value (.float .f64 (Ieee.double.write ((Ieee.double.read a).integral .zero)))) w := by
  rw [run_callFunc_extern (e := Extern.MathFloor.toIntegral "math.archTrunc" .zero) Tryz.func123 (by kernel_rfl) (by kernel_rfl) (by kernel_rfl) (by kernel_rfl)]
  have hn := of_decide_eq_false na
  have key : ∀ d : Ieee.Datum, Ieee.double.read a = d → d.isNaN = false → (Extern.MathFloor.toIntegral "math.archTrunc" .zero #[.float .f64 a]).run Tryz.prog w = .ok (.float .f64 (Ieee.double.write (d.integral .zero))) w := by
    intro d hd' hnn
    show (Sem.run Tryz.prog (match Ieee.double.read a with
      | .nan s t => if FloatKind.f64.format.quiet t = t then pure (Value.float .f64 a) else
          (choose (.extern _ 2) >>= fun kept => pure (Value.float .f64 (if kept == 1 then a else FloatKind.f64.encode (.nan s (FloatKind.f64.format.quiet t)))))
      | d => pure (Value.float .f64 (FloatKind.f64.encode (d.integral .zero)))) w) = _
    rw [hd']
    cases d with
    | number s m p => rfl
    | infinity s => rfl
    | nan s t => cases hnn
  rcases reads Ieee.double hd a with ⟨m, e, hr, _, h⟩ | ⟨hr, h⟩ | ⟨t, hr, h⟩
  · rw [key _ h rfl, h]; rfl
  · rw [key _ h rfl, h]; rfl
  · omega
theorem write_A {F : Nat} (hF : F < 9007199254740992) : Ieee.double.write (.number false F 0) = A F 149 := by
  have hs := A_spec (m := F) (q := 149) hF (by omega)
  rw [write_num]
  have h := nearest_exact' Ieee.double false F (W + 149) 0 (A F 149) (Nat.le_of_lt hs.1) (by rw [hs.2, Nat.pow_zero, Nat.mul_one])
  rw [least_double] at h
  rw [show (0 : Int) = -1074 + ((W + 149 : Nat) : Int) - ((0 : Nat) : Int) by rw [W_eq]; omega, h]
  rfl
theorem trunc_any (m q : Nat) (w : World) (hm : m < 9007199254740992) (hq : q ≤ 1000) (hF : m * 2 ^ q / 2 ^ 149 < 9007199254740992) :
    Calls Tryz.prog 107 #[.float .f64 (A m q)] w fun e w' => e = .returned (.float .f64 (A (m * 2 ^ q / 2 ^ 149) 149)) ∧ w' = w := by
  have ht := fun w => run_archTrunc (A m q) (nan_A hm hq) w
  rw [whole_A hm hq, write_A hF] at ht
  generalize A m q = a at *
  generalize A (m * 2 ^ q / 2 ^ 149) 149 = b at *
  clear hF
  go_enter Tryz.func107, Tryz.ntmps107
  go_wp2
  go_ret
  exact ⟨rfl, rfl⟩
end Go.Proofs.YtlngplohnknhjaaGreatDoor.Mth

/- Plain facts: the top binary digit of a whole number times a power of two, and what is left. No program stands here. -/
namespace Go.Proofs.YtlngplohnknhjaaGreatDoor.Flt
open Ieee
theorem A_parts {m q : Nat} (h0 : 0 < m) (hm : m < 9007199254740992) (hq : q ≤ 1000) :
    4503599627370496 ≤ A m q ∧ A m q < 9218868437227405312 ∧ 1 ≤ A m q / 4503599627370496 ∧ A m q / 4503599627370496 ≤ 2046 ∧ A m q / 4503599627370496 * 4503599627370496 = A (2 ^ m.log2) q := by
  have hs := A_spec hm hq
  have hlt := A_lt hm hq
  have hex := ex_mg double (A m q)
  unfold ex at hex
  rw [hs.2, Nat.div_one, log2_shift (by omega), show double.fractionBits = 52 by decide] at hex
  have hqq : qq double (A m q) = A m q / 4503599627370496 - 1 := by unfold qq; rw [binade_double]
  rw [hqq] at hex
  have hW := W_eq
  obtain ⟨E, hE⟩ : ∃ E, E = A m q / 4503599627370496 := ⟨_, rfl⟩
  rw [← hE] at hex ⊢
  have hE1 : E + 51 = m.log2 + (W + q) := by omega
  have hE2 : E ≤ 2046 := by omega
  refine ⟨by omega, hlt, by omega, hE2, ?_⟩
  have hp : mg double (E * 4503599627370496) = 2 ^ m.log2 * 2 ^ (W + q) := by
    unfold mg
    rw [binade_double, if_neg (by omega), Nat.mul_mod_left, Nat.add_zero, Nat.mul_div_cancel _ (by omega), ← Nat.pow_add, ← hE1]
    show P52 * _ = _
    rw [← P52_pow, ← Nat.pow_add]
    congr 1
    omega
  unfold A
  exact (rr_exact double _ (by omega) (by rw [hp, Nat.mul_one])).symm
theorem A_mono {m n q : Nat} (hm : m < 9007199254740992) (hq : q ≤ 1000) (h : n < m) : A n q < A m q := by
  rw [← mg_lt_iff double, (A_spec hm hq).2, (A_spec (show n < 9007199254740992 by omega) hq).2]
  exact Nat.mul_lt_mul_of_pos_right h (Nat.two_pow_pos _)
theorem sum_sub (s1 s2 e1 e2 V1 V2 : Nat) (L : Int) (h1 : s1 * 2 ^ e1 = V1) (h2 : s2 * 2 ^ e2 = V2) (h : V2 ≤ V1) :
    ∃ T b, Datum.sum (.number false s1 (L + (e1 : Int))) (.number true s2 (L + (e2 : Int))) = some (.number false T (L + ((b : Nat) : Int))) ∧ T * 2 ^ b = V1 - V2 := by
  obtain ⟨b, d1, d2, rfl, rfl, hb⟩ : ∃ b d1 d2, e1 = b + d1 ∧ e2 = b + d2 ∧ (d1 = 0 ∨ d2 = 0) := ⟨min e1 e2, e1 - min e1 e2, e2 - min e1 e2, by omega, by omega, by omega⟩
  have hmin : min (L + ((b + d1 : Nat) : Int)) (L + ((b + d2 : Nat) : Int)) = L + (b : Int) := by omega
  have hx : s1 * 2 ^ d1 * 2 ^ b = V1 := by rw [← h1, Nat.mul_assoc, ← Nat.pow_add, Nat.add_comm d1]
  have hy : s2 * 2 ^ d2 * 2 ^ b = V2 := by rw [← h2, Nat.mul_assoc, ← Nat.pow_add, Nat.add_comm d2]
  have hxy : s2 * 2 ^ d2 ≤ s1 * 2 ^ d1 := by
    refine Nat.le_of_mul_le_mul_right (c := 2 ^ b) ?_ (Nat.two_pow_pos _)
    rw [hx, hy]; exact h
  refine ⟨s1 * 2 ^ d1 - s2 * 2 ^ d2, b, ?_, by rw [Nat.sub_mul, hx, hy]⟩
  unfold Datum.sum
  simp only
  rw [hmin, show (L + ((b + d1 : Nat) : Int) - (L + (b : Int))).toNat = d1 by omega, show (L + ((b + d2 : Nat) : Int) - (L + (b : Int))).toNat = d2 by omega, signed_eq, signed_eq]
  simp only [Bool.false_eq_true, if_false, if_true]
  have htot : ((s1 * 2 ^ d1 : Nat) : Int) + -((s2 * 2 ^ d2 : Nat) : Int) = ((s1 * 2 ^ d1 - s2 * 2 ^ d2 : Nat) : Int) := by omega
  rw [htot]
  congr 2
  by_cases hz : ((s1 * 2 ^ d1 - s2 * 2 ^ d2 : Nat) : Int) = 0
  · rw [if_pos hz]; rfl
  · rw [if_neg hz]; exact decide_eq_false (by omega)
theorem sub_A {m n q : Nat} (hm : m < 9007199254740992) (hq : q ≤ 1000) (h : n ≤ m) : floatBits .sub .f64 (A m q) (A n q) = some (A (m - n) q) := by
  have hn : n < 9007199254740992 := by omega
  have hs := A_spec hm hq
  have ht := A_spec hn hq
  have hu := A_spec (show m - n < 9007199254740992 by omega) hq
  have hr1 := reads_fin double (w := A m q) (by rw [rung_A hm hq]; exact hs.1)
  rw [rung_A hm hq, sgn_A hm hq] at hr1
  have hr2 := reads_fin double (w := A n q) (by rw [rung_A hn hq]; exact ht.1)
  rw [rung_A hn hq, sgn_A hn hq] at hr2
  have m1 := mg_ss double (A m q)
  rw [hs.2] at m1
  have m2 := mg_ss double (A n q)
  rw [ht.2] at m2
  obtain ⟨T, b, h1, h2⟩ := sum_sub _ _ _ _ _ _ double.leastPlace m1.symm m2.symm (Nat.mul_le_mul_right _ h)
  show double.sub (A m q) (A n q) = _
  unfold Format.sub
  rw [hr1, hr2]
  show (Datum.sum _ (.number true _ _)).map double.write = _
  rw [h1, Option.map_some, write_num]
  have h3 := nearest_exact' double false T b 0 (A (m - n) q) (Nat.le_of_lt hu.1) (by rw [h2, hu.2, Nat.pow_zero, Nat.mul_one, Nat.sub_mul])
  rw [show double.leastPlace + (b : Int) - ((0 : Nat) : Int) = double.leastPlace + (b : Int) by omega] at h3
  rw [h3, word_false]
theorem lt_false {a b : Nat} (ha : a < 9218868437227405312) (hb : b < 9218868437227405312) (h : b ≤ a) : (FloatKind.f64.format.order a b == some .lt) = false := by
  have f : ∀ c, c < 9218868437227405312 → rung double c = c ∧ sgn double c = false ∧ isNaN double c = false := by
    intro c hc
    have e1 : rung double c = c := by unfold rung; rw [sw_double]; exact Nat.mod_eq_of_lt (by omega)
    exact ⟨e1, by unfold sgn; rw [sw_double, Nat.div_eq_of_lt (by omega)]; rfl, by unfold isNaN; rw [e1, inf_double]; exact decide_eq_false (by omega)⟩
  obtain ⟨a1, a2, a3⟩ := f a ha
  obtain ⟨b1, b2, b3⟩ := f b hb
  rw [lt64]
  unfold ltW
  rw [a3, b3]
  simp only [Bool.not_false, Bool.true_and]
  refine decide_eq_false ?_
  unfold sv
  rw [a1, a2, b1, b2]
  have := mg_le double h
  simp only [Bool.false_eq_true, if_false]
  omega
theorem log2_even {n : Nat} (h : 2 ≤ n) : 2 ^ n.log2 % 2 = 0 ∧ 2 ^ n.log2 ≤ n ∧ 0 < 2 ^ n.log2 := by
  have h1 : 1 ≤ n.log2 := (Nat.le_log2 (by omega)).2 (by omega)
  refine ⟨?_, Nat.log2_self_le (by omega), Nat.two_pow_pos _⟩
  rw [show n.log2 = n.log2 - 1 + 1 by omega, Nat.pow_succ]; omega
theorem c2 : mg double 4611686018427387904 = 2 ^ (W + 150) := mg_const (by decide) (by decide) (by decide)
end Go.Proofs.YtlngplohnknhjaaGreatDoor.Flt

/- One divided by a zero. -/
namespace Go.Proofs.YtlngplohnknhjaaGreatDoor.Mth
open Go.ChangeShapes Go.WideShapes Go.ChangeAt Go.RowKit Go.Proofs.YtlngplohnknhjaaGreatDoor Go.Proofs.YtlngplohnknhjaaGreatDoor.Flt
theorem quo_zero (s : Nat) (h : s = 0 ∨ s = 9223372036854775808) (w : World) : (binOp .quo 60 (.float .f64 4607182418800017408) (.float .f64 s)).run Tryz.prog w = .ok (.float .f64 (9218868437227405312 + s)) w := by
  rcases h with rfl | rfl
  · exact run_float_arith w .quo _ _ _ _ _ (by decide)
  · exact run_float_arith w .quo _ _ _ _ _ (by decide)
end Go.Proofs.YtlngplohnknhjaaGreatDoor.Mth

/- Contracts of the laws' helpers that say whether two floats are the same. -/
namespace Go.Proofs.YtlngplohnknhjaaGreatDoor.Mth
open Go.ChangeShapes Go.WideShapes Go.ChangeAt Go.RowKit Go.Proofs.YtlngplohnknhjaaGreatDoor Go.Proofs.YtlngplohnknhjaaGreatDoor.Flt
set_option maxHeartbeats 400000 in
theorem sameFloat_any (a b : Nat) (w : World) (ha : a < 18446744073709551616) (hb : b < 18446744073709551616) :
    Calls Tryz.prog 68 #[.float .f64 a, .float .f64 b] w fun e w' => e = .returned (.bool (sameW Ieee.double a b)) ∧ w' = w := by
  have sa := ne64 a a
  have sb := ne64 b b
  rw [eqW_self, Bool.not_not] at sa sb
  have ha' : a < 2 ^ Ieee.double.width := by rw [width_double]; exact ha
  have hb' : b < 2 ^ Ieee.double.width := by rw [width_double]; exact hb
  cases na : isNaN Ieee.double a <;> cases nb : isNaN Ieee.double b
  · rw [na] at sa
    rw [nb] at sb
    have za := eq64 a 0
    have zb := eq64 b 0
    rw [eqW_zero _ na] at za
    rw [eqW_zero _ nb] at zb
    by_cases h0 : rung Ieee.double a = 0 ∧ rung Ieee.double b = 0
    · obtain ⟨h0, h1⟩ := h0
      rw [decide_eq_true h0] at za
      rw [decide_eq_true h1] at zb
      have ca := zeros64 ha h0
      have cb := zeros64 hb h1
      have qa := quo_zero a ca
      have qb := quo_zero b cb
      clear h0 h1 na nb ha' hb' ha hb
      rcases ca with rfl | rfl <;> rcases cb with rfl | rfl
      · have o1 : (FloatKind.f64.format.order 9218868437227405312 0 == some .gt) = true := by decide
        have Hf := Lib.hid (show true = sameW Ieee.double 0 0 by decide)
        go_enter Tryz.func68, Tryz.ntmps68
        go_wp2
        go_ret
        exact ⟨ret_bool Hf.out, rfl⟩
      · have o1 : (FloatKind.f64.format.order 9218868437227405312 0 == some .gt) = true := by decide
        have o2 : (FloatKind.f64.format.order 18442240474082181120 0 == some .gt) = false := by decide
        have Hf := Lib.hid (show false = sameW Ieee.double 0 9223372036854775808 by decide)
        go_enter Tryz.func68, Tryz.ntmps68
        go_wp2
        go_ret
        exact ⟨ret_bool Hf.out, rfl⟩
      · have o1 : (FloatKind.f64.format.order 9218868437227405312 0 == some .gt) = true := by decide
        have o2 : (FloatKind.f64.format.order 18442240474082181120 0 == some .gt) = false := by decide
        have Hf := Lib.hid (show false = sameW Ieee.double 9223372036854775808 0 by decide)
        go_enter Tryz.func68, Tryz.ntmps68
        go_wp2
        go_ret
        exact ⟨ret_bool Hf.out, rfl⟩
      · have o2 : (FloatKind.f64.format.order 18442240474082181120 0 == some .gt) = false := by decide
        have Hf := Lib.hid (show true = sameW Ieee.double 9223372036854775808 9223372036854775808 by decide)
        go_enter Tryz.func68, Tryz.ntmps68
        go_wp2
        go_ret
        exact ⟨ret_bool Hf.out, rfl⟩
    · have eab := eq64 a b
      have Hf := Lib.hid (show eqW Ieee.double a b = sameW Ieee.double a b by
        rw [sameW_of_eq _ na nb]; unfold eqW; rw [na, nb]
        by_cases h : sv Ieee.double a = sv Ieee.double b
        · have : a = b := by
            by_cases h2 : rung Ieee.double a = 0
            · have h1 : rung Ieee.double b = 0 := (sv_eq_zero _).1 (by rw [← h]; exact (sv_eq_zero _).2 h2)
              exact absurd ⟨h2, h1⟩ h0
            · exact sv_inj _ ha' hb' h2 h
          subst this; simp
        · rw [decide_eq_false h]; symm; exact beq_eq_false_iff_ne.2 (fun e => h (by rw [e])))
      by_cases h1 : rung Ieee.double a = 0 <;> by_cases h2 : rung Ieee.double b = 0
      · exact absurd ⟨h1, h2⟩ h0
      all_goals
        first | rw [decide_eq_true h1] at za | rw [decide_eq_false h1] at za
        first | rw [decide_eq_true h2] at zb | rw [decide_eq_false h2] at zb
        clear h0 h1 h2 na nb ha hb ha' hb'
        go_enter Tryz.func68, Tryz.ntmps68
        go_wp2
        go_ret
        exact ⟨ret_bool Hf.out, rfl⟩
  all_goals
    have Hf := Lib.hid (show (isNaN Ieee.double a && isNaN Ieee.double b) = sameW Ieee.double a b by unfold sameW; rw [na, nb]; rfl)
    rw [na, nb] at Hf
    rw [na] at sa
    rw [nb] at sb
    clear na nb ha hb ha' hb'
    go_enter Tryz.func68, Tryz.ntmps68
    go_wp2
    go_ret
    exact ⟨ret_bool Hf.out, rfl⟩
end Go.Proofs.YtlngplohnknhjaaGreatDoor.Mth

/- Contracts of Signed, in the model. -/
namespace Go.Proofs.YtlngplohnknhjaaGreatDoor.Sgd
open Go.ChangeShapes Go.WideShapes Go.ChangeAt Go.RowKit Go.Proofs.YtlngplohnknhjaaGreatDoor Go.Proofs.YtlngplohnknhjaaGreatDoor.Flt Go.Proofs.YtlngplohnknhjaaGreatDoor.Mth
set_option linter.unusedVariables false
theorem spec_plus (s : ByteArray) (x : Nat) (w : World) (h1 : (s.toList == [43]) = true) :
    Calls Tryz.prog 69 #[.string s, .float .f32 x] w fun e w' => e = .returned (.tuple #[.float .f32 x, .bool true]) ∧ w' = w := by
  go_enter Tryz.func69, Tryz.ntmps69
  go_wp2
  go_ret2
  exact ⟨rfl, rfl⟩
theorem spec_minus (s : ByteArray) (x : Nat) (w : World) (h1 : (s.toList == [43]) = false) (h2 : (s.toList == [45]) = true) :
    Calls Tryz.prog 69 #[.string s, .float .f32 x] w fun e w' => e = .returned (.tuple #[.float .f32 (Op.negFloat .f32 x), .bool true]) ∧ w' = w := by
  go_enter Tryz.func69, Tryz.ntmps69
  go_wp2
  go_ret2
  exact ⟨rfl, rfl⟩
theorem spec_other (s : ByteArray) (x : Nat) (w : World) (h1 : (s.toList == [43]) = false) (h2 : (s.toList == [45]) = false) :
    Calls Tryz.prog 69 #[.string s, .float .f32 x] w fun e w' => e = .returned (.tuple #[.float .f32 0, .bool false]) ∧ w' = w := by
  go_enter Tryz.func69, Tryz.ntmps69
  go_wp2
  go_ret2
  exact ⟨rfl, rfl⟩
/-- what Signed gives -/
def out (s : ByteArray) (x : Nat) : Nat × Bool := if s.toList == [43] then (x, true) else if s.toList == [45] then (Op.negFloat .f32 x, true) else (0, false)
theorem out_lt (s : ByteArray) (x : Nat) (wx : (Lit.float .f32 x).wf = true) : (Lit.float .f32 (out s x).1).wf = true := by
  unfold out
  split
  · exact wx
  · split
    · have := neg_lt .f32 (w := x) (lt_single' wx)
      exact wf_single (by rw [← width_single]; exact this)
    · decide
theorem ret_sg {a c : Nat} {b d : Bool} (h : (a, b) = (c, d)) : Ending.returned (.tuple #[.float .f32 a, .bool b]) = .returned (.tuple #[.float .f32 c, .bool d]) := by cases h; rfl
theorem spec_any (s : ByteArray) (x : Nat) (w : World) :
    Calls Tryz.prog 69 #[.string s, .float .f32 x] w fun e w' => e = .returned (.tuple #[.float .f32 (out s x).1, .bool (out s x).2]) ∧ w' = w := by
  cases h1 : (s.toList == [43])
  · cases h2 : (s.toList == [45])
    · exact (spec_other s x w h1 h2).mono fun e w' ⟨he, hw⟩ => ⟨by rw [he]; unfold out; rw [h1, h2]; rfl, hw⟩
    · exact (spec_minus s x w h1 h2).mono fun e w' ⟨he, hw⟩ => ⟨by rw [he]; unfold out; rw [h1, h2]; rfl, hw⟩
  · exact (spec_plus s x w h1).mono fun e w' ⟨he, hw⟩ => ⟨by rw [he]; unfold out; rw [h1]; rfl, hw⟩
end Go.Proofs.YtlngplohnknhjaaGreatDoor.Sgd

/- The contract of math.Signbit. -/
namespace Go.Proofs.YtlngplohnknhjaaGreatDoor.Mth
open Go.ChangeShapes Go.WideShapes Go.ChangeAt Go.RowKit Go.Proofs.YtlngplohnknhjaaGreatDoor Go.Proofs.YtlngplohnknhjaaGreatDoor.Flt
theorem signbit_any (a : Nat) (w : World) (ha : a < 18446744073709551616) :
    Calls Tryz.prog 93 #[.float .f64 a] w fun e w' => e = .returned (.bool (sgn Ieee.double a)) ∧ w' = w := by
  have hb := fun w => run_float64bits a w
  have hw : decide (wrap64 (a : Int) < 0) = sgn Ieee.double a := by
    rw [sgn_iff a ha]; unfold wrap64
    by_cases h : 9223372036854775808 ≤ a
    · rw [decide_eq_true h]; exact decide_eq_true (by omega)
    · rw [decide_eq_false h]; exact decide_eq_false (by omega)
  have HW := Lib.hid hw
  clear hw
  go_enter Tryz.func93, Tryz.ntmps93
  go_wp2
  go_ret
  exact ⟨ret_bool HW.out, rfl⟩
end Go.Proofs.YtlngplohnknhjaaGreatDoor.Mth

/- Contracts of SignText, in the model and in the program. -/
namespace Go.Proofs.YtlngplohnknhjaaGreatDoor.fnExactSignText
open Go.ChangeShapes Go.WideShapes Go.ChangeAt Go.RowKit Go.Proofs.YtlngplohnknhjaaGreatDoor Go.Proofs.YtlngplohnknhjaaGreatDoor.Flt Go.Proofs.YtlngplohnknhjaaGreatDoor.Mth
set_option linter.unusedVariables false
def signOf (x : Nat) : ByteArray := if isNaN Ieee.single x then ⟨#[]⟩ else if sgn Ieee.single x then ⟨#[45]⟩ else ⟨#[43]⟩
theorem impl_any (x : Nat) (w : World) (wx : (Lit.float .f32 x).wf = true) :
    Calls Tryz.prog 90 #[.float .f32 x] w fun e w' => e = .returned (.string (signOf x)) ∧ ∃ n, w' = w.drewN n := by
  have us : (Tryz.prog.underlying 92).isSome = true := by rw [Tryz.underlying92]; rfl
  obtain ⟨r, n, hr, kr⟩ := run_widen_any (P := Tryz.prog) 92 60 x us Tryz.underlying60 w
  obtain ⟨hlt, h1, h2⟩ := hr
  cases hn : isNaN Ieee.single x
  · cases hs : sgn Ieee.single x
    · have Hf := Lib.hid (show (⟨#[43]⟩ : ByteArray) = signOf x by unfold signOf; rw [hn, hs]; rfl)
      have hs2 : sgn Ieee.double r = false := by rw [h2 hn, sgn_widen, hs]
      rw [hn] at h1
      clear h2 hn hs us wx
      go_enter Tryz.func90, Tryz.ntmps90
      go_wp2_with (first | (go_at_call 88; refine (isNaN_any _ _).mono ?_; rintro e w' ⟨rfl, rfl⟩) | (go_at_call 93; refine (signbit_any _ _ (by assumption)).mono ?_; rintro e w' ⟨rfl, rfl⟩))
      go_ret
      exact ⟨ret_string Hf.out, n, rfl⟩
    · have Hf := Lib.hid (show (⟨#[45]⟩ : ByteArray) = signOf x by unfold signOf; rw [hn, hs]; rfl)
      have hs2 : sgn Ieee.double r = true := by rw [h2 hn, sgn_widen, hs]
      rw [hn] at h1
      clear h2 hn hs us wx
      go_enter Tryz.func90, Tryz.ntmps90
      go_wp2_with (first | (go_at_call 88; refine (isNaN_any _ _).mono ?_; rintro e w' ⟨rfl, rfl⟩) | (go_at_call 93; refine (signbit_any _ _ (by assumption)).mono ?_; rintro e w' ⟨rfl, rfl⟩))
      go_ret
      exact ⟨ret_string Hf.out, n, rfl⟩
  · have Hf := Lib.hid (show (⟨#[]⟩ : ByteArray) = signOf x by unfold signOf; rw [hn]; rfl)
    rw [hn] at h1
    clear h2 hn us wx
    go_enter Tryz.func90, Tryz.ntmps90
    go_wp2_with (first | (go_at_call 88; refine (isNaN_any _ _).mono ?_; rintro e w' ⟨rfl, rfl⟩) | (go_at_call 93; refine (signbit_any _ _ (by assumption)).mono ?_; rintro e w' ⟨rfl, rfl⟩))
    go_ret
    exact ⟨ret_string Hf.out, n, rfl⟩
theorem quo32 (s : Nat) (h : s = 0 ∨ s = 2147483648) (w : World) : (binOp .quo 92 (.float .f32 1065353216) (.float .f32 s)).run Tryz.prog w = .ok (.float .f32 (2139095040 + s)) w := by
  rcases h with rfl | rfl
  · exact run_float_arith w .quo _ _ _ _ _ (by decide)
  · exact run_float_arith w .quo _ _ _ _ _ (by decide)
theorem spec_any (x : Nat) (w : World) (wx : (Lit.float .f32 x).wf = true) :
    Calls Tryz.prog 155 #[.float .f32 x] w fun e w' => e = .returned (.string (signOf x)) ∧ w' = w := by
  have hne := ne32 x x
  rw [eqW_self, Bool.not_not] at hne
  have hlt := lt32 x 0
  have heq := eq32 x 0
  cases hn : isNaN Ieee.single x
  · rw [hn] at hne
    rw [eqW_zero _ hn] at heq
    by_cases h0 : rung Ieee.single x = 0
    · have hc := zeros32 (lt_single wx) h0
      have q := quo32 x hc
      clear hne hlt heq hn h0 wx
      rcases hc with rfl | rfl
      · have o1 : (FloatKind.f32.format.order 0 0 != some .eq) = false := by decide
        have o2 : (FloatKind.f32.format.order 0 0 == some .lt) = false := by decide
        have o3 : (FloatKind.f32.format.order 0 0 == some .eq) = true := by decide
        have o4 : (FloatKind.f32.format.order 2139095040 0 == some .lt) = false := by decide
        have Hf := Lib.hid (show (⟨#[43]⟩ : ByteArray) = signOf 0 by decide)
        go_enter Tryz.func155, Tryz.ntmps155
        go_wp2
        go_ret
        exact ⟨ret_string Hf.out, rfl⟩
      · have o1 : (FloatKind.f32.format.order 2147483648 2147483648 != some .eq) = false := by decide
        have o2 : (FloatKind.f32.format.order 2147483648 0 == some .lt) = false := by decide
        have o3 : (FloatKind.f32.format.order 2147483648 0 == some .eq) = true := by decide
        have o4 : (FloatKind.f32.format.order 4286578688 0 == some .lt) = true := by decide
        have Hf := Lib.hid (show (⟨#[45]⟩ : ByteArray) = signOf 2147483648 by decide)
        go_enter Tryz.func155, Tryz.ntmps155
        go_wp2
        go_ret
        exact ⟨ret_string Hf.out, rfl⟩
    · rw [decide_eq_false h0] at heq
      have hl : ltW Ieee.single x 0 = sgn Ieee.single x := by
        unfold ltW; rw [hn, nan_zero, sv_zero, sgn_neg_sv _ h0]; rfl
      rw [hl] at hlt
      cases hs : sgn Ieee.single x
      · rw [hs] at hlt
        have Hf := Lib.hid (show (⟨#[43]⟩ : ByteArray) = signOf x by unfold signOf; rw [hn, hs]; rfl)
        clear hl h0 hn hs wx
        go_enter Tryz.func155, Tryz.ntmps155
        go_wp2
        go_ret
        exact ⟨ret_string Hf.out, rfl⟩
      · rw [hs] at hlt
        have Hf := Lib.hid (show (⟨#[45]⟩ : ByteArray) = signOf x by unfold signOf; rw [hn, hs]; rfl)
        clear hl h0 hn hs wx
        go_enter Tryz.func155, Tryz.ntmps155
        go_wp2
        go_ret
        exact ⟨ret_string Hf.out, rfl⟩
  · rw [hn] at hne
    have Hf := Lib.hid (show (⟨#[]⟩ : ByteArray) = signOf x by unfold signOf; rw [hn]; rfl)
    clear hlt heq hn wx
    go_enter Tryz.func155, Tryz.ntmps155
    go_wp2
    go_ret
    exact ⟨ret_string Hf.out, rfl⟩
end Go.Proofs.YtlngplohnknhjaaGreatDoor.fnExactSignText

/- The scan of a decimal numeral: the value of the digits, and the contracts of the two ParseUint's. -/
namespace Go.Proofs.YtlngplohnknhjaaGreatDoor.Pu
open Go.ChangeShapes Go.WideShapes Go.ChangeAt Go.RowKit Go.Proofs.YtlngplohnknhjaaGreatDoor
set_option linter.unusedVariables false
def dig (c : UInt8) : Prop := 48 ≤ c.toNat ∧ c.toNat ≤ 57
def val (l : List UInt8) : Nat := l.foldl (fun a c => 10 * a + (c.toNat - 48)) 0
theorem val_snoc (l : List UInt8) (c : UInt8) : val (l ++ [c]) = 10 * val l + (c.toNat - 48) := by
  unfold val; rw [List.foldl_append]; rfl
theorem fig (d : Nat) (h : d < 10) : (UInt8.ofNat (48 + d)).toNat = 48 + d := by
  rw [UInt8.toNat_ofNat']; exact Nat.mod_eq_of_lt (by omega)
theorem dec_facts (u : Nat) : val (Lib.decDigits u) = u ∧ ∀ c ∈ Lib.decDigits u, dig c := by
  induction u using Nat.strongRecOn with
  | _ u ih =>
    by_cases h : u < 10
    · rw [Lib.decDigits_one h]
      refine ⟨?_, fun c hc => ?_⟩
      · have := val_snoc [] (UInt8.ofNat (48 + u))
        rw [List.nil_append, fig u h] at this
        rw [this]
        show 10 * 0 + (48 + u - 48) = u
        omega
      · obtain rfl := List.mem_singleton.1 hc
        unfold dig; rw [fig u h]; omega
    · obtain ⟨i1, i2⟩ := ih (u / 10) (by omega)
      have hf := fig (u % 10) (by omega)
      rw [Lib.decDigits, dif_neg h]
      refine ⟨?_, fun c hc => ?_⟩
      · rw [val_snoc, i1, hf]; omega
      · rcases List.mem_append.1 hc with hc | hc
        · exact i2 c hc
        · obtain rfl := List.mem_singleton.1 hc
          unfold dig; rw [hf]; omega
theorem nDigits_le10 (u : Nat) (h : u ≤ 1000000000) : Lib.nDigits u ≤ 10 := by
  apply Nat.le_of_not_lt
  intro hc
  have hb : ∀ k u, k + 1 < Lib.nDigits u → 10 ^ (k + 1) ≤ u := by
    intro k
    induction k with
    | zero =>
      intro u hu
      apply Nat.le_of_not_lt
      intro hlt
      rw [Lib.nDigits_small (by simpa using hlt)] at hu
      omega
    | succ k ih =>
      intro u hu
      by_cases h10 : u < 10
      · rw [Lib.nDigits_small h10] at hu; omega
      · rw [Lib.nDigits_big h10] at hu
        have := ih (u / 10) (by omega)
        rw [Nat.pow_succ]
        omega
  have := hb 9 u (by omega)
  omega
/-- the text is the numeral of a number up to the bound -/
def Good (l : List UInt8) : Prop := l = Lib.decDigits (val l) ∧ val l ≤ 1000000000
theorem good_of {l : List UInt8} {u : Nat} (h : Lib.decDigits u = l) (hu : u ≤ 1000000000) : Good l ∧ val l = u := by
  subst h
  have := (dec_facts u).1
  exact ⟨⟨by rw [this], by rw [this]; exact hu⟩, this⟩
theorem good_digs {l : List UInt8} (h : Good l) : ∀ c ∈ l, dig c := by
  have := (dec_facts (val l)).2
  rw [← h.1] at this
  exact this
theorem good_len {l : List UInt8} (h : Good l) : l.length ≤ 10 := by
  rw [h.1, Lib.decDigits_length]; exact nDigits_le10 _ h.2
open Classical in
noncomputable def out (l : List UInt8) : Nat × Bool := if Good l then (val l, true) else (0, false)
theorem out_good {l : List UInt8} (h : Good l) : out l = (val l, true) := if_pos h
theorem out_bad {l : List UInt8} (h : ¬ Good l) : out l = (0, false) := if_neg h
theorem val_le (l : List UInt8) (h : ∀ c ∈ l, dig c) (hl : l.length ≤ 10) : val l < 10 ^ l.length := by
  have key : ∀ k, ∀ l : List UInt8, l.length = k → (∀ c ∈ l, dig c) → val l < 10 ^ k := by
    intro k
    induction k with
    | zero => intro l hl _; obtain rfl := List.length_eq_zero_iff.1 hl; exact Nat.one_pos
    | succ k ih =>
      intro l hl hd
      obtain ⟨l', c, rfl⟩ : ∃ l' c, l = l' ++ [c] := by
        rcases List.eq_nil_or_concat l with rfl | ⟨l', c, rfl⟩
        · simp at hl
        · exact ⟨l', c, by simp⟩
      rw [List.length_append, List.length_singleton] at hl
      have i := ih l' (by omega) (fun c hc => hd c (List.mem_append_left _ hc))
      have d := hd c (List.mem_append_right _ (List.mem_singleton.2 rfl))
      unfold dig at d
      rw [val_snoc, Nat.pow_succ]
      omega
  exact key _ l rfl h
theorem bytes_inj {a b : ByteArray} (h : a.toList = b.toList) : a = b := by
  rw [ByteArray.toList_eq, ByteArray.toList_eq] at h
  exact ByteArray.ext (Array.toList_inj.1 h)
def Res (t : ByteArray) (w : World) (e : Ending) (w' : World) : Prop := e = .returned (.tuple #[.int .i64 ((out t.data.toList).1 : Int), .bool (out t.data.toList).2]) ∧ Below w.heap.size w w'
theorem fmt_any (n : Nat) (w : World) (h : n ≤ 1000000000) : Calls Tryz.prog 153 #[.int .i64 (n : Int)] w (Fmi.Out n w) := by
  by_cases h0 : 0 < n
  · exact Fmi.pos n w h0 (by omega)
  · obtain rfl : n = 0 := by omega
    exact Fmi.zero w
set_option maxHeartbeats 800000 in
theorem spec_any (t : ByteArray) (w : World) : Calls Tryz.prog 143 #[.string t] w (Res t w) := by
  go_enter Tryz.func143, Tryz.ntmps143
  by_cases hl : 10 < t.size
  · have hl2 : ¬ (t.size : Int) ≤ 10 := by omega
    have hb : ¬ Good t.data.toList := fun h => by have := good_len h; rw [Array.length_toList] at this; exact absurd this (by show ¬ t.size ≤ 10; omega)
    have ho := Lib.hid (out_bad hb)
    clear hb
    go_wp2_with fail
    go_ret2
    refine ⟨?_, Below.refl _ _⟩
    rw [ho.out]
    rfl
  · have hl2 : (t.size : Int) ≤ 10 := by omega
    go_wp2_with fail
    go_loopw [4, 5] (fun nv iv wr => ∃ i : Nat, i ≤ t.size ∧ Hid (∀ c ∈ t.data.toList.take i, dig c) ∧ nv = .int .i64 (val (t.data.toList.take i) : Int) ∧ iv = .int .i64 (i : Int) ∧ wr = w) (fun _ iv _ => (t.size : Int).toNat - (intOf iv).toNat)
    case atStart => exact ⟨0, Nat.zero_le _, (fun c hc => by simp at hc), rfl, rfl, rfl⟩
    case round =>
      obtain ⟨i, hi, hd, rfl, rfl, rfl⟩ := hrel
      obtain ⟨n, hn⟩ : ∃ n, n = val (t.data.toList.take i) := ⟨_, rfl⟩
      have hnb : n < 10000000000 := by
        have h1 := val_le (t.data.toList.take i) hd.out (by rw [List.length_take]; omega)
        have h2 : (10 : Nat) ^ (t.data.toList.take i).length ≤ 10 ^ 10 := Nat.pow_le_pow_right (by omega) (by rw [List.length_take]; omega)
        rw [hn]
        omega
      rw [← hn]
      by_cases hlt : i < t.size
      · have hlt2 : (i : Int) < t.size := by omega
        obtain ⟨b, hb⟩ : ∃ b : UInt8, b = t[i] := ⟨_, rfl⟩
        obtain ⟨c, hc⟩ : ∃ c : Nat, c = b.toNat := ⟨_, rfl⟩
        have hidx : ∀ w, (Instr.index 9 (.string t) (.int .i64 (i : Int))).run Tryz.prog w = .ok (.int .u8 (c : Int)) w := by
          intro w
          rw [run_index_string _ _ _ _ _ Tryz.underlying9, dif_pos ⟨by omega, hlt2⟩, hc, hb]
          rfl
        have hcb : c ≤ 255 := by have := b.toNat_lt; omega
        have htk : t.data.toList.take (i + 1) = t.data.toList.take i ++ [b] := by
          rw [List.take_add_one, hb]
          have : t.data.toList[i]? = some t[i] := by
            rw [Array.getElem?_toList]
            exact Array.getElem?_eq_getElem _
          rw [this]; rfl
        have hmem : b ∈ t.data.toList := List.mem_of_mem_take (i := i + 1) (by rw [htk]; exact List.mem_append_right _ (List.mem_singleton.2 rfl))
        have Hm := Lib.hid hmem
        have Hb := Lib.hid htk
        clear hmem
        have Hc := Lib.hid hc
        have Hn := Lib.hid hn
        clear hb htk hc hn
        by_cases h48 : (c : Int) < 48
        · have hbad : ¬ Good t.data.toList := fun h => by have := good_digs h b Hm.out; unfold dig at this; have := Hc.out; omega
          have ho := Lib.hid (out_bad hbad)
          clear hbad
          go_wp2_with fail
          go_ret2
          refine ⟨?_, Below.refl _ _⟩
          rw [ho.out]
          rfl
        · by_cases h57 : 57 < (c : Int)
          · have hbad : ¬ Good t.data.toList := fun h => by have := good_digs h b Hm.out; unfold dig at this; have := Hc.out; omega
            have ho := Lib.hid (out_bad hbad)
            clear hbad
            go_wp2_with fail
            go_ret2
            refine ⟨?_, Below.refl _ _⟩
            rw [ho.out]
            rfl
          · have hnn : (n : Int) < 10000000000 := by omega
            go_wp2_with fail
            refine ⟨⟨i + 1, hlt, ?_, ?_, rfl, trivial⟩, ?_⟩
            · show ∀ c ∈ _, dig c
              rw [Hb.out]
              intro x hx
              rcases List.mem_append.1 hx with hx | hx
              · exact hd.out x hx
              · obtain rfl := List.mem_singleton.1 hx
                unfold dig; have := Hc.out; omega
            · rw [Hb.out, val_snoc, ← Hn.out, ← Hc.out]
              congr 1
              omega
            · simp only [intOf]; omega
      · obtain rfl : i = t.size := by omega
        have hall : t.data.toList.take t.size = t.data.toList := List.take_of_length_le (by rw [Array.length_toList]; exact Nat.le_refl _)
        rw [hall] at hn hd
        have Hn := Lib.hid hn
        clear hn hall
        by_cases hM : 1000000000 < (n : Int)
        · have hbad : ¬ Good t.data.toList := fun h => by have := h.2; have := Hn.out; omega
          have ho := Lib.hid (out_bad hbad)
          clear hbad
          go_wp2_with fail
          go_ret2
          refine ⟨?_, Below.refl _ _⟩
          rw [ho.out]
          rfl
        · go_wp2_with fail
          refine (fmt_any n _ (by omega)).mono ?_
          rintro e w2 ⟨rfl, hb2⟩
          have Hb2 := Lib.hid hb2
          clear hb2
          obtain ⟨l, hl⟩ : ∃ l : ByteArray, l = ⟨(Lib.itoa (n : Int)).toArray⟩ := ⟨_, rfl⟩
          rw [← hl]
          by_cases ht : l = t
          · have hg := good_of (l := t.data.toList) (u := n) (by rw [← ht, hl, Lib.itoa_nonneg]) (by omega)
            have ho := Lib.hid (out_good hg.1)
            have Hl := Lib.hid hg.2
            have heq : (l.toList == t.toList) = true := by rw [ht]; exact beq_self_eq_true _
            clear hl ht hg
            go_wp2_with fail
            go_ret2
            refine ⟨?_, Hb2.out⟩
            rw [ho.out, Hl.out]
            rfl
          · have hbad : ¬ Good t.data.toList := by
              intro h
              apply ht
              rw [hl, Lib.itoa_nonneg, Hn.out, ← h.1]
            have ho := Lib.hid (out_bad hbad)
            have heq : (l.toList == t.toList) = false := by
              rw [beq_eq_false_iff_ne]
              intro h
              exact ht (bytes_inj h)
            clear hl ht hbad
            go_wp2_with fail
            go_ret2
            refine ⟨?_, Hb2.out⟩
            rw [ho.out]
            rfl
end Go.Proofs.YtlngplohnknhjaaGreatDoor.Pu

/- Small facts on cells. No program stands here. -/
namespace Go.Proofs.YtlngplohnknhjaaGreatDoor.Cpx
open Go.ChangeShapes Go.WideShapes Go.ChangeAt Go.RowKit Go.Proofs.YtlngplohnknhjaaGreatDoor
set_option linter.unusedVariables false
theorem below_on {B : Nat} {w w1 w2 : World} (hb : Below w1.heap.size w1 w2) (h0 : Below B w w1) (hB : B ≤ w1.heap.size) : Below B w w2 := h0.trans (hb.mono hB)
theorem cell_alloc {w : World} {a : Addr} {v : Value} (o : Obj) (h : w.cell? a = some v) : (w.alloc o).cell? a = some v := by
  rw [World.cell?_alloc_lt _ _ _ (World.block_lt_of_cell? w a h)]; exact h
theorem cell_set {w : World} {a b : Addr} {v u : Value} (h : w.cell? a = some v) (hn : b.block ≠ a.block) : (w.setCell b u).cell? a = some v := by
  rw [World.cell?_setCell_other w b a u (fun e => hn (by rw [e]))]; exact h
end Go.Proofs.YtlngplohnknhjaaGreatDoor.Cpx

/- Contracts of the program's sameFloat and of the model's l01Same. -/
namespace Go.Proofs.YtlngplohnknhjaaGreatDoor.SamF
open Go.ChangeShapes Go.WideShapes Go.ChangeAt Go.RowKit Go.Proofs.YtlngplohnknhjaaGreatDoor Go.Proofs.YtlngplohnknhjaaGreatDoor.Flt Go.Proofs.YtlngplohnknhjaaGreatDoor.Mth

theorem word_sv (a b : Nat) (ha : a < 18446744073709551616) (hb : b < 18446744073709551616) (h : sv Ieee.double a = sv Ieee.double b) : (sgn Ieee.double a == sgn Ieee.double b) = (a == b) := by
  have ha' : a < 2 ^ Ieee.double.width := by rw [width_double]; exact ha
  have hb' : b < 2 ^ Ieee.double.width := by rw [width_double]; exact hb
  by_cases h0 : rung Ieee.double a = 0
  · have h1 : rung Ieee.double b = 0 := (sv_eq_zero _).1 (by rw [← h]; exact (sv_eq_zero _).2 h0)
    rw [Bool.eq_iff_iff, beq_iff_eq, beq_iff_eq]
    exact ⟨fun hs => word_inj _ ha' hb' hs (by rw [h0, h1]), fun e => by rw [e]⟩
  · have := sv_inj _ ha' hb' h0 h
    subst this; simp
theorem order_double (a b : Nat) (na : isNaN Ieee.double a = false) (nb : isNaN Ieee.double b = false) : (FloatKind.f64.format.order a b == some .eq) = decide (sv Ieee.double a = sv Ieee.double b) := by
  show (Ieee.double.order a b == some .eq) = _
  rw [order_sv Ieee.double hd na nb]
  by_cases h : sv Ieee.double a = sv Ieee.double b
  · rw [compare_eq h, decide_eq_true h]; rfl
  · rw [decide_eq_false h]
    simp only [Option.some_beq_some, beq_eq_false_iff_ne]
    exact fun e => h (compare_eq_iff.1 e)
set_option maxHeartbeats 400000 in
theorem sameFloat_any (a b : Nat) (w : World) (ha : a < 18446744073709551616) (hb : b < 18446744073709551616) :
    Calls Tryz.prog 74 #[.float .f64 a, .float .f64 b] w fun e w' => e = .returned (.bool (sameW Ieee.double a b)) ∧ w' = w := by
  cases na : isNaN Ieee.double a <;> cases nb : isNaN Ieee.double b
  · have ho := order_double a b na nb
    by_cases h : sv Ieee.double a = sv Ieee.double b
    · rw [decide_eq_true h] at ho
      have Hf := Lib.hid (show (sgn Ieee.double a == sgn Ieee.double b) = sameW Ieee.double a b by rw [word_sv a b ha hb h]; unfold sameW; rw [na, nb]; rfl)
      clear h
      go_enter Tryz.func74, Tryz.ntmps74
      go_wp2_with (first | (go_at_call 88; refine (isNaN_any _ _).mono ?_; rintro e w' ⟨rfl, rfl⟩) | (go_at_call 93; refine (signbit_any _ _ (by assumption)).mono ?_; rintro e w' ⟨rfl, rfl⟩))
      go_ret
      exact ⟨ret_bool Hf.out, rfl⟩
    · rw [decide_eq_false h] at ho
      have Hf := Lib.hid (show false = sameW Ieee.double a b by
        unfold sameW; rw [na, nb]; symm
        exact beq_eq_false_iff_ne.2 (fun e => h (by rw [e])))
      clear h
      go_enter Tryz.func74, Tryz.ntmps74
      go_wp2_with (first | (go_at_call 88; refine (isNaN_any _ _).mono ?_; rintro e w' ⟨rfl, rfl⟩) | (go_at_call 93; refine (signbit_any _ _ (by assumption)).mono ?_; rintro e w' ⟨rfl, rfl⟩))
      go_ret
      exact ⟨ret_bool Hf.out, rfl⟩
  all_goals
    have Hf := Lib.hid (show (isNaN Ieee.double a && isNaN Ieee.double b) = sameW Ieee.double a b by unfold sameW; rw [na, nb]; rfl)
    rw [na, nb] at Hf
    go_enter Tryz.func74, Tryz.ntmps74
    go_wp2_with (first | (go_at_call 88; refine (isNaN_any _ _).mono ?_; rintro e w' ⟨rfl, rfl⟩))
    go_ret
    exact ⟨ret_bool Hf.out, rfl⟩
theorem zero_cases (a : Nat) (ha : a < 18446744073709551616) (h : rung Ieee.double a = 0) : a = 0 ∨ a = 9223372036854775808 := by
  unfold rung at h; rw [sw_double] at h; omega
theorem neq_of (a b : Nat) : (FloatKind.f64.format.order a b != some .eq) = !(FloatKind.f64.format.order a b == some .eq) := rfl
theorem self_ne (a : Nat) : (FloatKind.f64.format.order a a != some .eq) = isNaN Ieee.double a := by
  show (Ieee.double.order a a != some .eq) = _
  rw [order_self Ieee.double hd]; cases isNaN Ieee.double a <;> rfl
theorem sv_zero : sv Ieee.double 0 = 0 := (sv_eq_zero _).2 (by decide)
theorem nan_zero : isNaN Ieee.double 0 = false := by decide
theorem quo_zero (s : Nat) (h : s = 0 ∨ s = 9223372036854775808) (w : World) : (binOp .quo 60 (.float .f64 4607182418800017408) (.float .f64 s)).run Tryz.prog w = .ok (.float .f64 (9218868437227405312 + s)) w := by
  rcases h with rfl | rfl
  · exact run_float_arith w .quo _ _ _ _ _ (by decide)
  · exact run_float_arith w .quo _ _ _ _ _ (by decide)
set_option maxHeartbeats 400000 in
theorem l01Same_any (a b : Nat) (w : World) (ha : a < 18446744073709551616) (hb : b < 18446744073709551616) :
    Calls Tryz.prog 85 #[.float .f64 a, .float .f64 b] w fun e w' => e = .returned (.bool (sameW Ieee.double a b)) ∧ w' = w := by
  have sa := self_ne a
  have sb := self_ne b
  cases na : isNaN Ieee.double a <;> cases nb : isNaN Ieee.double b
  · rw [na] at sa
    rw [nb] at sb
    have ho := order_double a b na nb
    by_cases h : sv Ieee.double a = sv Ieee.double b
    · rw [decide_eq_true h] at ho
      by_cases h0 : rung Ieee.double a = 0
      · have h1 : rung Ieee.double b = 0 := (sv_eq_zero _).1 (by rw [← h]; exact (sv_eq_zero _).2 h0)
        have ca := zero_cases a ha h0
        have cb := zero_cases b hb h1
        have qa := quo_zero a ca
        have qb := quo_zero b cb
        clear h h0 h1 na nb sa sb ho
        rcases ca with rfl | rfl <;> rcases cb with rfl | rfl
        · have o1 : (FloatKind.f64.format.order 0 0 != some .eq) = false := by decide
          have o2 : (FloatKind.f64.format.order 0 0 == some .eq) = true := by decide
          have o3 : (FloatKind.f64.format.order 9218868437227405312 9218868437227405312 == some .eq) = true := by decide
          have Hf := Lib.hid (show true = sameW Ieee.double 0 0 by decide)
          go_enter Tryz.func85, Tryz.ntmps85
          go_wp2
          go_ret
          exact ⟨ret_bool Hf.out, rfl⟩
        · have o1 : (FloatKind.f64.format.order 0 0 != some .eq) = false := by decide
          have o4 : (FloatKind.f64.format.order 9223372036854775808 9223372036854775808 != some .eq) = false := by decide
          have o2 : (FloatKind.f64.format.order 0 9223372036854775808 == some .eq) = true := by decide
          have o3 : (FloatKind.f64.format.order 9218868437227405312 18442240474082181120 == some .eq) = false := by decide
          have Hf := Lib.hid (show false = sameW Ieee.double 0 9223372036854775808 by decide)
          go_enter Tryz.func85, Tryz.ntmps85
          go_wp2
          go_ret
          exact ⟨ret_bool Hf.out, rfl⟩
        · have o1 : (FloatKind.f64.format.order 0 0 != some .eq) = false := by decide
          have o4 : (FloatKind.f64.format.order 9223372036854775808 9223372036854775808 != some .eq) = false := by decide
          have o5 : (FloatKind.f64.format.order 9223372036854775808 0 != some .eq) = false := by decide
          have o2 : (FloatKind.f64.format.order 9223372036854775808 0 == some .eq) = true := by decide
          have o3 : (FloatKind.f64.format.order 18442240474082181120 9218868437227405312 == some .eq) = false := by decide
          have Hf := Lib.hid (show false = sameW Ieee.double 9223372036854775808 0 by decide)
          go_enter Tryz.func85, Tryz.ntmps85
          go_wp2
          go_ret
          exact ⟨ret_bool Hf.out, rfl⟩
        · have o1 : (FloatKind.f64.format.order 9223372036854775808 0 != some .eq) = false := by decide
          have o4 : (FloatKind.f64.format.order 9223372036854775808 9223372036854775808 != some .eq) = false := by decide
          have o2 : (FloatKind.f64.format.order 9223372036854775808 9223372036854775808 == some .eq) = true := by decide
          have o3 : (FloatKind.f64.format.order 18442240474082181120 18442240474082181120 == some .eq) = true := by decide
          have Hf := Lib.hid (show true = sameW Ieee.double 9223372036854775808 9223372036854775808 by decide)
          go_enter Tryz.func85, Tryz.ntmps85
          go_wp2
          go_ret
          exact ⟨ret_bool Hf.out, rfl⟩
      · have hab : a = b := sv_inj _ (by rw [width_double]; exact ha) (by rw [width_double]; exact hb) h0 h
        subst hab
        have hz : (FloatKind.f64.format.order a 0 != some .eq) = true := by
          rw [neq_of, order_double a 0 na nan_zero, sv_zero, decide_eq_false (fun e => h0 ((sv_eq_zero _).1 e))]; rfl
        have Hf := Lib.hid (show true = sameW Ieee.double a a by rw [sameW_refl])
        clear h h0 na nb
        go_enter Tryz.func85, Tryz.ntmps85
        go_wp2
        go_ret
        exact ⟨ret_bool Hf.out, rfl⟩
    · rw [decide_eq_false h] at ho
      have Hf := Lib.hid (show false = sameW Ieee.double a b by
        unfold sameW; rw [na, nb]; symm
        exact beq_eq_false_iff_ne.2 (fun e => h (by rw [e])))
      clear h na nb
      go_enter Tryz.func85, Tryz.ntmps85
      go_wp2
      go_ret
      exact ⟨ret_bool Hf.out, rfl⟩
  all_goals
    rw [na] at sa
    rw [nb] at sb
    have Hf := Lib.hid (show (isNaN Ieee.double a && isNaN Ieee.double b) = sameW Ieee.double a b by unfold sameW; rw [na, nb]; rfl)
    rw [na, nb] at Hf
    clear na nb
    go_enter Tryz.func85, Tryz.ntmps85
    go_wp2
    go_ret
    exact ⟨ret_bool Hf.out, rfl⟩
end Go.Proofs.YtlngplohnknhjaaGreatDoor.SamF

/- Widening at every world, by one equation. -/
namespace Go.Proofs.YtlngplohnknhjaaGreatDoor.Flt
open Ieee Go.RowKit
def ndr (b : Nat) : Nat := if isNaN single b = true then 1 else 0
def widX (b : Nat) (w : World) : Nat := if isNaN single b = true then nan64 (w.tape w.drawn (.nanConv .f64 b)) else widen b
theorem run_widX {P : Program} (src dst : TypeId) (b : Nat) (hs' : (P.underlying src).isSome = true) (hd' : P.underlying dst = some (.float .f64)) (w : World) :
    (convert src dst (.float .f32 b)).run P w = .ok (.float .f64 (widX b w)) (w.drewN (ndr b)) := by
  unfold widX ndr
  cases h : isNaN single b
  · rw [run_widen src dst b hs' hd' h w]; rfl
  · rw [run_widen_nan src dst b hs' hd' h w]; rfl
theorem widX_wid (b : Nat) (w : World) : Wid b (widX b w) := by
  unfold widX
  cases h : isNaN single b
  · refine ⟨widen_wl b, ?_, fun _ => rfl⟩
    rw [h]; exact isNaN_widen b
  · refine ⟨?_, ?_, fun e => by rw [h] at e; cases e⟩
    · have := (nan64_isNaN (w.tape w.drawn (.nanConv .f64 b))).2; rw [width_double] at this; exact this
    · rw [h]; exact (nan64_isNaN _).1
theorem widX_num {b : Nat} (h : isNaN single b = false) (w : World) : widX b w = widen b := (widX_wid b w).2.2 h
theorem ndr_num {b : Nat} (h : isNaN single b = false) : ndr b = 0 := by unfold ndr; rw [h]; rfl
end Go.Proofs.YtlngplohnknhjaaGreatDoor.Flt

/- Plain facts: codes and their values, in singles. No program stands here. -/
namespace Go.Proofs.YtlngplohnknhjaaGreatDoor.Flt
open Ieee
theorem lam_single : lam single = 149 := by decide
theorem least_le : single.leastPlace ≤ 0 := by decide
def P149 : Nat := 2 ^ 149
theorem P149_eq : 2 ^ 149 = P149 := rfl
theorem P149_pos : 0 < P149 := Nat.two_pow_pos _
theorem mg_one : mg single 1065353216 = P149 := by decide +kernel
/-- the greatest code as a single -/
theorem mg_max : mg single 1191181824 = 32767 * P149 := by decide +kernel
theorem rung_max : rung single 1191181824 = 1191181824 := by decide
theorem sgn_max : sgn single 1191181824 = false := by decide
theorem decode32 (a : Nat) : FloatKind.f32.decode a = single.read a := rfl
theorem whole_cut32 (neg : Bool) (s e : Nat) : Toward.zero.cut neg (s <<< (single.leastPlace + (e : Int)).toNat) (-(single.leastPlace + (e : Int))).toNat = s * 2 ^ e / P149 := by
  rw [cut_zero, Nat.shiftLeft_eq, least_single, ← P149_eq]
  by_cases h : 149 ≤ e
  · obtain ⟨k, rfl⟩ : ∃ k, e = k + 149 := ⟨e - 149, by omega⟩
    rw [show (-149 + ((k + 149 : Nat) : Int)).toNat = k by omega, show (-(-149 + ((k + 149 : Nat) : Int))).toNat = 0 by omega]
    rw [Nat.pow_zero, Nat.div_one, Nat.pow_add, ← Nat.mul_assoc, Nat.mul_div_cancel _ (Nat.two_pow_pos _)]
  · obtain ⟨k, hk⟩ : ∃ k, 149 = k + e := ⟨149 - e, by omega⟩
    rw [show (-149 + (e : Int)).toNat = 0 by omega, show (-(-149 + (e : Int))).toNat = k by omega]
    rw [Nat.pow_zero, Nat.mul_one, hk, Nat.pow_add, Nat.mul_comm (2 ^ k), ← Nat.div_div_eq_div_mul, Nat.mul_div_cancel _ (Nat.two_pow_pos _)]
/-- a finite single, cut toward 0 -/
theorem trunc_single {p : Nat} (h : rung single p < single.infRung) : (single.read p).toInt .zero = some (if sgn single p then -((mg single (rung single p) / P149 : Nat) : Int) else ((mg single (rung single p) / P149 : Nat) : Int)) := by
  rw [reads_fin single h]
  unfold Datum.toInt
  show some (signed _ (Toward.zero.cut _ _ _) 0) = _
  rw [whole_cut32, ← mg_ss, signed_eq, Nat.pow_zero, Nat.mul_one]
/-- the code's amount, of rungs -/
def codeN (r s : Nat) : Nat := mg single (mulRung single (quoRung single r s) 1191181824) / P149
def codeI (x F : Nat) : Int := if (sgn single x ^^ sgn single F) then -(codeN (rung single x) (rung single F) : Int) else (codeN (rung single x) (rung single F) : Int)
theorem quo_le_one {r s : Nat} (hs : s ≠ 0) (h : r ≤ s) : quoRung single r s ≤ 1065353216 := by
  unfold quoRung
  refine Nat.le_trans (Nat.min_le_left _ _) (rr_le single _ (Nat.pos_of_ne_zero fun e => hs ((mg_eq_zero single).1 e)) ?_)
  rw [lam_single, mg_one, P149_eq, Nat.mul_comm]
  exact Nat.mul_le_mul_left _ ((mg_le_iff single).2 h)
theorem mul_le_max {r : Nat} (h : r ≤ 1065353216) : mulRung single r 1191181824 ≤ 1191181824 := by
  unfold mulRung
  refine Nat.le_trans (Nat.min_le_left _ _) (rr_le single _ (Nat.two_pow_pos _) ?_)
  rw [lam_single, P149_eq, Nat.mul_comm]
  refine Nat.mul_le_mul_left _ ?_
  rw [← mg_one]
  exact (mg_le_iff single).2 h
theorem codeN_le {r s : Nat} (hs : s ≠ 0) (h : r ≤ s) : codeN r s ≤ 32767 := by
  unfold codeN
  have h1 := (mg_le_iff single).2 (mul_le_max (quo_le_one hs h))
  rw [mg_max] at h1
  exact (Nat.div_le_iff_le_mul_add_pred P149_pos).2 (by rw [Nat.mul_comm]; omega)
theorem word_lt32 (s : Bool) {r : Nat} (h : r < single.signWeight) : single.word s r < 4294967296 := by
  have := word_lt' single s h
  rw [width_single] at this; exact this
/-- the three steps of a code -/
theorem code_steps {x F : Nat} (hF : rung single F < single.infRung) (h0 : rung single F ≠ 0) (h : rung single x ≤ rung single F) :
    ∃ q p, floatBits .quo .f32 x F = some q ∧ floatBits .mul .f32 q 1191181824 = some p ∧ floatToIntVal .f32 p .i64 = some (codeI x F) := by
  have hx : rung single x < single.infRung := by omega
  have hq := quo_le_one h0 h
  have hm := mul_le_max hq
  have hc := codeN_le h0 h
  have e1 := div_rr single least_le hx hF h0
  have hqi : quoRung single (rung single x) (rung single F) < single.infRung := by rw [inf_single]; omega
  have hqs : quoRung single (rung single x) (rung single F) < single.signWeight := by rw [sw_single]; omega
  have e2 := mul_rr single least_le (x := single.word (sgn single x ^^ sgn single F) (quoRung single (rung single x) (rung single F))) (y := 1191181824) (by rw [rung_word single _ hqs]; exact hqi) (by rw [rung_max, inf_single]; omega)
  rw [rung_word single _ hqs, sgn_word single _ hqs, rung_max, sgn_max, Bool.xor_false] at e2
  refine ⟨_, _, e1, e2, ?_⟩
  have hps : mulRung single (quoRung single (rung single x) (rung single F)) 1191181824 < single.signWeight := by rw [sw_single]; omega
  have hpi : mulRung single (quoRung single (rung single x) (rung single F)) 1191181824 < single.infRung := by rw [inf_single]; omega
  have e3 := trunc_single (p := single.word (sgn single x ^^ sgn single F) (mulRung single (quoRung single (rung single x) (rung single F)) 1191181824)) (by rw [rung_word single _ hps]; exact hpi)
  rw [rung_word single _ hps, sgn_word single _ hps] at e3
  unfold floatToIntVal
  rw [decode32, e3]
  have e4 : (if (sgn single x ^^ sgn single F) = true then -((mg single (mulRung single (quoRung single (rung single x) (rung single F)) 1191181824) / P149 : Nat) : Int) else ((mg single (mulRung single (quoRung single (rung single x) (rung single F)) 1191181824) / P149 : Nat) : Int)) = codeI x F := rfl
  rw [e4]
  have hb : -32767 ≤ codeI x F ∧ codeI x F ≤ 32767 := by
    unfold codeI
    split <;> omega
  simp only
  rw [if_pos]
  rw [i64_min, i64_max]
  omega
theorem codeI_bounds {x F : Nat} (h0 : rung single F ≠ 0) (h : rung single x ≤ rung single F) : -32767 ≤ codeI x F ∧ codeI x F ≤ 32767 := by
  have hc := codeN_le h0 h
  unfold codeI
  split <;> omega
/-- the steps of a value -/
theorem ofInt32 (n : Int) : floatOfInt .f32 n = single.word (decide (n < 0)) (min (rr single (n.natAbs * P149) 1) single.infRung) := by
  show single.nearest _ _ _ = _
  rw [nearest_rr, least_single]
  rfl
theorem ofInt_le {n : Int} (h : n.natAbs ≤ 32767) : min (rr single (n.natAbs * P149) 1) single.infRung ≤ 1191181824 := by
  refine Nat.le_trans (Nat.min_le_left _ _) (rr_le single _ (by omega) ?_)
  rw [mg_max, Nat.mul_one]
  exact Nat.mul_le_mul_right _ h
theorem value_steps {n : Int} {F : Nat} (h : n.natAbs ≤ 32767) (hF : rung single F < single.infRung) :
    ∃ q v, floatBits .quo .f32 (floatOfInt .f32 n) 1191181824 = some q ∧ floatBits .mul .f32 q F = some v := by
  have h1 := ofInt_le h
  have hs : min (rr single (n.natAbs * P149) 1) single.infRung < single.signWeight := by rw [sw_single]; omega
  have hr : rung single (floatOfInt .f32 n) = min (rr single (n.natAbs * P149) 1) single.infRung := by rw [ofInt32, rung_word single _ hs]
  have hx : rung single (floatOfInt .f32 n) < single.infRung := by rw [hr]; exact Nat.lt_of_le_of_lt h1 (by decide)
  have e1 := div_rr single least_le hx (y := 1191181824) (by rw [rung_max, inf_single]; decide) (by rw [rung_max]; decide)
  have hq := quo_le_one (r := rung single (floatOfInt .f32 n)) (s := 1191181824) (fun e => by cases e) (by rw [hr]; exact h1)
  rw [rung_max] at e1
  have hqs : quoRung single (rung single (floatOfInt .f32 n)) 1191181824 < single.signWeight := by rw [sw_single]; omega
  have e2 := mul_rr single least_le (x := single.word (sgn single (floatOfInt .f32 n) ^^ sgn single 1191181824) (quoRung single (rung single (floatOfInt .f32 n)) 1191181824)) (y := F) (by rw [rung_word single _ hqs, inf_single]; omega) hF
  exact ⟨_, _, e1, e2⟩
end Go.Proofs.YtlngplohnknhjaaGreatDoor.Flt

/- Plain facts: whole numbers as doubles, their products and quotients, and how a double is narrowed. No program stands here. -/
namespace Go.Proofs.YtlngplohnknhjaaGreatDoor.Flt
open Ieee
def PV : Nat := 2 ^ (W + 149)
theorem PV_eq : 2 ^ (W + 149) = PV := rfl
theorem PV_pos : 0 < PV := Nat.two_pow_pos _
theorem A_sp {m : Nat} (hm : m < 9007199254740992) : A m 149 < double.infRung ∧ mg double (A m 149) = m * PV := by
  have h := A_spec (q := 149) hm (by omega)
  rw [PV_eq] at h
  exact h
theorem lamPV : 2 ^ lam double = PV := by rw [show lam double = W + 149 by rw [W_eq]; decide, PV_eq]
theorem ofIntA {m : Nat} (hm : m < 9007199254740992) : floatOfInt .f64 (m : Int) = A m 149 := by
  have hs' := A_sp hm
  show double.nearest (decide ((m : Int) < 0)) (m : Int).natAbs 0 = _
  rw [decide_eq_false (by omega), Int.natAbs_natCast, nearest_rr]
  rw [show (0 - double.leastPlace).toNat = W + 149 by rw [least_double, W_eq]; rfl, show (double.leastPlace - 0).toNat = 0 by rw [least_double]; rfl]
  rw [PV_eq, Nat.pow_zero, show rr double (m * PV) 1 = A m 149 from rr_exact double _ Nat.one_pos (by rw [hs'.2, Nat.mul_one]), Nat.min_eq_left (Nat.le_of_lt hs'.1), word_false]
theorem one_A : A 1 149 = 4607182418800017408 := by
  rw [← ofIntA (by omega)]; decide +kernel
theorem ten_A : A 10 149 = 4621819117588971520 := by
  rw [← ofIntA (by omega)]; decide +kernel
theorem least_le_d : double.leastPlace ≤ 0 := by decide
theorem mul_A {m n : Nat} (h : m * n < 9007199254740992) (hm : m < 9007199254740992) (hn : n < 9007199254740992) :
    floatBits .mul .f64 (A m 149) (A n 149) = some (A (m * n) 149) := by
  have h1 := A_sp hm
  have h2 := A_sp hn
  have h3 := A_sp h
  show double.mul _ _ = _
  rw [mul_rr double least_le_d (by rw [rung_A hm (by omega)]; exact h1.1) (by rw [rung_A hn (by omega)]; exact h2.1), sgn_A hm (by omega), sgn_A hn (by omega), rung_A hm (by omega), rung_A hn (by omega)]
  unfold mulRung
  rw [h1.2, h2.2, lamPV, rr_exact double (A (m * n) 149) PV_pos (by rw [h3.2]; generalize PV = p; ac_rfl), Nat.min_eq_left (Nat.le_of_lt h3.1)]
  rfl
theorem mg_A_pos {n : Nat} (hn : n < 9007199254740992) (h0 : 0 < n) : rung double (A n 149) ≠ 0 := by
  rw [rung_A hn (by omega)]
  intro e
  have h2 := (A_sp hn).2
  rw [e, mg_zero] at h2
  have := Nat.mul_pos h0 PV_pos
  omega
theorem quo_A {m n : Nat} (hm : m < 9007199254740992) (hn : n < 9007199254740992) (h0 : 0 < n) :
    floatBits .quo .f64 (A m 149) (A n 149) = some (quoRung double (A m 149) (A n 149)) := by
  have h1 := A_sp hm
  have h2 := A_sp hn
  show double.div _ _ = _
  rw [div_rr double least_le_d (by rw [rung_A hm (by omega)]; exact h1.1) (by rw [rung_A hn (by omega)]; exact h2.1) (mg_A_pos hn h0), sgn_A hm (by omega), sgn_A hn (by omega), rung_A hm (by omega), rung_A hn (by omega), show (false ^^ false) = false from rfl, word_false]
/-- a quotient by a whole number is no greater -/
theorem quo_le {m n : Nat} (hm : m < 9007199254740992) (hn : n < 9007199254740992) (h0 : 0 < n) : quoRung double (A m 149) (A n 149) ≤ A m 149 := by
  have h1 := A_sp hm
  have h2 := A_sp hn
  unfold quoRung
  refine Nat.le_trans (Nat.min_le_left _ _) ?_
  refine rr_le double _ (by rw [h2.2]; exact Nat.mul_pos h0 PV_pos) ?_
  rw [h2.2, lamPV]
  generalize mg double (A m 149) = q
  generalize PV = p
  exact Nat.mul_le_mul_left _ (Nat.le_mul_of_pos_left _ h0)
theorem quo_exact {m n : Nat} (h : m * n < 9007199254740992) (hn : n < 9007199254740992) (h0 : 0 < n) (hm : m < 9007199254740992) : quoRung double (A (m * n) 149) (A n 149) = A m 149 := by
  have h1 := A_sp hm
  have h2 := A_sp hn
  have h3 := A_sp h
  unfold quoRung
  rw [h2.2, h3.2, lamPV, rr_exact double (A m 149) (Nat.mul_pos h0 PV_pos) (by rw [h1.2]; generalize PV = p; ac_rfl), Nat.min_eq_left (Nat.le_of_lt h1.1)]
/-- what narrowing makes of a rung of the doubles -/
def nrw (r : Nat) : Nat := rr single (mg double r) (2 ^ W)
theorem pos_rungD {r : Nat} (h : r < double.infRung) : rung double r = r := Nat.mod_eq_of_lt (Nat.lt_trans h double.infRung_lt)
theorem pos_sgnD {r : Nat} (h : r < double.infRung) : sgn double r = false := by
  unfold sgn; rw [Nat.div_eq_of_lt (Nat.lt_trans h double.infRung_lt)]; rfl
theorem narrow_pos {r : Nat} (h : r < double.infRung) (h2 : nrw r < single.infRung) : floatToFloatBits .f64 r .f32 = some (nrw r) := by
  have hr := reads_fin double (w := r) (by rw [pos_rungD h]; exact h)
  rw [pos_rungD h, pos_sgnD h] at hr
  unfold floatToFloatBits
  rw [if_neg (by decide)]
  have hdec : FloatKind.f64.decode r = double.read r := rfl
  rw [hdec, hr]
  have hn : FloatKind.f32.encode (.number false (ss double r) (double.leastPlace + (qq double r : Int))) = nrw r := by
    show single.nearest _ _ _ = _
    rw [nearest_rr]
    have hc : rr single (ss double r * 2 ^ (double.leastPlace + (qq double r : Int) - single.leastPlace).toNat) (2 ^ (single.leastPlace - (double.leastPlace + (qq double r : Int))).toNat) = nrw r := by
      unfold nrw
      refine rr_congr single (Nat.two_pow_pos _) (Nat.two_pow_pos _) ?_
      rw [mg_ss double r, pow2_mul, pow2_mul]
      congr 2
      rw [least_double, least_single, W_eq]
      omega
    rw [hc, Nat.min_eq_left (Nat.le_of_lt h2)]
    rfl
  simp only [hn]
  have hi : (FloatKind.f32.decode (nrw r)).isInfinity = false := isInf_read single hs false h2
  rw [hi]; rfl
theorem nrw_mono {r s : Nat} (h : r ≤ s) : nrw r ≤ nrw s := rr_mono single (Nat.two_pow_pos _) (Nat.two_pow_pos _) (Nat.mul_le_mul_right _ (mg_le double h))
theorem nrw_A {m : Nat} (hm : m < 9007199254740992) : nrw (A m 149) = rr single (m * P149) 1 := by
  unfold nrw
  rw [(A_sp hm).2]
  refine rr_congr single (Nat.two_pow_pos _) Nat.one_pos ?_
  rw [← PV_eq, ← P149_eq, Nat.pow_add, Nat.mul_one, Nat.mul_assoc, Nat.mul_comm (2 ^ W)]
theorem mg_53 : mg single 1509949440 = 9007199254740992 * P149 := by decide +kernel
theorem nrw_fin {r m : Nat} (hm : m < 9007199254740992) (h : r ≤ A m 149) : nrw r < single.infRung := by
  refine Nat.lt_of_le_of_lt (nrw_mono h) ?_
  rw [nrw_A hm]
  have : rr single (m * P149) 1 ≤ 1509949440 := rr_le single _ Nat.one_pos (by rw [mg_53, Nat.mul_one]; exact Nat.mul_le_mul_right _ (by omega))
  rw [inf_single]; omega
/-- the decimal quotient, narrowed -/
def dq (d p : Nat) : Nat := nrw (quoRung double (A d 149) (A p 149))
theorem dq_narrow {d p : Nat} (hd : d < 9007199254740992) (hp : p < 9007199254740992) (h0 : 0 < p) :
    floatToFloatBits .f64 (quoRung double (A d 149) (A p 149)) .f32 = some (dq d p) ∧ dq d p < 2139095040 := by
  have hl := quo_le hd hp h0
  have h1 := (A_sp hd).1
  have h2 := nrw_fin hd hl
  exact ⟨narrow_pos (by omega) h2, by rw [inf_single] at h2; exact h2⟩
/-- a number and its tenfold over ten are the single of the number -/
theorem dq_whole {m : Nat} (hm : m < 16777216) : dq m 1 = floatOfInt .f32 (m : Int) ∧ dq (m * 10) 10 = floatOfInt .f32 (m : Int) := by
  have e : rr single (m * P149) 1 = floatOfInt .f32 (m : Int) := by
    rw [ofInt32, decide_eq_false (by omega), Int.natAbs_natCast, Nat.min_eq_left]
    · rfl
    · have := nrw_fin (m := m) (r := A m 149) (by omega) (Nat.le_refl _)
      rw [nrw_A (by omega)] at this
      omega
  constructor
  · have := quo_exact (m := m) (n := 1) (by omega) (by omega) (by omega) (by omega)
    rw [Nat.mul_one] at this
    unfold dq
    rw [this, nrw_A (by omega), e]
  · unfold dq
    rw [quo_exact (by omega) (by omega) (by omega) (by omega), nrw_A (by omega), e]
end Go.Proofs.YtlngplohnknhjaaGreatDoor.Flt

/- Plain facts: the form of a decimal number without a sign, by places of a text. -/
namespace Go.Proofs.YtlngplohnknhjaaGreatDoor.Dec
open Go
set_option linter.unusedVariables false
def byt (s : ByteArray) (i : Nat) : Nat := (s.data.toList.getD i 0).toNat
def dg (c : Nat) : Prop := 48 ≤ c ∧ c ≤ 57
/-- the n bytes from place a are digits -/
def digs (s : ByteArray) (a n : Nat) : Prop := ∀ j, j < n → dg (byt s (a + j))
/-- their value -/
def vl (s : ByteArray) (a : Nat) : Nat → Nat
  | 0 => 0
  | n + 1 => 10 * vl s a n + (byt s (a + n) - 48)
theorem digs_zero (s : ByteArray) (a : Nat) : digs s a 0 := fun j hj => absurd hj (Nat.not_lt_zero j)
theorem digs_succ {s : ByteArray} {a n : Nat} (h : digs s a n) (hd : dg (byt s (a + n))) : digs s a (n + 1) := by
  intro j hj
  by_cases e : j = n
  · subst e; exact hd
  · exact h j (by omega)
theorem vl_lt {s : ByteArray} {a : Nat} : ∀ {n : Nat}, digs s a n → vl s a n < 10 ^ n := by
  intro n
  induction n with
  | zero => intro _; exact Nat.one_pos
  | succ n ih =>
    intro h
    have i := ih (fun j hj => h j (by omega))
    have d := h n (by omega)
    unfold dg at d
    show 10 * vl s a n + (byt s (a + n) - 48) < 10 ^ (n + 1)
    rw [Nat.pow_succ]
    omega
theorem pow15 {n : Nat} (h : n ≤ 15) : 10 ^ n ≤ 1000000000000000 := by
  have := Nat.pow_le_pow_right (n := 10) (by omega) h
  exact Nat.le_trans this (by decide)
theorem vl_15 {s : ByteArray} {a n : Nat} (h : digs s a n) (hn : n ≤ 15) : vl s a n < 1000000000000000 := Nat.lt_of_lt_of_le (vl_lt h) (pow15 hn)
/-- the n bytes from place a are a decimal number: d its digits, k of them behind the point -/
def Form (s : ByteArray) (a n d k : Nat) : Prop :=
  (1 ≤ n ∧ n ≤ 15 ∧ digs s a n ∧ d = vl s a n ∧ k = 0) ∨
  (∃ p b, 1 ≤ p ∧ 1 ≤ b ∧ n = p + 1 + b ∧ p + b ≤ 15 ∧ byt s (a + p) = 46 ∧ digs s a p ∧ digs s (a + p + 1) b ∧ d = vl s a p * 10 ^ b + vl s (a + p + 1) b ∧ k = b)
theorem not_dg_46 {c : Nat} (h : c = 46) (hd : dg c) : False := by unfold dg at hd; omega
/-- the point stands at one place only -/
theorem form_point {s : ByteArray} {a n d k i : Nat} (h : Form s a n d k) (hi : i < n) (hb : ¬ dg (byt s (a + i))) : byt s (a + i) = 46 ∧ 1 ≤ i ∧ i + 1 < n ∧ digs s a i ∧ k = n - 1 - i ∧ n ≤ 16 ∧ d = vl s a i * 10 ^ k + vl s (a + i + 1) k ∧ digs s (a + i + 1) k := by
  rcases h with ⟨h1, h2, h3, h4, h5⟩ | ⟨p, b, h1, h2, h3, h4, h5, h6, h7, h8, h9⟩
  · exact absurd (h3 i hi) hb
  · have e : i = p := by
      apply Nat.le_antisymm
      · apply Nat.le_of_not_lt
        intro hlt
        apply hb
        have := h7 (i - p - 1) (by omega)
        rw [show a + p + 1 + (i - p - 1) = a + i by omega] at this
        exact this
      · apply Nat.le_of_not_lt
        intro hlt
        exact hb (h6 i hlt)
    subst e
    subst h9
    exact ⟨h5, h1, by omega, h6, by omega, by omega, h8, h7⟩
theorem form_digs {s : ByteArray} {a n d k : Nat} (h : Form s a n d k) (hd : digs s a n) : 1 ≤ n ∧ n ≤ 15 ∧ d = vl s a n ∧ k = 0 := by
  rcases h with ⟨h1, h2, h3, h4, h5⟩ | ⟨p, b, h1, h2, h3, h4, h5, h6, h7, h8, h9⟩
  · exact ⟨h1, h2, h4, h5⟩
  · exact absurd (hd p (by omega)) (fun h => not_dg_46 h5 h)
theorem form_fun {s : ByteArray} {a n d k d' k' : Nat} (h : Form s a n d k) (h' : Form s a n d' k') : d = d' ∧ k = k' := by
  by_cases hd : digs s a n
  · have x := form_digs h hd
    have y := form_digs h' hd
    exact ⟨by omega, by omega⟩
  · obtain ⟨i, hi, hb⟩ : ∃ i, i < n ∧ ¬ dg (byt s (a + i)) := by
      apply Classical.byContradiction
      intro hn
      apply hd
      intro j hj
      apply Classical.byContradiction
      intro hb
      exact hn ⟨j, hj, hb⟩
    have x := form_point h hi hb
    have y := form_point h' hi hb
    have hk : k = k' := by omega
    subst hk
    exact ⟨by rw [x.2.2.2.2.2.2.1, y.2.2.2.2.2.2.1], rfl⟩
theorem form_small {s : ByteArray} {a n d k : Nat} (h : Form s a n d k) : d < 1000000000000000 ∧ k ≤ 14 ∧ 1 ≤ n ∧ n ≤ 16 := by
  rcases h with ⟨h1, h2, h3, h4, h5⟩ | ⟨p, b, h1, h2, h3, h4, h5, h6, h7, h8, h9⟩
  · exact ⟨by rw [h4]; exact vl_15 h3 h2, by omega, by omega, by omega⟩
  · refine ⟨?_, by omega, by omega, by omega⟩
    have x := vl_lt h6
    have y := vl_lt h7
    have z := pow15 (n := p + b) h4
    rw [Nat.pow_add] at z
    have : (vl s a p + 1) * 10 ^ b ≤ 10 ^ p * 10 ^ b := Nat.mul_le_mul_right _ x
    rw [Nat.add_mul, Nat.one_mul] at this
    omega
open Classical in
/-- what the number is read as: its digits, the places behind its point, and whether it has the form -/
noncomputable def dnum (s : ByteArray) (a n : Nat) : Nat × Nat × Bool := if h : ∃ d k, Form s a n d k then (h.choose, h.choose_spec.choose, true) else (0, 0, false)
theorem dnum_of {s : ByteArray} {a n d k : Nat} (h : Form s a n d k) : dnum s a n = (d, k, true) := by
  unfold dnum
  have hx : ∃ d k, Form s a n d k := ⟨d, k, h⟩
  rw [dif_pos hx]
  obtain ⟨e1, e2⟩ := form_fun hx.choose_spec.choose_spec h
  exact Prod.ext e1 (Prod.ext e2 rfl)
theorem dnum_none {s : ByteArray} {a n : Nat} (h : ¬ ∃ d k, Form s a n d k) : dnum s a n = (0, 0, false) := dif_neg h
theorem byt_extract (s : ByteArray) (a i : Nat) : byt (s.extract a s.size) i = byt s (a + i) := by
  unfold byt
  rw [Lib.extract_to_end s a]
  simp
theorem digs_extract {s : ByteArray} {b a n : Nat} : digs (s.extract b s.size) a n ↔ digs s (b + a) n := by
  unfold digs
  constructor
  · intro h j hj
    have := h j hj
    rw [byt_extract, ← Nat.add_assoc] at this
    exact this
  · intro h j hj
    rw [byt_extract, ← Nat.add_assoc]
    exact h j hj
theorem vl_extract (s : ByteArray) (b a n : Nat) : vl (s.extract b s.size) a n = vl s (b + a) n := by
  induction n with
  | zero => rfl
  | succ n ih =>
    show 10 * vl (s.extract b s.size) a n + (byt (s.extract b s.size) (a + n) - 48) = 10 * vl s (b + a) n + (byt s (b + a + n) - 48)
    rw [ih, byt_extract, Nat.add_assoc]
theorem form_extract {s : ByteArray} {b a n d k : Nat} : Form (s.extract b s.size) a n d k ↔ Form s (b + a) n d k := by
  unfold Form
  simp only [digs_extract, vl_extract, byt_extract, Nat.add_assoc]
theorem dnum_extract (s : ByteArray) (b a n : Nat) : dnum (s.extract b s.size) a n = dnum s (b + a) n := by
  by_cases h : ∃ d k, Form s (b + a) n d k
  · obtain ⟨d, k, h⟩ := h
    rw [dnum_of h, dnum_of (form_extract.2 h)]
  · rw [dnum_none h, dnum_none (fun ⟨d, k, h'⟩ => h ⟨d, k, form_extract.1 h'⟩)]
/-- how far a scan goes -/
def Stop (t : ByteArray) (L c : Nat) : Prop := c ≤ t.size ∧ c ≤ L ∧ digs t 0 c ∧ (c = t.size ∨ c = L ∨ ¬ dg (byt t c))
theorem stop_form {t : ByteArray} {c d k : Nat} (hs : Stop t 15 c) (hc : c < t.size) (h : Form t 0 t.size d k) : byt t c = 46 ∧ 1 ≤ c ∧ c + 1 < t.size ∧ k = t.size - 1 - c ∧ t.size ≤ 16 ∧ d = vl t 0 c * 10 ^ k + vl t (c + 1) k ∧ digs t (c + 1) k := by
  obtain ⟨h1, h2, h3, h4⟩ := hs
  by_cases hd : dg (byt t c)
  · exfalso
    have hc15 : c = 15 := by
      rcases h4 with h4 | h4 | h4
      · omega
      · exact h4
      · exact absurd hd h4
    rcases h with ⟨g1, g2, g3, g4, g5⟩ | ⟨p, b, g1, g2, g3, g4, g5, g6, g7, g8, g9⟩
    · omega
    · rw [Nat.zero_add] at g5
      by_cases hp : p < c
      · have := h3 p hp
        rw [Nat.zero_add] at this
        exact not_dg_46 g5 this
      · omega
  · have := form_point h hc (by rw [Nat.zero_add]; exact hd)
    rw [Nat.zero_add] at this
    exact ⟨this.1, this.2.1, this.2.2.1, this.2.2.2.2.1, this.2.2.2.2.2.1, this.2.2.2.2.2.2.1, this.2.2.2.2.2.2.2⟩
theorem stop_zero {t : ByteArray} (hs : Stop t 15 0) : ¬ ∃ d k, Form t 0 t.size d k := by
  rintro ⟨d, k, h⟩
  by_cases hz : 0 < t.size
  · have := (stop_form hs hz h).2.1
    omega
  · have := (form_small h).2.2.1
    omega
theorem stop_all {t : ByteArray} {c : Nat} (hs : Stop t 15 c) (h0 : 0 < c) (hc : c = t.size) : Form t 0 t.size (vl t 0 c) 0 := by
  obtain ⟨h1, h2, h3, h4⟩ := hs
  subst hc
  exact .inl ⟨h0, h2, h3, rfl, rfl⟩
theorem stop_frac {t : ByteArray} {c b d k : Nat} (hs : Stop t 15 c) (hc : c < t.size) (hb : Stop (t.extract (c + 1) t.size) (15 - c) b) (hz : (t.extract (c + 1) t.size).size = t.size - (c + 1)) (h : Form t 0 t.size d k) :
    b = t.size - (c + 1) ∧ 0 < b := by
  obtain ⟨g1, g2, g3, g4, g5, g6, g7⟩ := stop_form hs hc h
  obtain ⟨h1, h2, h3, h4⟩ := hb
  rw [hz] at h1 h4
  subst g4
  rcases h4 with h4 | h4 | h4
  · omega
  · omega
  · by_cases e : b = t.size - (c + 1)
    · omega
    · exfalso
      apply h4
      rw [byt_extract]
      exact g7 b (by omega)
theorem stop_good {t : ByteArray} {c b : Nat} (hs : Stop t 15 c) (hc : c < t.size) (h0 : 0 < c) (h46 : byt t c = 46) (hb : Stop (t.extract (c + 1) t.size) (15 - c) b) (hb0 : 0 < b) (hbl : b = t.size - (c + 1)) :
    Form t 0 t.size (vl t 0 c * 10 ^ b + vl (t.extract (c + 1) t.size) 0 b) b := by
  obtain ⟨h1, h2, h3, h4⟩ := hs
  obtain ⟨g1, g2, g3, g4⟩ := hb
  refine .inr ⟨c, b, h0, hb0, by omega, by omega, by rw [Nat.zero_add]; exact h46, h3, ?_, ?_, rfl⟩
  · rw [digs_extract] at g3
    rw [Nat.zero_add]
    exact g3
  · rw [vl_extract, Nat.zero_add]
/-- so far no number here is too great -/
theorem up_lt {n c j : Nat} (hn : n < 10 ^ c) (h : c + j < 15) : n * 10 ^ j * 10 < 1000000000000000 := by
  have h1 : (n + 1) * 10 ^ j ≤ 10 ^ c * 10 ^ j := Nat.mul_le_mul_right _ hn
  have h2 := pow15 (n := c + j + 1) (by omega)
  rw [Nat.pow_succ, Nat.pow_add] at h2
  have h3 := Nat.two_pow_pos 1
  have h4 : 0 < 10 ^ j := Nat.pow_pos (by omega)
  rw [Nat.add_mul] at h1
  omega
theorem extract_size (t : ByteArray) (a : Nat) : (t.extract a t.size).size = t.size - a := by
  show (t.extract a t.size).data.size = _
  rw [← Array.length_toList, Lib.extract_to_end, List.length_drop, Array.length_toList]
  rfl
/-- how far the model's scan of s has come, at place i: the digits so far, how many, the place of the point (below 0: none yet) -/
def St (s : ByteArray) (i d c : Nat) (pt : Int) : Prop :=
  1 ≤ i ∧ ((pt = -1 ∧ digs s 1 (i - 1) ∧ d = vl s 1 (i - 1) ∧ c = i - 1) ∨
    (∃ p : Nat, pt = (p : Int) ∧ 1 < p ∧ p < i ∧ p + 1 < s.size ∧ byt s p = 46 ∧ digs s 1 (p - 1) ∧ digs s (p + 1) (i - 1 - p) ∧ d = vl s 1 (p - 1) * 10 ^ (i - 1 - p) + vl s (p + 1) (i - 1 - p) ∧ c = i - 2))
theorem st_zero (s : ByteArray) : St s 1 0 0 (-1) := ⟨Nat.le_refl _, .inl ⟨rfl, digs_zero s 1, rfl, rfl⟩⟩
theorem st_point {s : ByteArray} {i d c : Nat} {pt : Int} (h : St s i d c pt) (hp : pt < 0) (h46 : byt s i = 46) (h1 : 1 < i) (h2 : i + 1 < s.size) : St s (i + 1) d c i := by
  obtain ⟨h0, h⟩ := h
  rcases h with ⟨g1, g2, g3, g4⟩ | ⟨p, g1, _⟩
  · refine ⟨by omega, .inr ⟨i, rfl, h1, by omega, h2, h46, g2, ?_, ?_, by omega⟩⟩
    · rw [show i + 1 - 1 - i = 0 by omega]; exact digs_zero _ _
    · rw [show i + 1 - 1 - i = 0 by omega, g3]
      show _ = vl s 1 (i - 1) * 1 + 0
      omega
  · omega
theorem vl_add (s : ByteArray) (a n : Nat) : vl s a (n + 1) = 10 * vl s a n + (byt s (a + n) - 48) := rfl
theorem st_digit {s : ByteArray} {i d c : Nat} {pt : Int} (h : St s i d c pt) (hd : dg (byt s i)) : St s (i + 1) (10 * d + (byt s i - 48)) (c + 1) pt := by
  obtain ⟨h0, h⟩ := h
  rcases h with ⟨g1, g2, g3, g4⟩ | ⟨p, g1, g2, g3, g4, g5, g6, g7, g8, g9⟩
  · refine ⟨by omega, .inl ⟨g1, ?_, ?_, by omega⟩⟩
    · have := digs_succ g2 (by rw [show 1 + (i - 1) = i by omega]; exact hd)
      rw [show i - 1 + 1 = i + 1 - 1 by omega] at this
      exact this
    · rw [g3, show i + 1 - 1 = i - 1 + 1 by omega, vl_add, show 1 + (i - 1) = i by omega]
  · refine ⟨by omega, .inr ⟨p, g1, g2, by omega, g4, g5, g6, ?_, ?_, by omega⟩⟩
    · have := digs_succ g7 (by rw [show p + 1 + (i - 1 - p) = i by omega]; exact hd)
      rw [show i - 1 - p + 1 = i + 1 - 1 - p by omega] at this
      exact this
    · rw [g8, show i + 1 - 1 - p = i - 1 - p + 1 by omega, vl_add, show p + 1 + (i - 1 - p) = i by omega, Nat.pow_succ]
      generalize vl s 1 (p - 1) = x
      generalize 10 ^ (i - 1 - p) = y
      rw [← Nat.mul_assoc]
      omega
theorem st_lt {s : ByteArray} {i d c : Nat} {pt : Int} (h : St s i d c pt) : d < 10 ^ c ∧ c ≤ i ∧ -1 ≤ pt ∧ pt < i := by
  obtain ⟨h0, h⟩ := h
  rcases h with ⟨g1, g2, g3, g4⟩ | ⟨p, g1, g2, g3, g4, g5, g6, g7, g8, g9⟩
  · exact ⟨by rw [g3, g4]; exact vl_lt g2, by omega, by omega, by omega⟩
  · refine ⟨?_, by omega, by omega, by omega⟩
    have x := vl_lt g6
    have y := vl_lt g7
    have hc : c = (p - 1) + (i - 1 - p) := by omega
    rw [hc, Nat.pow_add, g8]
    have : (vl s 1 (p - 1) + 1) * 10 ^ (i - 1 - p) ≤ 10 ^ (p - 1) * 10 ^ (i - 1 - p) := Nat.mul_le_mul_right _ x
    rw [Nat.add_mul, Nat.one_mul] at this
    omega
/-- a sign that is neither digit nor a point that may stand here -/
theorem st_bad {s : ByteArray} {i d c : Nat} {pt : Int} (h : St s i d c pt) (hi : i < s.size) (hd : ¬ dg (byt s i)) (hn : byt s i = 46 → 0 ≤ pt ∨ ¬ 1 < i ∨ ¬ i + 1 < s.size) : ¬ ∃ d k, Form s 1 (s.size - 1) d k := by
  rintro ⟨d', k', hf⟩
  obtain ⟨h0, h⟩ := h
  have e : 1 + (i - 1) = i := by omega
  have fp := form_point hf (i := i - 1) (by omega) (by rw [e]; exact hd)
  rw [e] at fp
  rcases hn fp.1 with h | h | h
  · rcases ‹_ ∨ _› with ⟨g1, _⟩ | ⟨p, g1, g2, g3, g4, g5, g6, g7, g8, g9⟩
    · omega
    · have := fp.2.2.2.1 (p - 1) (by omega)
      rw [show 1 + (p - 1) = p by omega] at this
      exact not_dg_46 g5 this
  · omega
  · omega
theorem st_end {s : ByteArray} {d c : Nat} {pt : Int} (h : St s s.size d c pt) (h2 : 2 ≤ s.size) (hc : c ≤ 15) :
    ∃ k : Nat, Form s 1 (s.size - 1) d k ∧ ((pt < 0 ∧ k = 0) ∨ (0 ≤ pt ∧ (k : Int) = s.size - 1 - pt)) := by
  obtain ⟨h0, h⟩ := h
  rcases h with ⟨g1, g2, g3, g4⟩ | ⟨p, g1, g2, g3, g4, g5, g6, g7, g8, g9⟩
  · exact ⟨0, .inl ⟨by omega, by omega, g2, g3, rfl⟩, .inl ⟨by omega, rfl⟩⟩
  · refine ⟨s.size - 1 - p, .inr ⟨p - 1, s.size - 1 - p, by omega, by omega, by omega, by omega, ?_, g6, ?_, ?_, rfl⟩, .inr ⟨by omega, by omega⟩⟩
    · rw [show 1 + (p - 1) = p by omega]; exact g5
    · rw [show 1 + (p - 1) + 1 = p + 1 by omega]; exact g7
    · rw [show 1 + (p - 1) + 1 = p + 1 by omega]; exact g8
theorem st_many {s : ByteArray} {d c : Nat} {pt : Int} (h : St s s.size d c pt) (h2 : 2 ≤ s.size) (hc : 15 < c) : ¬ ∃ d k, Form s 1 (s.size - 1) d k := by
  rintro ⟨d', k', hf⟩
  obtain ⟨h0, h⟩ := h
  rcases h with ⟨g1, g2, g3, g4⟩ | ⟨p, g1, g2, g3, g4, g5, g6, g7, g8, g9⟩
  · have := form_digs hf g2
    omega
  · have fp := form_point hf (i := p - 1) (by omega) (by rw [show 1 + (p - 1) = p by omega]; intro hd; exact not_dg_46 g5 hd)
    omega
end Go.Proofs.YtlngplohnknhjaaGreatDoor.Dec

/- The program's scan of digits (the head of XDecI, for a seat without readDigits: never import both). -/
namespace Go.Proofs.YtlngplohnknhjaaGreatDoor.Dec
open Go.ChangeShapes Go.WideShapes Go.ChangeAt Go.RowKit Go.Proofs.YtlngplohnknhjaaGreatDoor
set_option linter.unusedVariables false
theorem idx_run (s : ByteArray) (i : Nat) (h : i < s.size) (x : Int) (hx : x = (i : Int)) :
    ∃ c : Nat, c = byt s i ∧ c ≤ 255 ∧ ∀ w, (Instr.index 9 (.string s) (.int .i64 x)).run Tryz.prog w = .ok (.int .u8 (c : Int)) w := by
  subst hx
  have hlt2 : (i : Int) < s.size := by omega
  obtain ⟨b, hb⟩ : ∃ b : UInt8, b = s[i] := ⟨_, rfl⟩
  refine ⟨b.toNat, ?_, by have := b.toNat_lt; omega, fun w => ?_⟩
  · unfold byt
    rw [List.getD_eq_getElem?_getD, Array.getElem?_toList, Array.getElem?_eq_getElem (by simpa using h)]
    rw [hb]; rfl
  · rw [run_index_string _ _ _ _ _ Tryz.underlying9, dif_pos ⟨by omega, hlt2⟩, hb]
    rfl
def Scan (t : ByteArray) (L : Nat) (w : World) (e : Ending) (w' : World) : Prop := (∃ c, Stop t L c ∧ e = .returned (.tuple #[.int .i64 (vl t 0 c : Int), .int .i64 (c : Int)])) ∧ w' = w
set_option maxHeartbeats 800000 in
theorem scan_any (t : ByteArray) (L : Nat) (hL : L ≤ 15) (ht : t.size ≤ 9223372036854775807) (w : World) : Calls Tryz.prog 96 #[.string t, .int .i64 (L : Int)] w (Scan t L w) := by
  go_enter Tryz.func96, Tryz.ntmps96
  go_wp2
  go_step3
  go_wp2
  go_step3
  go_wp2_with fail
  go_loopw [6, 7] (fun nv iv wr => ∃ i : Nat, i ≤ t.size ∧ i ≤ L ∧ Hid (digs t 0 i) ∧ nv = .int .i64 (vl t 0 i : Int) ∧ iv = .int .i64 (i : Int) ∧ wr = w) (fun _ iv _ => L - (intOf iv).toNat)
  case atStart => exact ⟨0, Nat.zero_le _, Nat.zero_le _, digs_zero t 0, rfl, rfl, rfl⟩
  case round =>
    obtain ⟨i, hi, hi10, hd, rfl, rfl, rfl⟩ := hrel
    obtain ⟨n, hn⟩ : ∃ n, n = vl t 0 i := ⟨_, rfl⟩
    have hnb : n < 1000000000000000 := by rw [hn]; exact vl_15 hd.out (by omega)
    rw [← hn]
    by_cases hlt : i < t.size
    · have hlt2 : (i : Int) < t.size := by omega
      by_cases h10 : i < L
      · have h10' : (i : Int) < L := by omega
        obtain ⟨c, hc, hcb, hidx⟩ := idx_run t i hlt (i : Int) rfl
        have Hc := Lib.hid hc
        have Hn := Lib.hid hn
        clear hc hn
        by_cases h48 : (c : Int) < 48
        · have hge : ¬ (48 : Int) ≤ c := by omega
          have Hbad := Lib.hid (show ¬ dg (byt t i) by rw [← Hc.out]; unfold dg; omega)
          go_wp2_with fail
          go_ret2
          refine ⟨⟨i, ⟨hi, hi10, hd.out, .inr (.inr Hbad.out)⟩, ?_⟩, rfl⟩
          rw [← Hn.out]
          rfl
        · by_cases h57 : 57 < (c : Int)
          · have hge : (48 : Int) ≤ c := by omega
            have hle : ¬ (c : Int) ≤ 57 := by omega
            have Hbad := Lib.hid (show ¬ dg (byt t i) by rw [← Hc.out]; unfold dg; omega)
            go_wp2_with fail
            go_ret2
            refine ⟨⟨i, ⟨hi, hi10, hd.out, .inr (.inr Hbad.out)⟩, ?_⟩, rfl⟩
            rw [← Hn.out]
            rfl
          · have hnn : (n : Int) < 1000000000000000 := by omega
            have hge : (48 : Int) ≤ c := by omega
            have hle : (c : Int) ≤ 57 := by omega
            go_wp2_with fail
            refine ⟨⟨i + 1, hlt, h10, ?_, ?_, rfl, trivial⟩, ?_⟩
            · refine digs_succ hd.out ?_
              rw [Nat.zero_add, ← Hc.out]
              unfold dg; omega
            · show _ = Value.int .i64 (((10 * vl t 0 i + (byt t (0 + i) - 48) : Nat)) : Int)
              rw [Nat.zero_add, ← Hn.out, ← Hc.out]
              congr 1
              omega
            · simp only [intOf]; omega
      · have h10' : ¬ (i : Int) < L := by omega
        have Hn := Lib.hid hn
        clear hn
        go_wp2_with fail
        go_ret2
        refine ⟨⟨i, ⟨hi, hi10, hd.out, .inr (.inl (by omega))⟩, ?_⟩, rfl⟩
        rw [← Hn.out]
        rfl
    · have hlt2 : ¬ (i : Int) < t.size := by omega
      have Hn := Lib.hid hn
      clear hn
      go_wp2_with fail
      go_ret2
      refine ⟨⟨i, ⟨hi, hi10, hd.out, .inl (by omega)⟩, ?_⟩, rfl⟩
      rw [← Hn.out]
      rfl
/-- what readDigits gives -/
def Rdg (t : ByteArray) (w : World) (e : Ending) (w' : World) : Prop := (∃ x y : Nat, ∃ b : Bool, ((∃ d k, Form t 0 t.size d k ∧ x = d ∧ y = k ∧ b = true) ∨ ((¬ ∃ d k, Form t 0 t.size d k) ∧ b = false)) ∧ e = .returned (.tuple #[.int .i64 (x : Int), .int .i64 (y : Int), .bool b])) ∧ w' = w
end Go.Proofs.YtlngplohnknhjaaGreatDoor.Dec

/- Plain facts on positive singles, as they are drawn for ranges. No program stands here. -/
namespace Go.Proofs.YtlngplohnknhjaaGreatDoor.Flt
open Ieee
theorem pos_rung {r : Nat} (h : r < 2139095040) : rung single r = r := by unfold rung; rw [sw_single]; exact Nat.mod_eq_of_lt (by omega)
theorem pos_sgn {r : Nat} (h : r < 2139095040) : sgn single r = false := by unfold sgn; rw [sw_single, Nat.div_eq_of_lt (by omega)]; rfl
theorem pos_nan {r : Nat} (h : r < 2139095040) : isNaN single r = false := by unfold isNaN; rw [pos_rung h, inf_single]; exact decide_eq_false (by omega)
theorem pos_sv {r : Nat} (h : r < 2139095040) : sv single r = ((mg single r : Nat) : Int) := by unfold sv; rw [pos_sgn h, pos_rung h]; rfl
theorem pos_lt (r s : Nat) (hr : r < 2139095040) (hs : s < 2139095040) : ltW single r s = decide (r < s) := by
  unfold ltW
  rw [pos_nan hr, pos_nan hs, pos_sv hr, pos_sv hs]
  simp only [Bool.not_false, Bool.true_and]
  apply decide_eq_decide.2
  rw [Int.ofNat_lt]; exact mg_lt_iff _
theorem pos_eq (r s : Nat) (hr : r < 2139095040) (hs : s < 2139095040) : eqW single r s = decide (r = s) := by
  unfold eqW
  rw [pos_nan hr, pos_nan hs, pos_sv hr, pos_sv hs]
  simp only [Bool.not_false, Bool.true_and]
  apply decide_eq_decide.2
  constructor
  · intro h; exact (mg_inj single).1 (by omega)
  · intro h; rw [h]
/-- quotients and products of positive singles -/
theorem pos_quo {r s : Nat} (hr : r < 2139095040) (hs : s < 2139095040) (h0 : s ≠ 0) : floatBits .quo .f32 r s = some (quoRung single r s) := by
  have h := div_rr single least_le (x := r) (y := s) (by rw [pos_rung hr, inf_single]; exact hr) (by rw [pos_rung hs, inf_single]; exact hs) (by rw [pos_rung hs]; exact h0)
  rw [pos_rung hr, pos_rung hs, pos_sgn hr, pos_sgn hs, Bool.xor_false, word_false] at h
  exact h
theorem pos_mul {r s : Nat} (hr : r < 2139095040) (hs : s < 2139095040) : floatBits .mul .f32 r s = some (mulRung single r s) := by
  have h := mul_rr single least_le (x := r) (y := s) (by rw [pos_rung hr, inf_single]; exact hr) (by rw [pos_rung hs, inf_single]; exact hs)
  rw [pos_rung hr, pos_rung hs, pos_sgn hr, pos_sgn hs, Bool.xor_false, word_false] at h
  exact h
theorem mg_pos {r : Nat} (h : r ≠ 0) : 0 < mg single r := Nat.pos_of_ne_zero fun e => h ((mg_eq_zero single).1 e)
theorem quo_mono {r r' s s' : Nat} (hr : r ≤ r') (hs : s' ≤ s) (h0 : s' ≠ 0) : quoRung single r s ≤ quoRung single r' s' := by
  have h := rr_mono single (N := mg single r * 2 ^ lam single) (D := mg single s) (N' := mg single r' * 2 ^ lam single) (D' := mg single s') (mg_pos (by omega)) (mg_pos h0) (Nat.mul_le_mul (Nat.mul_le_mul_right _ ((mg_le_iff single).2 hr)) ((mg_le_iff single).2 hs))
  unfold quoRung
  omega
theorem mul_mono {r r' s s' : Nat} (hr : r ≤ r') (hs : s ≤ s') : mulRung single r s ≤ mulRung single r' s' := by
  have h := rr_mono single (N := mg single r * mg single s) (D := 2 ^ lam single) (N' := mg single r' * mg single s') (D' := 2 ^ lam single) (Nat.two_pow_pos _) (Nat.two_pow_pos _) (Nat.mul_le_mul_right _ (Nat.mul_le_mul ((mg_le_iff single).2 hr) ((mg_le_iff single).2 hs)))
  unfold mulRung
  omega
theorem mg_two : mg single 1073741824 = 2 * P149 := by decide +kernel
theorem mg_three : mg single 1077936128 = 3 * P149 := by decide +kernel
theorem mg_four : mg single 1082130432 = 4 * P149 := by decide +kernel
/-- one binade up is twice the amount -/
theorem mg_up {r : Nat} (h : 8388608 ≤ r) : mg single (r + 8388608) = 2 * mg single r := by
  unfold mg
  rw [binade_single, if_neg (by omega), if_neg (by omega)]
  have e1 : (r + 8388608) % 8388608 = r % 8388608 := Nat.add_mod_right r 8388608
  have e2 : (r + 8388608) / 8388608 = r / 8388608 + 1 := Nat.add_div_right r (by omega)
  have h1 : 1 ≤ r / 8388608 := (Nat.le_div_iff_mul_le (by omega)).2 (by omega)
  rw [e1, e2, show r / 8388608 + 1 - 1 = (r / 8388608 - 1) + 1 by omega, Nat.pow_succ, ← Nat.mul_assoc, Nat.mul_comm 2]
theorem mul_le_of {r s t : Nat} (h : mg single r * mg single s ≤ mg single t * P149) : mulRung single r s ≤ t := by
  unfold mulRung
  refine Nat.le_trans (Nat.min_le_left _ _) (rr_le single _ (Nat.two_pow_pos _) ?_)
  rw [lam_single, P149_eq]; exact h
theorem mul_ge_of {r s t : Nat} (ht : t ≤ single.infRung) (h : mg single t * P149 ≤ mg single r * mg single s) : t ≤ mulRung single r s := by
  unfold mulRung
  have := rr_ge single (N := mg single r * mg single s) (D := 2 ^ lam single) t (Nat.two_pow_pos _) (by rw [lam_single, P149_eq]; exact h)
  omega
theorem quo_le_of {r s t : Nat} (h0 : s ≠ 0) (h : mg single r * P149 ≤ mg single t * mg single s) : quoRung single r s ≤ t := by
  unfold quoRung
  refine Nat.le_trans (Nat.min_le_left _ _) (rr_le single _ (mg_pos h0) ?_)
  rw [lam_single, P149_eq]; exact h
theorem quo_ge_of {r s t : Nat} (h0 : s ≠ 0) (ht : t ≤ single.infRung) (h : mg single t * mg single s ≤ mg single r * P149) : t ≤ quoRung single r s := by
  unfold quoRung
  have := rr_ge single (N := mg single r * 2 ^ lam single) (D := mg single s) t (mg_pos h0) (by rw [lam_single, P149_eq]; exact h)
  omega
/-- times 2, 3, 10: greater, and below the bound of the next round -/
def Bnd (i : Nat) : Nat := 1107296256 + 33554432 * i
theorem bnd_up : ∀ i, i < 6 → mulRung single (Bnd i) 1098907648 = Bnd (i + 1) := by decide +kernel
theorem next_le {i f c : Nat} (hi : i < 6) (hf : f ≤ Bnd i) (hc : c ≤ 1098907648) : mulRung single f c ≤ Bnd (i + 1) := by
  rw [← bnd_up i hi]; exact mul_mono hf hc
theorem next_gt {f c : Nat} (hf : 8388608 ≤ f) (hf' : f ≤ 1400000000) (hc : 1073741824 ≤ c) : f < mulRung single f c := by
  have h1 : f + 8388608 ≤ mulRung single f 1073741824 := mul_ge_of (by rw [inf_single]; omega) (by rw [mg_up hf, mg_two]; exact Nat.le_of_eq (by ac_rfl))
  have h2 := mul_mono (Nat.le_refl f) hc
  omega
theorem half_le (l : Nat) : quoRung single l 1073741824 ≤ l := by
  refine quo_le_of (by omega) ?_
  rw [mg_two]
  refine Nat.mul_le_mul_left _ ?_
  omega
def upper (f : Nat) : Nat := quoRung single (mulRung single f 1077936128) 1082130432
theorem three_ge {f : Nat} (hf : f ≤ 1400000000) : f ≤ mulRung single f 1077936128 := by
  refine mul_ge_of (by rw [inf_single]; omega) ?_
  rw [mg_three]
  refine Nat.mul_le_mul_left _ ?_
  omega
theorem three_le {f : Nat} (hf : 8388608 ≤ f) : mulRung single f 1077936128 ≤ f + 16777216 := by
  refine mul_le_of ?_
  rw [mg_three, show f + 16777216 = f + 8388608 + 8388608 by omega, mg_up (by omega), mg_up hf, show 2 * (2 * mg single f) * P149 = mg single f * (4 * P149) by rw [← Nat.mul_assoc]; ac_rfl]
  refine Nat.mul_le_mul_left _ ?_
  omega
theorem upper_le {f : Nat} (hf : 8388608 ≤ f) : upper f ≤ f := by
  unfold upper
  refine quo_le_of (by omega) ?_
  rw [mg_four]
  have h := (mg_le_iff single).2 (three_le hf)
  rw [show f + 16777216 = f + 8388608 + 8388608 by omega, mg_up (by omega), mg_up hf] at h
  rw [show mg single f * (4 * P149) = 2 * (2 * mg single f) * P149 by rw [← Nat.mul_assoc 2 2]; ac_rfl]
  exact Nat.mul_le_mul_right _ h
theorem upper_pos {f : Nat} (hf : 8388608 ≤ f) (hf' : f ≤ 1400000000) : 0 < upper f := by
  unfold upper
  refine quo_ge_of (by omega) (by rw [inf_single]; omega) ?_
  rw [mg_four]
  have h := (mg_le_iff single).2 (Nat.le_trans hf (three_ge hf'))
  have e1 : mg single 1 = 1 := by decide
  have e2 : mg single 8388608 = 8388608 := by decide
  rw [e2] at h
  rw [e1, Nat.one_mul]
  exact Nat.mul_le_mul_right _ (by omega)
/-- the first Full -/
theorem ofInt_draw : ∀ k : Nat, k < 20 → 1065353216 ≤ floatOfInt .f32 (1 + (k : Int)) ∧ floatOfInt .f32 (1 + (k : Int)) ≤ 1101004800 := by decide +kernel
theorem first_ge : 228737632 ≤ quoRung single 1065353216 1148846080 := by decide +kernel
theorem first_le : quoRung single 1101004800 1065353216 ≤ 1107296256 := by decide +kernel
theorem ofInt_1 : floatOfInt .f32 1 = 1065353216 := by decide +kernel
theorem ofInt_2 : floatOfInt .f32 2 = 1073741824 := by decide +kernel
theorem ofInt_3 : floatOfInt .f32 3 = 1077936128 := by decide +kernel
theorem ofInt_10 : floatOfInt .f32 10 = 1092616192 := by decide +kernel
theorem ofInt_1000 : floatOfInt .f32 1000 = 1148846080 := by decide +kernel
theorem first_bounds {a b : Nat} (ha : 1065353216 ≤ a ∧ a ≤ 1101004800) (hb : 1065353216 ≤ b ∧ b ≤ 1148846080) : 228737632 ≤ quoRung single a b ∧ quoRung single a b ≤ Bnd 0 :=
  ⟨Nat.le_trans first_ge (quo_mono ha.1 hb.2 (by omega)), Nat.le_trans (quo_mono ha.2 hb.1 (by omega)) first_le⟩
end Go.Proofs.YtlngplohnknhjaaGreatDoor.Flt

/- Plain facts: how far a rounded quotient or product lies from the true one; the value of a code; differences of doubles. No program stands here. -/
namespace Go.Proofs.YtlngplohnknhjaaGreatDoor.Flt
open Ieee
set_option linter.unusedVariables false
theorem rne_hi {n d : Nat} (hd : 0 < d) : 2 * (rne n d * d) ≤ 2 * n + d := by
  have h := Nat.div_add_mod n d
  have hm := Nat.mod_lt n hd
  unfold rne
  rw [Nat.add_mul, Nat.mul_comm (n / d) d]
  cases hc : (decide (d < 2 * (n % d)) || (d == 2 * (n % d) && n / d % 2 == 1))
  · simp only [Bool.toNat_false, Nat.zero_mul]; omega
  · simp only [Bool.toNat_true, Nat.one_mul]
    rw [Bool.or_eq_true, Bool.and_eq_true, decide_eq_true_eq, beq_iff_eq] at hc
    omega
theorem rne_lo {n d : Nat} (hd : 0 < d) : 2 * n ≤ 2 * (rne n d * d) + d := by
  have h := Nat.div_add_mod n d
  have hm := Nat.mod_lt n hd
  unfold rne
  rw [Nat.add_mul, Nat.mul_comm (n / d) d]
  cases hc : (decide (d < 2 * (n % d)) || (d == 2 * (n % d) && n / d % 2 == 1))
  · simp only [Bool.toNat_false, Nat.zero_mul]
    rw [Bool.or_eq_false_iff, decide_eq_false_iff_not] at hc
    omega
  · simp only [Bool.toNat_true, Nat.one_mul]; omega
/-- the amount of a rounded number -/
theorem mg_rr (f : Format) {N D : Nat} (hD : 0 < D) : mg f (rr f N D) = rne N (D * 2 ^ ex f N D) * 2 ^ ex f N D := by
  have hB := binade_pos f
  have hM : 0 < D * 2 ^ ex f N D := Nat.mul_pos hD (Nat.two_pow_pos _)
  have h1 := ex_lt f (N := N) hD
  have hs : rne N (D * 2 ^ ex f N D) ≤ 2 * f.binade := rne_le _ hM (by omega)
  have hg : 0 < ex f N D → f.binade ≤ rne N (D * 2 ^ ex f N D) := fun h0 => rne_ge _ hM (ex_ge f h0)
  unfold rr
  generalize ex f N D = E at *
  generalize rne N (D * 2 ^ E) = s at *
  by_cases hs2 : s = 2 * f.binade
  · subst hs2
    have e : E * f.binade + 2 * f.binade = (E + 2) * f.binade := by rw [Nat.add_mul]
    unfold mg
    rw [e, if_neg (by have := Nat.le_mul_of_pos_left f.binade (show 0 < E + 2 by omega); omega), Nat.mul_mod_left, Nat.mul_div_cancel _ hB, Nat.add_zero, show E + 2 - 1 = E + 1 by omega, Nat.pow_succ]
    ac_rfl
  · by_cases hE : E = 0
    · subst hE
      rw [Nat.zero_mul, Nat.zero_add, Nat.pow_zero, Nat.mul_one]
      exact mg_small f (by omega)
    · have hsB := hg (by omega)
      have e1 : (E * f.binade + s) / f.binade = E + 1 := by
        rw [Nat.div_eq_iff hB]
        rw [Nat.add_mul]
        omega
      have e2 : (E * f.binade + s) % f.binade = s - f.binade := by
        have := Nat.div_add_mod (E * f.binade + s) f.binade
        rw [e1, Nat.mul_comm, Nat.add_mul] at this
        omega
      unfold mg
      rw [e1, e2, if_neg (by have := Nat.le_mul_of_pos_left f.binade (show 0 < E by omega); omega), show E + 1 - 1 = E by omega, show f.binade + (s - f.binade) = s by omega]
theorem rr_step (f : Format) {N D : Nat} (hD : 0 < D) : 2 ^ f.fractionBits * (D * 2 ^ ex f N D) ≤ N + 2 ^ f.fractionBits * D := by
  by_cases h : 0 < ex f N D
  · have := ex_ge f h
    have e : f.binade = 2 ^ f.fractionBits := rfl
    rw [e] at this
    omega
  · rw [show ex f N D = 0 by omega, Nat.pow_zero, Nat.mul_one]; omega
theorem rr_hi (f : Format) {N D : Nat} (hD : 0 < D) : 2 * 2 ^ f.fractionBits * (mg f (rr f N D) * D) ≤ 2 * 2 ^ f.fractionBits * N + N + 2 ^ f.fractionBits * D := by
  have hM : 0 < D * 2 ^ ex f N D := Nat.mul_pos hD (Nat.two_pow_pos _)
  have h1 := rne_hi (n := N) hM
  have h2 := rr_step f (N := N) hD
  rw [mg_rr f hD, show rne N (D * 2 ^ ex f N D) * 2 ^ ex f N D * D = rne N (D * 2 ^ ex f N D) * (D * 2 ^ ex f N D) by ac_rfl]
  generalize rne N (D * 2 ^ ex f N D) * (D * 2 ^ ex f N D) = A at *
  generalize D * 2 ^ ex f N D = M at *
  have h3 := Nat.mul_le_mul_left (2 ^ f.fractionBits) h1
  rw [Nat.mul_add] at h3
  rw [show 2 * 2 ^ f.fractionBits * A = 2 ^ f.fractionBits * (2 * A) by ac_rfl, show 2 * 2 ^ f.fractionBits * N = 2 ^ f.fractionBits * (2 * N) by ac_rfl]
  omega
theorem rr_lo (f : Format) {N D : Nat} (hD : 0 < D) : 2 * 2 ^ f.fractionBits * N ≤ 2 * 2 ^ f.fractionBits * (mg f (rr f N D) * D) + N + 2 ^ f.fractionBits * D := by
  have hM : 0 < D * 2 ^ ex f N D := Nat.mul_pos hD (Nat.two_pow_pos _)
  have h1 := rne_lo (n := N) hM
  have h2 := rr_step f (N := N) hD
  rw [mg_rr f hD, show rne N (D * 2 ^ ex f N D) * 2 ^ ex f N D * D = rne N (D * 2 ^ ex f N D) * (D * 2 ^ ex f N D) by ac_rfl]
  generalize rne N (D * 2 ^ ex f N D) * (D * 2 ^ ex f N D) = A at *
  generalize D * 2 ^ ex f N D = M at *
  have h3 := Nat.mul_le_mul_left (2 ^ f.fractionBits) h1
  rw [Nat.mul_add] at h3
  rw [show 2 * 2 ^ f.fractionBits * A = 2 ^ f.fractionBits * (2 * A) by ac_rfl, show 2 * 2 ^ f.fractionBits * N = 2 ^ f.fractionBits * (2 * N) by ac_rfl]
  omega
theorem frac_single : 2 ^ single.fractionBits = 8388608 := by decide
/-- quotients and products that are finite, from both sides -/
theorem quo_err {r s : Nat} (h0 : s ≠ 0) (h : quoRung single r s < single.infRung) :
    16777216 * (mg single (quoRung single r s) * mg single s) ≤ 16777216 * (mg single r * P149) + mg single r * P149 + 8388608 * mg single s ∧
    16777216 * (mg single r * P149) ≤ 16777216 * (mg single (quoRung single r s) * mg single s) + mg single r * P149 + 8388608 * mg single s := by
  have e : quoRung single r s = rr single (mg single r * P149) (mg single s) := by
    unfold quoRung at h ⊢
    rw [lam_single, P149_eq] at h ⊢
    omega
  rw [e]
  have h1 := rr_hi single (N := mg single r * P149) (mg_pos h0)
  have h2 := rr_lo single (N := mg single r * P149) (mg_pos h0)
  rw [frac_single] at h1 h2
  exact ⟨h1, h2⟩
theorem mul_err {r s : Nat} (h : mulRung single r s < single.infRung) :
    16777216 * (mg single (mulRung single r s) * P149) ≤ 16777216 * (mg single r * mg single s) + mg single r * mg single s + 8388608 * P149 ∧
    16777216 * (mg single r * mg single s) ≤ 16777216 * (mg single (mulRung single r s) * P149) + mg single r * mg single s + 8388608 * P149 := by
  have e : mulRung single r s = rr single (mg single r * mg single s) P149 := by
    unfold mulRung at h ⊢
    rw [lam_single, P149_eq] at h ⊢
    omega
  rw [e]
  have h1 := rr_hi single (N := mg single r * mg single s) P149_pos
  have h2 := rr_lo single (N := mg single r * mg single s) P149_pos
  rw [frac_single] at h1 h2
  exact ⟨h1, h2⟩
/-- the rung of a whole number -/
def natRung (c : Nat) : Nat := min (rr single (c * P149) 1) single.infRung
theorem natRung_mg {c : Nat} (h : c ≤ 32767) : mg single (natRung c) = c * P149 ∧ natRung c ≤ 1191181824 := by
  obtain ⟨r, hr⟩ := mg_surj single 149 c (by rw [binade_single]; omega)
  rw [P149_eq] at hr
  have e : rr single (c * P149) 1 = r := rr_exact single r (by omega) (by rw [hr, Nat.mul_one])
  have hle : r ≤ 1191181824 := by
    rw [← mg_le_iff single, hr, mg_max]
    exact Nat.mul_le_mul_right _ h
  unfold natRung
  rw [e, Nat.min_eq_left (by rw [inf_single]; omega)]
  exact ⟨hr, hle⟩
def valN (c F : Nat) : Nat := mulRung single (quoRung single (natRung c) 1191181824) F
theorem val_le {c F : Nat} (h : c ≤ 32767) : valN c F ≤ F := by
  unfold valN
  refine mul_le_of ?_
  rw [Nat.mul_comm]
  refine Nat.mul_le_mul_left _ ?_
  rw [← mg_one]
  exact (mg_le_iff single).2 (quo_le_one (by omega) (natRung_mg h).2)
theorem big_149 : 281474976710656 * 8388608 ≤ P149 := by decide +kernel
/-- the value of a code lies within a sixteen-thousandth of the range -/
theorem close_units {r F : Nat} (hr : r ≤ F) (hF : 228737632 ≤ F) (hFi : F < single.infRung) :
    16000 * mg single (valN (codeN r F) F) ≤ 16000 * mg single r + mg single F ∧ 16000 * mg single r ≤ 16000 * mg single (valN (codeN r F) F) + mg single F := by
  have hF0 : F ≠ 0 := by omega
  have hc := codeN_le hF0 hr
  have hq1 := quo_le_one hF0 hr
  have hp1 := mul_le_max hq1
  have hn := natRung_mg hc
  have hq2 := quo_le_one (r := natRung (codeN r F)) (s := 1191181824) (by omega) hn.2
  have hv := val_le (F := F) hc
  have hinf : single.infRung = 2139095040 := inf_single
  have a1 := quo_err (r := r) hF0 (by omega)
  have a2 := mul_err (r := quoRung single r F) (s := 1191181824) (by omega)
  have a3 : codeN r F = mg single (mulRung single (quoRung single r F) 1191181824) / P149 := rfl
  have a4 := quo_err (r := natRung (codeN r F)) (s := 1191181824) (by omega) (by omega)
  have a5 := mul_err (r := quoRung single (natRung (codeN r F)) 1191181824) (s := F) (by unfold valN at hv; omega)
  have b1 := (mg_le_iff single).2 hr
  have b2 := (mg_le_iff single).2 hq1
  have b3 := (mg_le_iff single).2 hq2
  have b4 := (mg_le_iff single).2 hF
  have b5 : 562949953421312 ≤ mg single 228737632 := by decide +kernel
  have b6 := big_149
  have hL := P149_pos
  have a3' := Nat.div_add_mod (mg single (mulRung single (quoRung single r F) 1191181824)) P149
  have a3'' := Nat.mod_lt (mg single (mulRung single (quoRung single r F) 1191181824)) hL
  rw [← a3] at a3'
  rw [mg_one] at b2 b3
  rw [mg_max] at a2 a4
  rw [hn.1] at a4
  unfold valN
  generalize mg single (mulRung single (quoRung single (natRung (codeN r F)) 1191181824) F) = V at *
  generalize mg single (quoRung single (natRung (codeN r F)) 1191181824) = Q2 at *
  generalize mg single (mulRung single (quoRung single r F) 1191181824) = Pm at *
  generalize mg single (quoRung single r F) = Q1 at *
  generalize codeN r F = c at *
  generalize mg single r = X at *
  generalize hFm : mg single F = Fm at *
  generalize mg single 228737632 = Z at *
  generalize P149 = L at *
  have hFm0 : 0 < Fm := by omega
  -- divide the second and the fourth by L
  have c2a : 16777216 * Pm ≤ 16777216 * (Q1 * 32767) + Q1 * 32767 + 8388608 := by
    refine Nat.le_of_mul_le_mul_right (c := L) ?_ hL
    have := a2.1
    rw [Nat.add_mul, Nat.add_mul]
    rw [show 16777216 * Pm * L = 16777216 * (Pm * L) by ac_rfl, show 16777216 * (Q1 * 32767) * L = 16777216 * (Q1 * (32767 * L)) by ac_rfl, show Q1 * 32767 * L = Q1 * (32767 * L) by ac_rfl]
    exact this
  have c2b : 16777216 * (Q1 * 32767) ≤ 16777216 * Pm + Q1 * 32767 + 8388608 := by
    refine Nat.le_of_mul_le_mul_right (c := L) ?_ hL
    have := a2.2
    rw [Nat.add_mul, Nat.add_mul]
    rw [show 16777216 * Pm * L = 16777216 * (Pm * L) by ac_rfl, show 16777216 * (Q1 * 32767) * L = 16777216 * (Q1 * (32767 * L)) by ac_rfl, show Q1 * 32767 * L = Q1 * (32767 * L) by ac_rfl]
    exact this
  have c4a : 16777216 * (Q2 * 32767) ≤ 16777216 * (c * L) + c * L + 8388608 * 32767 := by
    refine Nat.le_of_mul_le_mul_right (c := L) ?_ hL
    have := a4.1
    rw [Nat.add_mul, Nat.add_mul]
    rw [show 16777216 * (Q2 * 32767) * L = 16777216 * (Q2 * (32767 * L)) by ac_rfl, show 16777216 * (c * L) * L = 16777216 * (c * L * L) by ac_rfl, show 8388608 * 32767 * L = 8388608 * (32767 * L) by ac_rfl]
    exact this
  have c4b : 16777216 * (c * L) ≤ 16777216 * (Q2 * 32767) + c * L + 8388608 * 32767 := by
    refine Nat.le_of_mul_le_mul_right (c := L) ?_ hL
    have := a4.2
    rw [Nat.add_mul, Nat.add_mul]
    rw [show 16777216 * (Q2 * 32767) * L = 16777216 * (Q2 * (32767 * L)) by ac_rfl, show 16777216 * (c * L) * L = 16777216 * (c * L * L) by ac_rfl, show 8388608 * 32767 * L = 8388608 * (32767 * L) by ac_rfl]
    exact this
  -- times Fm
  have d2a := Nat.mul_le_mul_right Fm c2a
  have d2b := Nat.mul_le_mul_right Fm c2b
  have d4a := Nat.mul_le_mul_right Fm c4a
  have d4b := Nat.mul_le_mul_right Fm c4b
  have d3a : c * L * Fm ≤ Pm * Fm := Nat.mul_le_mul_right Fm (by rw [Nat.mul_comm]; omega)
  have d3b : Pm * Fm ≤ c * L * Fm + L * Fm := by rw [← Nat.add_mul]; exact Nat.mul_le_mul_right Fm (by rw [Nat.mul_comm c]; omega)
  have f1 : X * L ≤ L * Fm := by rw [Nat.mul_comm]; exact Nat.mul_le_mul_left L b1
  have f2 : Q1 * Fm ≤ L * Fm := Nat.mul_le_mul_right Fm b2
  have f3 : Q2 * Fm ≤ L * Fm := Nat.mul_le_mul_right Fm b3
  have f4 : c * L * Fm ≤ 32767 * (L * Fm) := by rw [Nat.mul_assoc]; exact Nat.mul_le_mul_right _ hc
  have f5 : 562949953421312 * L ≤ L * Fm := by rw [Nat.mul_comm L]; exact Nat.mul_le_mul_right L (by omega)
  have f6 : 281474976710656 * 8388608 * Fm ≤ L * Fm := Nat.mul_le_mul_right Fm b6
  rw [Nat.add_mul, Nat.add_mul] at d2a d2b d4a d4b
  rw [show 16777216 * Pm * Fm = 16777216 * (Pm * Fm) by ac_rfl, show 16777216 * (Q1 * 32767) * Fm = 549739036672 * (Q1 * Fm) by rw [show (549739036672 : Nat) = 16777216 * 32767 from rfl]; ac_rfl, show Q1 * 32767 * Fm = 32767 * (Q1 * Fm) by ac_rfl] at d2a d2b
  rw [show 16777216 * (Q2 * 32767) * Fm = 549739036672 * (Q2 * Fm) by rw [show (549739036672 : Nat) = 16777216 * 32767 from rfl]; ac_rfl, show 16777216 * (c * L) * Fm = 16777216 * (c * L * Fm) by ac_rfl] at d4a d4b
  have key : 16000 * (V * L) ≤ 16000 * (X * L) + L * Fm ∧ 16000 * (X * L) ≤ 16000 * (V * L) + L * Fm := by
    obtain ⟨a1a, a1b⟩ := a1
    obtain ⟨a5a, a5b⟩ := a5
    clear a2 a4 c2a c2b c4a c4b b1 b2 b3 b4 b5 b6 a3 a3' a3'' hn hq1 hq2 hp1 hv hinf hFi hF0 hr hF
    generalize V * L = v at *
    generalize X * L = x at *
    generalize Q1 * Fm = q1 at *
    generalize Q2 * Fm = q2 at *
    generalize Pm * Fm = p at *
    generalize c * L * Fm = e at *
    generalize L * Fm = T at *
    constructor <;> omega
  constructor
  · refine Nat.le_of_mul_le_mul_right (c := L) ?_ hL
    rw [Nat.add_mul, show 16000 * V * L = 16000 * (V * L) by ac_rfl, show 16000 * X * L = 16000 * (X * L) by ac_rfl, Nat.mul_comm Fm L]
    exact key.1
  · refine Nat.le_of_mul_le_mul_right (c := L) ?_ hL
    rw [Nat.add_mul, show 16000 * V * L = 16000 * (V * L) by ac_rfl, show 16000 * X * L = 16000 * (X * L) by ac_rfl, Nat.mul_comm Fm L]
    exact key.2
end Go.Proofs.YtlngplohnknhjaaGreatDoor.Flt

/- A region that draws its order and whose callees make new memory but write into none that was there: one walk in the text's order. No program stands here. -/
namespace Go.Proofs.YtlngplohnknhjaaGreatDoor
open Go.RowKit
structure Old (W : World) where
  x : World
  h : Below W.heap.size W x
instance (W : World) : Nonempty (Old W) := ⟨⟨W, Below.refl _ _⟩⟩
theorem wp_region_old {P : Program} {id : Nat} {Q : Exit → Act → World → Prop} {a : Act} {W : World} {l : List Oper} (hm : P.follows .mixedOrders = true) (hB : Region.lexB .any l.toArray = true)
    (h : wpQuiet P l.toArray (fun w' => ∃ n : Old W, w' = n.x) (fun a' => ∀ w', (∃ n : Old W, w' = n.x) → Q .normal a' w') l a) : (Code.region id l.toArray true).wp P Q a W :=
  wp_region_quiet (C := fun w' => ∃ n : Old W, w' = n.x) hm hB ⟨⟨_, (Below.refl W.heap.size W).drew⟩, rfl⟩ (by simpa using h)
theorem old_call {P : Program} {f : FuncId} {args : Array Value} {W : World} {n : Old W} {v : Value}
    (h : Calls P f args n.x fun e w' => e = .returned v ∧ Below n.x.heap.size n.x w') : Calls P f args n.x fun e w'' => e = .returned v ∧ ∃ m : Old W, w'' = m.x :=
  h.mono fun _ w1 ⟨he, hb⟩ => ⟨he, ⟨w1, n.h.trans (hb.mono n.h.size)⟩, rfl⟩
theorem old_same {P : Program} {f : FuncId} {args : Array Value} {W : World} {n : Old W} {v : Value}
    (h : Calls P f args n.x fun e w' => e = .returned v ∧ w' = n.x) : Calls P f args n.x fun e w'' => e = .returned v ∧ ∃ m : Old W, w'' = m.x :=
  h.mono fun _ _ ⟨he, hb⟩ => ⟨he, n, hb⟩
theorem old_cell {W : World} (n : Old W) {p : Addr} (hp : p.block < W.heap.size) : n.x.cell? p = W.cell? p := n.h.cell hp
end Go.Proofs.YtlngplohnknhjaaGreatDoor

/- Contracts of the laws' same64. -/
namespace Go.Proofs.YtlngplohnknhjaaGreatDoor.Mth
open Go.ChangeShapes Go.WideShapes Go.ChangeAt Go.RowKit Go.Proofs.YtlngplohnknhjaaGreatDoor Go.Proofs.YtlngplohnknhjaaGreatDoor.Flt Go.Proofs.YtlngplohnknhjaaGreatDoor.Mth
set_option linter.unusedVariables false
set_option maxHeartbeats 400000 in
theorem same64_any (a b : Nat) (w : World) (ha : a < 18446744073709551616) (hb : b < 18446744073709551616) :
    Calls Tryz.prog 43 #[.float .f64 a, .float .f64 b] w fun e w' => e = .returned (.bool (sameW Ieee.double a b)) ∧ w' = w := by
  have sa := ne64 a a
  rw [eqW_self, Bool.not_not] at sa
  have sb := ne64 b b
  rw [eqW_self, Bool.not_not] at sb
  cases na : isNaN Ieee.double a <;> cases nb : isNaN Ieee.double b
  · rw [na] at sa
    rw [nb] at sb
    have ho : (FloatKind.f64.format.order a b == some .eq) = decide (sv Ieee.double a = sv Ieee.double b) := by rw [eq64]; unfold eqW; rw [na, nb]; rfl
    by_cases h : sv Ieee.double a = sv Ieee.double b
    · rw [decide_eq_true h] at ho
      by_cases h0 : rung Ieee.double a = 0
      · have h1 : rung Ieee.double b = 0 := (sv_eq_zero _).1 (by rw [← h]; exact (sv_eq_zero _).2 h0)
        have ca := zeros64 ha h0
        have cb := zeros64 hb h1
        have qa := quo_zero a ca
        have qb := quo_zero b cb
        clear h h0 h1 na nb sa sb ho
        rcases ca with rfl | rfl <;> rcases cb with rfl | rfl
        · have o1 : (FloatKind.f64.format.order 0 0 != some .eq) = false := by decide
          have o2 : (FloatKind.f64.format.order 0 0 == some .eq) = true := by decide
          have o3 : (FloatKind.f64.format.order 9218868437227405312 9218868437227405312 == some .eq) = true := by decide
          have Hf := Lib.hid (show true = sameW Ieee.double 0 0 by decide)
          go_enter Tryz.func43, Tryz.ntmps43
          go_wp2
          go_ret
          exact ⟨ret_bool Hf.out, rfl⟩
        · have o1 : (FloatKind.f64.format.order 0 0 != some .eq) = false := by decide
          have o4 : (FloatKind.f64.format.order 9223372036854775808 9223372036854775808 != some .eq) = false := by decide
          have o2 : (FloatKind.f64.format.order 0 9223372036854775808 == some .eq) = true := by decide
          have o3 : (FloatKind.f64.format.order 9218868437227405312 18442240474082181120 == some .eq) = false := by decide
          have Hf := Lib.hid (show false = sameW Ieee.double 0 9223372036854775808 by decide)
          go_enter Tryz.func43, Tryz.ntmps43
          go_wp2
          go_ret
          exact ⟨ret_bool Hf.out, rfl⟩
        · have o1 : (FloatKind.f64.format.order 0 0 != some .eq) = false := by decide
          have o4 : (FloatKind.f64.format.order 9223372036854775808 9223372036854775808 != some .eq) = false := by decide
          have o5 : (FloatKind.f64.format.order 9223372036854775808 0 != some .eq) = false := by decide
          have o2 : (FloatKind.f64.format.order 9223372036854775808 0 == some .eq) = true := by decide
          have o3 : (FloatKind.f64.format.order 18442240474082181120 9218868437227405312 == some .eq) = false := by decide
          have Hf := Lib.hid (show false = sameW Ieee.double 9223372036854775808 0 by decide)
          go_enter Tryz.func43, Tryz.ntmps43
          go_wp2
          go_ret
          exact ⟨ret_bool Hf.out, rfl⟩
        · have o1 : (FloatKind.f64.format.order 9223372036854775808 0 != some .eq) = false := by decide
          have o4 : (FloatKind.f64.format.order 9223372036854775808 9223372036854775808 != some .eq) = false := by decide
          have o2 : (FloatKind.f64.format.order 9223372036854775808 9223372036854775808 == some .eq) = true := by decide
          have o3 : (FloatKind.f64.format.order 18442240474082181120 18442240474082181120 == some .eq) = true := by decide
          have Hf := Lib.hid (show true = sameW Ieee.double 9223372036854775808 9223372036854775808 by decide)
          go_enter Tryz.func43, Tryz.ntmps43
          go_wp2
          go_ret
          exact ⟨ret_bool Hf.out, rfl⟩
      · have hab : a = b := sv_inj _ (by rw [width_double]; exact ha) (by rw [width_double]; exact hb) h0 h
        subst hab
        have hz : (FloatKind.f64.format.order a 0 != some .eq) = true := by
          rw [ne64, eqW_zero _ na, decide_eq_false h0]; rfl
        have Hf := Lib.hid (show true = sameW Ieee.double a a by rw [sameW_refl])
        clear h h0 na nb
        go_enter Tryz.func43, Tryz.ntmps43
        go_wp2
        go_ret
        exact ⟨ret_bool Hf.out, rfl⟩
    · rw [decide_eq_false h] at ho
      have Hf := Lib.hid (show false = sameW Ieee.double a b by
        unfold sameW; rw [na, nb]; symm
        exact beq_eq_false_iff_ne.2 (fun e => h (by rw [e])))
      clear h na nb
      go_enter Tryz.func43, Tryz.ntmps43
      go_wp2
      go_ret
      exact ⟨ret_bool Hf.out, rfl⟩
  all_goals
    rw [na] at sa
    rw [nb] at sb
    have Hf := Lib.hid (show (isNaN Ieee.double a && isNaN Ieee.double b) = sameW Ieee.double a b by unfold sameW; rw [na, nb]; rfl)
    rw [na, nb] at Hf
    clear na nb
    go_enter Tryz.func43, Tryz.ntmps43
    go_wp2
    go_ret
    exact ⟨ret_bool Hf.out, rfl⟩
end Go.Proofs.YtlngplohnknhjaaGreatDoor.Mth

/- The laws' same, of a complex number and itself. -/
namespace Go.Proofs.YtlngplohnknhjaaGreatDoor.Mth
open Go.ChangeShapes Go.WideShapes Go.ChangeAt Go.RowKit Go.Proofs.YtlngplohnknhjaaGreatDoor Go.Proofs.YtlngplohnknhjaaGreatDoor.Flt Go.Proofs.YtlngplohnknhjaaGreatDoor.Mth
set_option linter.unusedVariables false
theorem same_self (a b : Nat) (w : World) (ha : a < 18446744073709551616) (hb : b < 18446744073709551616) :
    Calls Tryz.prog 23 #[.complex .f64 a b, .complex .f64 a b] w fun e w' => e = .returned (.bool true) ∧ w' = w := by
  have ca := fun W => same64_any a a W ha ha
  have cb := fun W => same64_any b b W hb hb
  rw [sameW_refl] at ca
  rw [sameW_refl] at cb
  clear ha hb
  go_enter Tryz.func23, Tryz.ntmps23
  go_wp2_with fail
  refine (ca _).mono ?_
  rintro e w' ⟨rfl, rfl⟩
  go_wp2_with fail
  refine (cb _).mono ?_
  rintro e w' ⟨rfl, rfl⟩
  go_wp2_with fail
  go_ret
  exact ⟨rfl, rfl⟩
end Go.Proofs.YtlngplohnknhjaaGreatDoor.Mth
