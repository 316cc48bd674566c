/- Plain facts on words of the two formats: equality, zeros, the same. No program stands here. -/
import Derived.Test.YtkjjeccgmeiniaaFltC
namespace Go.Proofs.Ytkjjeccgmeiniaa.Flt
open Ieee

/-- equal, by the order of words (two zeros are equal; a NaN equals nothing) -/
def eqW (f : Format) (a b : Nat) : Bool := !isNaN f a && !isNaN f b && decide (sv f a = sv f b)
def ltW (f : Format) (a b : Nat) : Bool := !isNaN f a && !isNaN f b && decide (sv f a < sv f b)
theorem order_eqW (f : Format) (hf : 1 ≤ f.exponentBits) (a b : Nat) : (f.order a b == some .eq) = eqW f a b := by
  unfold eqW
  cases na : isNaN f a
  · cases nb : isNaN f b
    · rw [order_sv f hf na nb]
      by_cases h : sv f a = sv f b
      · rw [compare_eq h, decide_eq_true h]; rfl
      · rw [decide_eq_false h]
        simp only [Option.some_beq_some, Bool.not_false, Bool.and_self, Bool.and_false, beq_eq_false_iff_ne]
        exact fun e => h (compare_eq_iff.1 e)
    · rw [order_nan_right f hf a nb]; rfl
  · rw [order_nan_left f hf b na]; rfl
theorem order_ltW (f : Format) (hf : 1 ≤ f.exponentBits) (a b : Nat) : (f.order a b == some .lt) = ltW f a b := by
  unfold ltW
  cases na : isNaN f a
  · cases nb : isNaN f b
    · rw [order_sv f hf na nb]
      by_cases h : sv f a < sv f b
      · rw [compare_lt h, decide_eq_true h]; rfl
      · rw [decide_eq_false h]
        simp only [Option.some_beq_some, Bool.not_false, Bool.and_self, Bool.and_false, beq_eq_false_iff_ne]
        exact fun e => h (compare_lt_iff.1 e)
    · rw [order_nan_right f hf a nb]; rfl
  · rw [order_nan_left f hf b na]; rfl
theorem order_gtW (f : Format) (hf : 1 ≤ f.exponentBits) (a b : Nat) : (f.order a b == some .gt) = ltW f b a := by
  unfold ltW
  cases na : isNaN f a
  · cases nb : isNaN f b
    · rw [order_sv f hf na nb]
      by_cases h : sv f b < sv f a
      · rw [compare_gt h, decide_eq_true h]; rfl
      · rw [decide_eq_false h]
        simp only [Option.some_beq_some, Bool.not_false, Bool.and_self, Bool.and_false, beq_eq_false_iff_ne]
        exact fun e => h (compare_gt_iff.1 e)
    · rw [order_nan_right f hf a nb]; rfl
  · rw [order_nan_left f hf b na]; simp

theorem eq64 (a b : Nat) : (FloatKind.f64.format.order a b == some .eq) = eqW double a b := order_eqW double hd a b
theorem ne64 (a b : Nat) : (FloatKind.f64.format.order a b != some .eq) = !eqW double a b := by rw [← eq64]; rfl
theorem lt64 (a b : Nat) : (FloatKind.f64.format.order a b == some .lt) = ltW double a b := order_ltW double hd a b
theorem gt64 (a b : Nat) : (FloatKind.f64.format.order a b == some .gt) = ltW double b a := order_gtW double hd a b
theorem eq32 (a b : Nat) : (FloatKind.f32.format.order a b == some .eq) = eqW single a b := order_eqW single hs a b
theorem ne32 (a b : Nat) : (FloatKind.f32.format.order a b != some .eq) = !eqW single a b := by rw [← eq32]; rfl
theorem lt32 (a b : Nat) : (FloatKind.f32.format.order a b == some .lt) = ltW single a b := order_ltW single hs a b
theorem gt32 (a b : Nat) : (FloatKind.f32.format.order a b == some .gt) = ltW single b a := order_gtW single hs a b

theorem eqW_self (f : Format) (a : Nat) : eqW f a a = !isNaN f a := by unfold eqW; cases isNaN f a <;> simp
theorem eqW_nan (f : Format) {a b : Nat} (h : (isNaN f a || isNaN f b) = true) : eqW f a b = false := by
  unfold eqW; cases ha : isNaN f a <;> cases hb : isNaN f b <;> simp_all
theorem rung_zero (f : Format) : rung f 0 = 0 := Nat.zero_mod _
theorem sv_zero (f : Format) : sv f 0 = 0 := (sv_eq_zero f).2 (rung_zero f)
theorem nan_zero (f : Format) : isNaN f 0 = false := by
  unfold isNaN; rw [rung_zero]
  exact decide_eq_false (by omega)
theorem eqW_zero (f : Format) {a : Nat} (na : isNaN f a = false) : eqW f a 0 = decide (rung f a = 0) := by
  unfold eqW; rw [na, nan_zero f, sv_zero]
  by_cases h : rung f a = 0
  · rw [decide_eq_true h, decide_eq_true ((sv_eq_zero f).2 h)]; rfl
  · rw [decide_eq_false h, decide_eq_false (fun e => h ((sv_eq_zero f).1 e))]; rfl
theorem isNaN_rung0 (f : Format) {a : Nat} (h : rung f a = 0) : isNaN f a = false := by
  unfold isNaN; rw [h]; exact decide_eq_false (by omega)
theorem zeros64 {a : Nat} (ha : a < 18446744073709551616) (h : rung double a = 0) : a = 0 ∨ a = 9223372036854775808 := by
  unfold rung at h; rw [sw_double] at h; omega
theorem zeros32 {a : Nat} (ha : a < 4294967296) (h : rung single a = 0) : a = 0 ∨ a = 2147483648 := by
  unfold rung at h; rw [sw_single] at h; omega
/-- the same, where equal: the same sign -/
theorem sgn_same (f : Format) {a b : Nat} (ha : a < 2 ^ f.width) (hb : b < 2 ^ f.width) (h : sv f a = sv f b) : (sgn f a == sgn f b) = (a == b) := by
  by_cases h0 : rung f a = 0
  · have h1 : rung f b = 0 := (sv_eq_zero _).1 (by rw [← h]; exact (sv_eq_zero _).2 h0)
    rw [Bool.eq_iff_iff, beq_iff_eq, beq_iff_eq]
    exact ⟨fun hs => word_inj _ ha hb hs (by rw [h0, h1]), fun e => by rw [e]⟩
  · have := sv_inj _ ha hb h0 h
    subst this; simp
theorem sgn_neg_sv (f : Format) {a : Nat} (h0 : rung f a ≠ 0) : sgn f a = decide (sv f a < 0) := by
  have := (mg_eq_zero f (r := rung f a))
  unfold sv
  cases h : sgn f a
  · simp only [Bool.false_eq_true, if_false]; symm; exact decide_eq_false (by omega)
  · simp only [if_true]; symm; exact decide_eq_true (by omega)
theorem lt_single {a : Nat} (w : (Lit.float .f32 a).wf = true) : a < 4294967296 := by simpa [Lit.wf] using w
theorem lt_single' {a : Nat} (w : (Lit.float .f32 a).wf = true) : a < 2 ^ single.width := by rw [width_single]; exact lt_single w
theorem wf_single {a : Nat} (h : a < 4294967296) : (Lit.float .f32 a).wf = true := by simpa [Lit.wf] using h
theorem widen_wl (a : Nat) : widen a < 18446744073709551616 := by have := widen_lt a; rw [width_double] at this; exact this
theorem sameW_widen {a b : Nat} (wa : (Lit.float .f32 a).wf = true) (wb : (Lit.float .f32 b).wf = true) (na : isNaN single a = false) (nb : isNaN single b = false) : sameW double (widen a) (widen b) = sameW single a b := by
  unfold sameW
  rw [isNaN_widen, isNaN_widen, na, nb]
  simp only [Bool.or_self, Bool.false_eq_true, if_false]
  rw [Bool.eq_iff_iff, beq_iff_eq, beq_iff_eq]
  exact widen_inj (lt_single' wa) (lt_single' wb) na nb
theorem sameW_of_nan (f : Format) {a b : Nat} (h : (isNaN f a || isNaN f b) = true) : sameW f a b = (isNaN f a && isNaN f b) := by unfold sameW; rw [h]; rfl
theorem sameW_of_ne (f : Format) {a b : Nat} (na : isNaN f a = false) (nb : isNaN f b = false) (h : sv f a ≠ sv f b) : sameW f a b = false := by
  unfold sameW; rw [na, nb]
  exact beq_eq_false_iff_ne.2 (fun e => h (by rw [e]))
theorem sameW_of_eq (f : Format) {a b : Nat} (na : isNaN f a = false) (nb : isNaN f b = false) : sameW f a b = (a == b) := by
  unfold sameW; rw [na, nb]; rfl
theorem sameW_iff (f : Format) {a b : Nat} : sameW f a b = true ↔ (isNaN f a = true ∧ isNaN f b = true) ∨ (isNaN f a = false ∧ isNaN f b = false ∧ a = b) := by
  unfold sameW; cases isNaN f a <;> cases isNaN f b <;> simp
end Go.Proofs.Ytkjjeccgmeiniaa.Flt
