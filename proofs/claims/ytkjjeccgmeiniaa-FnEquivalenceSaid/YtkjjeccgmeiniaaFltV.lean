/- What narrowing and the four operations give at any program, whatever the operands. -/
import Derived.Test.YtkjjeccgmeiniaaFltW
import Derived.Test.YtkjjeccgmeiniaaFltE
namespace Go.Proofs.Ytkjjeccgmeiniaa.Flt
open Ieee Go.RowKit
section
variable {P : Program}
theorem run_narrow_any (src dst : TypeId) (a : Nat) (hs' : (P.underlying src).isSome = true) (hd' : P.underlying dst = some (.float .f32)) (na : isNaN double a = false) (ha : a < 18446744073709551616) (w : World) :
    ∃ x n, x < 4294967296 ∧ ((floatToFloatBits .f64 a .f32 = some x ∧ n = 0) ∨ floatToFloatBits .f64 a .f32 = none) ∧ (convert src dst (.float .f64 a)).run P w = .ok (.float .f32 x) (w.drewN n) := by
  cases h : floatToFloatBits .f64 a .f32 with
  | some x => exact ⟨x, 0, floatToFloat_lt h (wf_double ha), .inl ⟨rfl, rfl⟩, run_convert_float_float w src dst .f64 .f32 a x hs' hd' h⟩
  | none =>
    obtain ⟨u, hs''⟩ := Option.isSome_iff_exists.1 hs'
    refine ⟨(w.tape w.drawn (.floatToFloat a)) % 2 ^ 32, 1, Nat.mod_lt _ (by omega), .inr rfl, ?_⟩
    unfold isNaN at na
    have na := of_decide_eq_false na
    unfold floatToFloatBits at h
    rw [if_neg (by decide)] at h
    rcases reads double hd a with ⟨m, e, hr, _, h'⟩ | ⟨hr, h'⟩ | ⟨t, hr, h'⟩
    · have hdec : FloatKind.f64.decode a = .number (sgn double a) m (double.leastPlace + (e : Int)) := h'
      rw [hdec] at h
      simp only at h
      split at h
      · rename_i hi
        cases u <;> simp [convert, run_underlying hs'', run_underlying hd', Conv.floatToFloat, hdec, hi, Question.forced, Question.cut] <;> rfl
      · cases h
    · have hdec : FloatKind.f64.decode a = .infinity (sgn double a) := h'
      rw [hdec] at h; cases h
    · omega
/-- what an operation gives: its bits, or some NaN -/
theorem run_float_any (op : BinOp) (hop : op = .add ∨ op = .sub ∨ op = .mul ∨ op = .quo) (t : TypeId) (k : FloatKind) (x y : Nat) (w : World) :
    ∃ r n, (Lit.float k r).wf = true ∧ (floatBits op k x y = some r ∨ (floatBits op k x y = none ∧ isNaN k.format r = true)) ∧ (binOp op t (.float k x) (.float k y)).run P w = .ok (.float k r) (w.drewN n) := by
  cases h : floatBits op k x y with
  | some r => exact ⟨r, 0, floatBits_wf h, .inl rfl, run_float_arith w op t k x y r h⟩
  | none =>
    refine ⟨(Question.nanBits k x y).cut (w.tape w.drawn (.nanBits k x y)), 1, ?_, .inr ⟨rfl, ?_⟩, ?_⟩
    · cases k
      · have := (nan32_isNaN (w.tape w.drawn (.nanBits .f32 x y))).2
        rw [width_single] at this
        exact wf_single this
      · have := (nan64_isNaN (w.tape w.drawn (.nanBits .f64 x y))).2
        rw [width_double] at this
        exact wf_double this
    · cases k
      · exact (nan32_isNaN (w.tape w.drawn (.nanBits .f32 x y))).1
      · exact (nan64_isNaN (w.tape w.drawn (.nanBits .f64 x y))).1
    · have hf : (Question.nanBits k x y).forced = false := rfl
      unfold floatBits at h
      rcases hop with rfl | rfl | rfl | rfl <;> simp only at h <;> simp [binOp, Op.floatArith, h, hf] <;> rfl
end
end Go.Proofs.Ytkjjeccgmeiniaa.Flt
