/- What the operations on floats give at any program: widening, also of a NaN. -/
import Derived.Test.YtkjjeccgmeiniaaFltD
import Derived.WalkKit
import Derived.WalkLawsBesides
import Derived.Below
import Derived.Laws.Entries
namespace Go.Proofs.Ytkjjeccgmeiniaa.Flt
open Ieee Go.RowKit

def nan64 (t : Nat) : Nat := (t % 2) * 2 ^ 63 + 0x7ff0000000000000 + 1 + (t / 2) % (2 ^ 52 - 1)
theorem nan64_isNaN (t : Nat) : isNaN double (nan64 t) = true ∧ nan64 t < 2 ^ double.width := by
  have h1 : t % 2 < 2 := Nat.mod_lt _ (by omega)
  have h2 : (t / 2) % (2 ^ 52 - 1) < 2 ^ 52 - 1 := Nat.mod_lt _ (by omega)
  unfold nan64 isNaN rung
  rw [inf_double, sw_double, width_double]
  generalize t % 2 = x at *
  generalize (t / 2) % _ = y at *
  obtain rfl | rfl : x = 0 ∨ x = 1 := by omega
  · refine ⟨decide_eq_true ?_, ?_⟩ <;> omega
  · refine ⟨decide_eq_true ?_, ?_⟩ <;> omega
def nan32 (t : Nat) : Nat := (t % 2) * 2 ^ 31 + 0x7f800000 + 1 + (t / 2) % (2 ^ 23 - 1)
theorem nan32_isNaN (t : Nat) : isNaN single (nan32 t) = true ∧ nan32 t < 2 ^ single.width := by
  have h1 : t % 2 < 2 := Nat.mod_lt _ (by omega)
  have h2 : (t / 2) % (2 ^ 23 - 1) < 2 ^ 23 - 1 := Nat.mod_lt _ (by omega)
  unfold nan32 isNaN rung
  rw [inf_single, sw_single, width_single]
  generalize t % 2 = x at *
  generalize (t / 2) % _ = y at *
  obtain rfl | rfl : x = 0 ∨ x = 1 := by omega
  · refine ⟨decide_eq_true ?_, ?_⟩ <;> omega
  · refine ⟨decide_eq_true ?_, ?_⟩ <;> omega

section
variable {P : Program}
theorem run_widen (src dst : TypeId) (b : Nat) (hs' : (P.underlying src).isSome = true) (hd' : P.underlying dst = some (.float .f64)) (h : isNaN single b = false) (w : World) :
    (convert src dst (.float .f32 b)).run P w = .ok (.float .f64 (widen b)) w :=
  run_convert_float_float w src dst .f32 .f64 b (widen b) hs' hd' (widen_bits h)
theorem run_widen_nan (src dst : TypeId) (b : Nat) (hs' : (P.underlying src).isSome = true) (hd' : P.underlying dst = some (.float .f64)) (h : isNaN single b = true) (w : World) :
    (convert src dst (.float .f32 b)).run P w = .ok (.float .f64 (nan64 (w.tape w.drawn (.nanConv .f64 b)))) w.drew := by
  obtain ⟨u, hs''⟩ := Option.isSome_iff_exists.1 hs'
  unfold isNaN at h
  have h := of_decide_eq_true h
  have hdec : ∃ s t, FloatKind.f32.decode b = .nan s t := by
    rcases reads single hs b with ⟨m, e, hr, _, _⟩ | ⟨hr, _⟩ | ⟨t, hr, h'⟩
    · omega
    · omega
    · exact ⟨_, _, h'⟩
  obtain ⟨s, t, he⟩ := hdec
  cases u <;> simp [convert, run_underlying hs'', run_underlying hd', Conv.floatToFloat, he, Question.forced, Question.cut, nan64]
theorem run_widen_nan' (src dst : TypeId) (b : Nat) (hs' : (P.underlying src).isSome = true) (hd' : P.underlying dst = some (.float .f64)) (h : isNaN single b = true) (w : World) :
    ∃ r, isNaN double r = true ∧ r < 18446744073709551616 ∧ (convert src dst (.float .f32 b)).run P w = .ok (.float .f64 r) w.drew :=
  ⟨_, (nan64_isNaN _).1, by have := (nan64_isNaN (w.tape w.drawn (.nanConv .f64 b))).2; rw [width_double] at this; exact this, run_widen_nan src dst b hs' hd' h w⟩
/-- 'r' is what widening 'b' may give -/
def Wid (b r : Nat) : Prop := r < 18446744073709551616 ∧ isNaN double r = isNaN single b ∧ (isNaN single b = false → r = widen b)
theorem run_widen_any (src dst : TypeId) (b : Nat) (hs' : (P.underlying src).isSome = true) (hd' : P.underlying dst = some (.float .f64)) (w : World) :
    ∃ r n, Wid b r ∧ (convert src dst (.float .f32 b)).run P w = .ok (.float .f64 r) (w.drewN n) := by
  cases h : isNaN single b
  · refine ⟨widen b, 0, ⟨widen_wl b, ?_, fun _ => rfl⟩, run_widen src dst b hs' hd' h w⟩
    rw [isNaN_widen, h]
  · obtain ⟨r, h1, h2, h3⟩ := run_widen_nan' src dst b hs' hd' h w
    exact ⟨r, 1, ⟨h2, by rw [h1, h], fun e => by rw [h] at e; cases e⟩, h3⟩
end
theorem sameW_wid {a b r s : Nat} (wa : (Lit.float .f32 a).wf = true) (wb : (Lit.float .f32 b).wf = true) (hr : Wid a r) (hs' : Wid b s) : sameW double r s = sameW single a b := by
  obtain ⟨_, r1, r2⟩ := hr
  obtain ⟨_, s1, s2⟩ := hs'
  cases na : isNaN single a <;> cases nb : isNaN single b
  · rw [r2 na, s2 nb]; exact sameW_widen wa wb na nb
  all_goals (unfold sameW; rw [r1, s1, na, nb]; rfl)
theorem sgn_wid {a r : Nat} (na : isNaN single a = false) (hr : Wid a r) : sgn double r = sgn single a := by
  rw [hr.2.2 na, sgn_widen]
@[go_sem] theorem run_store_float (P : Program) (w : World) (a : Addr) (m : Mode) (k : FloatKind) (b : Nat) : (store a (.float k b) m).run P w = stored P w a (.float k b) m := run_store P w a _ m rfl
@[go_sem] theorem run_store_complex (P : Program) (w : World) (a : Addr) (m : Mode) (k : FloatKind) (x y : Nat) : (store a (.complex k x y) m).run P w = stored P w a (.complex k x y) m := run_store P w a _ m rfl
@[go_sem] theorem run_neg_float (P : Program) (w : World) (k : FloatKind) (x : Nat) : (Op.unary .neg (.float k x)).run P w = .ok (.float k (Op.negFloat k x)) w := rfl
theorem drew_eq (w : World) : w.drew = w.drewN 1 := rfl
end Go.Proofs.Ytkjjeccgmeiniaa.Flt
