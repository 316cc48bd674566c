/- What Interpolate tells is a number; the law's comparison of it. -/
import Derived.Test.YtbmojogohffhaaaItpI
namespace Go.Proofs.Ytbmojogohffhaaa.Pnt
open Go.ChangeShapes Go.WideShapes Go.ChangeAt Go.RowKit Go.Proofs.Ytbmojogohffhaaa Go.Proofs.Ytbmojogohffhaaa.Flt Go.Proofs.Ytbmojogohffhaaa.Mth
open Ieee (single double)
set_option linter.unusedVariables false
theorem lnV_num {x0 y0 x1 y1 x : Nat} (h : Betw x0 y0 x1 y1 x) : isNaN single (lnV x0 y0 x1 y1 x) = false := by
  unfold lnV
  split
  · exact fin_num h.fy0
  · split
    · exact fin_num h.fy1
    · exact h.r_num
theorem ipV_num (n : Nat) (X : Nat → Nat) (x : Nat) : isNaN single (ipV n X x) = false := by
  unfold ipV
  split
  · rename_i hin
    have hb := okP_bounds (segIn_ok hin).1
    exact lnV_num (seg_betw hin (segN_is hb.1))
  · decide
theorem ipV_wf {n : Nat} {X : Nat → Nat} (hw : Wf n X) (x : Nat) : (Lit.float .f32 (ipV n X x)).wf = true := by
  unfold ipV
  split
  · rename_i hin
    have hb := okP_bounds (segIn_ok hin).1
    have hk := segN_is (X := X) (x := x) hb.1
    have hbt := seg_betw hin hk
    unfold itV lnV
    split
    · exact (hw _ (by have := hk.1; omega)).2
    · split
      · exact (hw _ hk.1).2
      · exact wf_single hbt.r_lt
  · decide
theorem conv_wid {v : Nat} (h : isNaN single v = false) (w : World) : (convert 25 47 (.float .f32 v)).run Try.prog w = .ok (.float .f64 (widen v)) w := conv_num h w
theorem same_self {v : Nat} (hw : (Lit.float .f32 v).wf = true) (h : isNaN single v = false) (w : World) :
    Calls Try.prog 31 #[.float .f64 (widen v), .float .f64 (widen v)] w fun e w' => e = .returned (.bool true) ∧ w' = w :=
  same_wid hw ⟨widen_wl v, (isNaN_widen v).trans h.symm, fun _ => rfl⟩ ⟨widen_wl v, (isNaN_widen v).trans h.symm, fun _ => rfl⟩ w
end Go.Proofs.Ytbmojogohffhaaa.Pnt
