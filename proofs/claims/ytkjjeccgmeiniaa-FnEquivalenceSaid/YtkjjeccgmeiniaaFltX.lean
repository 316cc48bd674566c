/- Widening at every world, by one equation. -/
import Derived.Test.YtkjjeccgmeiniaaFltW
namespace Go.Proofs.Ytkjjeccgmeiniaa.Flt
open Ieee Go.RowKit
def ndr (b : Nat) : Nat := if isNaN single b = true then 1 else 0
def widX (b : Nat) (w : World) : Nat := if isNaN single b = true then nan64 (w.tape w.drawn (.nanConv .f64 b)) else widen b
theorem run_widX {P : Program} (src dst : TypeId) (b : Nat) (hs' : (P.underlying src).isSome = true) (hd' : P.underlying dst = some (.float .f64)) (w : World) :
    (convert src dst (.float .f32 b)).run P w = .ok (.float .f64 (widX b w)) (w.drewN (ndr b)) := by
  unfold widX ndr
  cases h : isNaN single b
  · rw [run_widen src dst b hs' hd' h w]; rfl
  · rw [run_widen_nan src dst b hs' hd' h w]; rfl
theorem widX_wid (b : Nat) (w : World) : Wid b (widX b w) := by
  unfold widX
  cases h : isNaN single b
  · refine ⟨widen_wl b, ?_, fun _ => rfl⟩
    rw [h]; exact isNaN_widen b
  · refine ⟨?_, ?_, fun e => by rw [h] at e; cases e⟩
    · have := (nan64_isNaN (w.tape w.drawn (.nanConv .f64 b))).2; rw [width_double] at this; exact this
    · rw [h]; exact (nan64_isNaN _).1
theorem widX_num {b : Nat} (h : isNaN single b = false) (w : World) : widX b w = widen b := (widX_wid b w).2.2 h
theorem ndr_num {b : Nat} (h : isNaN single b = false) : ndr b = 0 := by unfold ndr; rw [h]; rfl
end Go.Proofs.Ytkjjeccgmeiniaa.Flt
