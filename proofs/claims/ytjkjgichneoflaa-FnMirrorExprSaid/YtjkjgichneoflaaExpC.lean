/- Contracts on complex numbers of the program: whether one is finite, the conjugate. Small facts on cells. -/
import Derived.Test.YtjkjgichneoflaaQuo
import Derived.Test.YtjkjgichneoflaaMathC
import Derived.Handy
import Derived.Below
namespace Go.Proofs.Ytjkjgichneoflaa.Cpx
open Go.ChangeShapes Go.WideShapes Go.ChangeAt Go.RowKit Go.Proofs.Ytjkjgichneoflaa Go.Proofs.Ytjkjgichneoflaa.Flt Go.Proofs.Ytjkjgichneoflaa.Mth
set_option linter.unusedVariables false
theorem run_ceq {P : Program} (t : TypeId) (a b c d : Nat) (w : World) : (binOp .eql t (.complex .f64 a b) (.complex .f64 c d)).run P w = .ok (.bool (eqW Ieee.double a c && eqW Ieee.double b d)) w := by
  simp [binOp, Op.complexOp, Op.Complex.cmp, Op.floatCmp, asBool, eq64]
theorem run_cne {P : Program} (t : TypeId) (a b c d : Nat) (w : World) : (binOp .neq t (.complex .f64 a b) (.complex .f64 c d)).run P w = .ok (.bool !(eqW Ieee.double a c && eqW Ieee.double b d)) w := by
  simp [binOp, Op.complexOp, Op.Complex.cmp, Op.floatCmp, asBool, eq64]
theorem finI_any (x y : Nat) (w : World) (hx : x < 18446744073709551616) (hy : y < 18446744073709551616) :
    Calls Try.prog 22 #[.complex .f64 x y] w fun e w' => e = .returned (.bool (isFinD x && isFinD y)) ∧ w' = w := by
  cases h1 : isFinD x
  · go_enter Try.func22, Try.ntmps22
    go_wp2_with (go_at_call 51; (with_reducible refine (fin_any x _ hx).mono ?_); rintro e w' ⟨rfl, rfl⟩; rw [h1])
    go_ret
    exact ⟨rfl, rfl⟩
  · go_enter Try.func22, Try.ntmps22
    go_wp2_with (first
      | (go_at_call 51; (with_reducible refine (fin_any x _ hx).mono ?_); rintro e w' ⟨rfl, rfl⟩; rw [h1])
      | (go_at_call 51; (with_reducible refine (fin_any y _ hy).mono ?_); rintro e w' ⟨rfl, rfl⟩))
    go_ret
    exact ⟨rfl, rfl⟩
theorem conj_any (x y : Nat) (w : World) :
    Calls Try.prog 60 #[.complex .f64 x y] w fun e w' => e = .returned (.complex .f64 x (Op.negFloat .f64 y)) ∧ w' = w := by
  go_enter Try.func60, Try.ntmps60
  go_wp2_with fail
  go_ret
  exact ⟨rfl, rfl⟩
theorem below_on {B : Nat} {w w1 w2 : World} (hb : Below w1.heap.size w1 w2) (h0 : Below B w w1) (hB : B ≤ w1.heap.size) : Below B w w2 := h0.trans (hb.mono hB)
theorem cell_alloc {w : World} {a : Addr} {v : Value} (o : Obj) (h : w.cell? a = some v) : (w.alloc o).cell? a = some v := by
  rw [World.cell?_alloc_lt _ _ _ (World.block_lt_of_cell? w a h)]; exact h
theorem cell_set {w : World} {a b : Addr} {v u : Value} (h : w.cell? a = some v) (hn : b.block ≠ a.block) : (w.setCell b u).cell? a = some v := by
  rw [World.cell?_setCell_other w b a u (fun e => hn (by rw [e]))]; exact h
end Go.Proofs.Ytjkjgichneoflaa.Cpx
