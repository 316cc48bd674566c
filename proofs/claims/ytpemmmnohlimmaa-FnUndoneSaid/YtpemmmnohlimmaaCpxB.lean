/- Contracts on complex numbers: whether one is finite, the conjugate; turns: valid ones, the inverse. -/
import Derived.Test.YtpemmmnohlimmaaQuo
import Derived.Test.YtpemmmnohlimmaaMathC
import Derived.Handy
import Derived.Below
namespace Go.Proofs.Ytpemmmnohlimmaa.Cpx
open Go.ChangeShapes Go.WideShapes Go.ChangeAt Go.RowKit Go.Proofs.Ytpemmmnohlimmaa Go.Proofs.Ytpemmmnohlimmaa.Flt Go.Proofs.Ytpemmmnohlimmaa.Mth
set_option linter.unusedVariables false
theorem run_ceq {P : Program} (t : TypeId) (a b c d : Nat) (w : World) : (binOp .eql t (.complex .f64 a b) (.complex .f64 c d)).run P w = .ok (.bool (eqW Ieee.double a c && eqW Ieee.double b d)) w := by
  simp [binOp, Op.complexOp, Op.Complex.cmp, Op.floatCmp, asBool, eq64]
theorem run_cne {P : Program} (t : TypeId) (a b c d : Nat) (w : World) : (binOp .neq t (.complex .f64 a b) (.complex .f64 c d)).run P w = .ok (.bool !(eqW Ieee.double a c && eqW Ieee.double b d)) w := by
  simp [binOp, Op.complexOp, Op.Complex.cmp, Op.floatCmp, asBool, eq64]
theorem finI_any (x y : Nat) (w : World) (hx : x < 18446744073709551616) (hy : y < 18446744073709551616) :
    Calls Try.prog 11 #[.complex .f64 x y] w fun e w' => e = .returned (.bool (isFinD x && isFinD y)) ∧ w' = w := by
  cases h1 : isFinD x
  · go_enter Try.func11, Try.ntmps11
    go_wp2_with (go_at_call 22; (with_reducible refine (fin_any x _ hx).mono ?_); rintro e w' ⟨rfl, rfl⟩; rw [h1])
    go_ret
    exact ⟨rfl, rfl⟩
  · go_enter Try.func11, Try.ntmps11
    go_wp2_with (first
      | (go_at_call 22; (with_reducible refine (fin_any x _ hx).mono ?_); rintro e w' ⟨rfl, rfl⟩; rw [h1])
      | (go_at_call 22; (with_reducible refine (fin_any y _ hy).mono ?_); rintro e w' ⟨rfl, rfl⟩))
    go_ret
    exact ⟨rfl, rfl⟩
theorem conj_any (x y : Nat) (w : World) :
    Calls Try.prog 26 #[.complex .f64 x y] w fun e w' => e = .returned (.complex .f64 x (Op.negFloat .f64 y)) ∧ w' = w := by
  go_enter Try.func26, Try.ntmps26
  go_wp2_with fail
  go_ret
  exact ⟨rfl, rfl⟩
end Go.Proofs.Ytpemmmnohlimmaa.Cpx
namespace Go.Proofs.Ytpemmmnohlimmaa.Trn
open Go.ChangeShapes Go.WideShapes Go.ChangeAt Go.RowKit Go.Proofs.Ytpemmmnohlimmaa Go.Proofs.Ytpemmmnohlimmaa.Flt Go.Proofs.Ytpemmmnohlimmaa.Mth
def okT (q p : Int) : Bool := decide (0 ≤ q) && decide (q ≤ 3) && (decide (-60 ≤ p) && decide (p ≤ 60))
theorem okT_iff {q p : Int} : okT q p = true ↔ (0 ≤ q ∧ q ≤ 3) ∧ -60 ≤ p ∧ p ≤ 60 := by simp [okT]
theorem okT_not {q p : Int} (h : ¬ ((0 ≤ q ∧ q ≤ 3) ∧ -60 ≤ p ∧ p ≤ 60)) : okT q p = false := by
  cases e : okT q p
  · rfl
  · exact absurd (okT_iff.1 e) h
theorem implOk (q p : Int) (w : World) :
    Calls Try.prog 87 #[.agg #[.int .i64 q, .int .i64 p]] w fun e w' => e = .returned (.bool (okT q p)) ∧ w' = w.alloc (.cells #[.int .i64 q, .int .i64 p] 43) := by
  go_enter Try.func87, Try.ntmps87
  go_wp2_with fail
  · go_ret
    exact ⟨ret_bool (by unfold okT; simp [*] <;> omega), rfl⟩
  all_goals
    go_ret
    exact ⟨ret_bool (by rw [okT_not (by omega)]), rfl⟩
theorem below_on {B : Nat} {w w1 w2 : World} (hb : Below w1.heap.size w1 w2) (h0 : Below B w w1) (hB : B ≤ w1.heap.size) : Below B w w2 := h0.trans (hb.mono hB)
def al (x y : Int) (w : World) : World := w.alloc (.cells #[.int .i64 x, .int .i64 y] 43)
/-- the turn back -/
def inv (q p : Int) : (Int × Int) × Bool := if okT q p then ((-q % 4, -p), true) else ((0, 0), false)
theorem inv_no {q p : Int} (h : okT q p = false) : inv q p = ((0, 0), false) := by unfold inv; rw [h]; rfl
theorem inv_yes {q p : Int} (h : okT q p = true) : inv q p = ((-q % 4, -p), true) := by unfold inv; rw [h]; rfl
theorem implInv (q p : Int) (w : World) :
    Calls Try.prog 88 #[.agg #[.int .i64 q, .int .i64 p]] w fun e w' =>
      e = .returned (.tuple #[.agg #[.int .i64 (inv q p).1.1, .int .i64 (inv q p).1.2], .bool (inv q p).2]) ∧ w' = al q p (al (inv q p).1.1 (inv q p).1.2 (al q p w)) := by
  cases h1 : okT q p
  · rw [inv_no h1]
    go_enter Try.func88, Try.ntmps88
    go_wp2_with (go_at_call 87; refine (implOk _ _ _).mono ?_; rintro e w' ⟨rfl, rfl⟩; rw [h1])
    go_returns
    exact ⟨rfl, rfl⟩
  · obtain ⟨⟨a1, a2⟩, a3, a4⟩ := okT_iff.1 h1
    rw [inv_yes h1]
    go_enter Try.func88, Try.ntmps88
    go_wp2_with (go_at_call 87; refine (implOk _ _ _).mono ?_; rintro e w' ⟨rfl, rfl⟩; rw [h1])
    go_returns
    exact ⟨rfl, rfl⟩
theorem cell_alloc {w : World} {a : Addr} {v : Value} (o : Obj) (h : w.cell? a = some v) : (w.alloc o).cell? a = some v := by
  rw [World.cell?_alloc_lt _ _ _ (World.block_lt_of_cell? w a h)]; exact h
theorem cell_set {w : World} {a b : Addr} {v u : Value} (h : w.cell? a = some v) (hn : b.block ≠ a.block) : (w.setCell b u).cell? a = some v := by
  rw [World.cell?_setCell_other w b a u (fun e => hn (by rw [e]))]; exact h
end Go.Proofs.Ytpemmmnohlimmaa.Trn
