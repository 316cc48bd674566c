/- The program's operations on the values that wait. -/
import Derived.Test.YtjkjgichneoflaaExpR
import Derived.Carry
namespace Go.Proofs.Ytjkjgichneoflaa.Ex
open Go.ChangeMaps Go.ChangeShapes Go.WideShapes Go.ChangeAt Go.RowKit Go.Proofs.Ytjkjgichneoflaa Go.Proofs.Ytjkjgichneoflaa.Flt Go.Proofs.Ytjkjgichneoflaa.Mth Go.Proofs.Ytjkjgichneoflaa.Cpx
set_option linter.unusedVariables false
section
variable {P : Program}
theorem run_cas (op : BinOp) (h : op = .add ∨ op = .sub) (t : TypeId) (a b c d : Nat) (w : World) :
    ∃ e f n, (e < 18446744073709551616 ∧ f < 18446744073709551616) ∧ (can .f64 e = fo op .f64 (can .f64 a) (can .f64 c) ∧ can .f64 f = fo op .f64 (can .f64 b) (can .f64 d)) ∧ (binOp op t (.complex .f64 a b) (.complex .f64 c d)).run P w = .ok (.complex .f64 e f) (w.drewN n) := by
  have hop : am op := by rcases h with rfl | rfl; exact hAdd; exact hSub
  obtain ⟨e, n, w1, c1, k1⟩ := run_arith (P := P) op hop a c w
  obtain ⟨f, m, w2, c2, k2⟩ := run_arith (P := P) op hop b d (w.drewN n)
  refine ⟨e, f, n + m, ⟨lt_double w1, lt_double w2⟩, ⟨c1, c2⟩, ?_⟩
  rcases h with rfl | rfl <;> simp [binOp, Op.complexOp, k1, k2, World.drewN_drewN]
end
theorem product_any (a b c d : Nat) (w : World) : Calls Try.prog 62 #[.complex .f64 a b, .complex .f64 c d] w fun e w' =>
    ∃ u v, (u < 18446744073709551616 ∧ v < 18446744073709551616) ∧ (can .f64 u = fo .sub .f64 (fo .mul .f64 (can .f64 a) (can .f64 c)) (fo .mul .f64 (can .f64 b) (can .f64 d)) ∧ can .f64 v = fo .add .f64 (fo .mul .f64 (can .f64 a) (can .f64 d)) (fo .mul .f64 (can .f64 b) (can .f64 c))) ∧ e = .returned (.complex .f64 u v) ∧ Below w.heap.size w w' := by
  obtain ⟨r1, n1, w1, c1, k1⟩ := run_fo (P := Try.prog) .mul hMul 37 .f64 a c w
  obtain ⟨r2, n2, w2, c2, k2⟩ := run_fo (P := Try.prog) .mul hMul 37 .f64 b d (w.drewN n1)
  obtain ⟨r3, n3, w3, c3, k3⟩ := run_fo (P := Try.prog) .sub hSub 37 .f64 r1 r2 (w.drewN (n1 + n2))
  obtain ⟨r4, n4, w4, c4, k4⟩ := run_fo (P := Try.prog) .mul hMul 37 .f64 a d (w.drewN (n1 + n2 + n3))
  obtain ⟨r5, n5, w5, c5, k5⟩ := run_fo (P := Try.prog) .mul hMul 37 .f64 b c (w.drewN (n1 + n2 + n3 + n4))
  obtain ⟨r6, n6, w6, c6, k6⟩ := run_fo (P := Try.prog) .add hAdd 37 .f64 r4 r5 (w.drewN (n1 + n2 + n3 + n4 + n5))
  have H := Lib.hid (show can .f64 r3 = fo .sub .f64 (fo .mul .f64 (can .f64 a) (can .f64 c)) (fo .mul .f64 (can .f64 b) (can .f64 d)) ∧ can .f64 r6 = fo .add .f64 (fo .mul .f64 (can .f64 a) (can .f64 d)) (fo .mul .f64 (can .f64 b) (can .f64 c)) by rw [c3, c1, c2, c6, c4, c5]; exact ⟨rfl, rfl⟩)
  clear c1 c2 c3 c4 c5 c6
  go_enter Try.func62, Try.ntmps62
  go_wp2_with fail
  go_ret
  exact ⟨r3, r6, ⟨lt_double w3, lt_double w6⟩, H.out, rfl, below_drewN (Below.refl _ _) (n1 + n2 + n3 + n4 + n5 + n6)⟩
/-- the map of operations -/
def opsMap (R : Nat) : Array MapEntry := #[⟨.int .i64 3, .func (.func 40) #[.pointer (some ⟨R, 0, none⟩)] #[], 0⟩, ⟨.int .i64 4, .func (.func 41) #[.pointer (some ⟨R, 0, none⟩)] #[], 1⟩, ⟨.int .i64 5, .func (.func 42) #[.pointer (some ⟨R, 0, none⟩)] #[], 2⟩, ⟨.int .i64 6, .func (.func 43) #[.pointer (some ⟨R, 0, none⟩)] #[], 3⟩, ⟨.int .i64 7, .func (.func 44) #[.pointer (some ⟨R, 0, none⟩)] #[], 4⟩, ⟨.int .i64 8, .func (.func 45) #[.pointer (some ⟨R, 0, none⟩)] #[], 5⟩, ⟨.int .i64 9, .func (.func 46) #[.pointer (some ⟨R, 0, none⟩)] #[], 6⟩, ⟨.int .i64 10, .func (.func 47) #[.pointer (some ⟨R, 0, none⟩)] #[], 7⟩, ⟨.int .i64 11, .func (.func 48) #[.pointer (some ⟨R, 0, none⟩)] #[], 8⟩, ⟨.int .i64 12, .func (.func 49) #[.pointer (some ⟨R, 0, none⟩)] #[], 9⟩]
set_option maxRecDepth 20000 in
set_option maxHeartbeats 3200000 in
theorem ops_any (R : Nat) (w : World) :
    Calls Try.prog 20 #[.pointer (some ⟨R, 0, none⟩)] w fun e w' => e = .returned (.map (some w.heap.size)) ∧ w' = w.alloc (.map (opsMap R) 10) := by
  have i0 : (Instr.mapUpdate 49 (.map (some w.heap.size)) (.int .i64 3) (.func (.func 40) #[.pointer (some ⟨R, 0, none⟩)] #[])).run Try.prog (w.alloc (.map #[] 0)) = .ok () (w.alloc (.map #[⟨.int .i64 3, .func (.func 40) #[.pointer (some ⟨R, 0, none⟩)] #[], 0⟩] 1)) := run_ins _ 0 3 _ w rfl
  have i1 : (Instr.mapUpdate 49 (.map (some w.heap.size)) (.int .i64 4) (.func (.func 41) #[.pointer (some ⟨R, 0, none⟩)] #[])).run Try.prog (w.alloc (.map #[⟨.int .i64 3, .func (.func 40) #[.pointer (some ⟨R, 0, none⟩)] #[], 0⟩] 1)) = .ok () (w.alloc (.map #[⟨.int .i64 3, .func (.func 40) #[.pointer (some ⟨R, 0, none⟩)] #[], 0⟩, ⟨.int .i64 4, .func (.func 41) #[.pointer (some ⟨R, 0, none⟩)] #[], 1⟩] 2)) := run_ins _ 1 4 _ w rfl
  have i2 : (Instr.mapUpdate 49 (.map (some w.heap.size)) (.int .i64 5) (.func (.func 42) #[.pointer (some ⟨R, 0, none⟩)] #[])).run Try.prog (w.alloc (.map #[⟨.int .i64 3, .func (.func 40) #[.pointer (some ⟨R, 0, none⟩)] #[], 0⟩, ⟨.int .i64 4, .func (.func 41) #[.pointer (some ⟨R, 0, none⟩)] #[], 1⟩] 2)) = .ok () (w.alloc (.map #[⟨.int .i64 3, .func (.func 40) #[.pointer (some ⟨R, 0, none⟩)] #[], 0⟩, ⟨.int .i64 4, .func (.func 41) #[.pointer (some ⟨R, 0, none⟩)] #[], 1⟩, ⟨.int .i64 5, .func (.func 42) #[.pointer (some ⟨R, 0, none⟩)] #[], 2⟩] 3)) := run_ins _ 2 5 _ w rfl
  have i3 : (Instr.mapUpdate 49 (.map (some w.heap.size)) (.int .i64 6) (.func (.func 43) #[.pointer (some ⟨R, 0, none⟩)] #[])).run Try.prog (w.alloc (.map #[⟨.int .i64 3, .func (.func 40) #[.pointer (some ⟨R, 0, none⟩)] #[], 0⟩, ⟨.int .i64 4, .func (.func 41) #[.pointer (some ⟨R, 0, none⟩)] #[], 1⟩, ⟨.int .i64 5, .func (.func 42) #[.pointer (some ⟨R, 0, none⟩)] #[], 2⟩] 3)) = .ok () (w.alloc (.map #[⟨.int .i64 3, .func (.func 40) #[.pointer (some ⟨R, 0, none⟩)] #[], 0⟩, ⟨.int .i64 4, .func (.func 41) #[.pointer (some ⟨R, 0, none⟩)] #[], 1⟩, ⟨.int .i64 5, .func (.func 42) #[.pointer (some ⟨R, 0, none⟩)] #[], 2⟩, ⟨.int .i64 6, .func (.func 43) #[.pointer (some ⟨R, 0, none⟩)] #[], 3⟩] 4)) := run_ins _ 3 6 _ w rfl
  have i4 : (Instr.mapUpdate 49 (.map (some w.heap.size)) (.int .i64 7) (.func (.func 44) #[.pointer (some ⟨R, 0, none⟩)] #[])).run Try.prog (w.alloc (.map #[⟨.int .i64 3, .func (.func 40) #[.pointer (some ⟨R, 0, none⟩)] #[], 0⟩, ⟨.int .i64 4, .func (.func 41) #[.pointer (some ⟨R, 0, none⟩)] #[], 1⟩, ⟨.int .i64 5, .func (.func 42) #[.pointer (some ⟨R, 0, none⟩)] #[], 2⟩, ⟨.int .i64 6, .func (.func 43) #[.pointer (some ⟨R, 0, none⟩)] #[], 3⟩] 4)) = .ok () (w.alloc (.map #[⟨.int .i64 3, .func (.func 40) #[.pointer (some ⟨R, 0, none⟩)] #[], 0⟩, ⟨.int .i64 4, .func (.func 41) #[.pointer (some ⟨R, 0, none⟩)] #[], 1⟩, ⟨.int .i64 5, .func (.func 42) #[.pointer (some ⟨R, 0, none⟩)] #[], 2⟩, ⟨.int .i64 6, .func (.func 43) #[.pointer (some ⟨R, 0, none⟩)] #[], 3⟩, ⟨.int .i64 7, .func (.func 44) #[.pointer (some ⟨R, 0, none⟩)] #[], 4⟩] 5)) := run_ins _ 4 7 _ w rfl
  have i5 : (Instr.mapUpdate 49 (.map (some w.heap.size)) (.int .i64 8) (.func (.func 45) #[.pointer (some ⟨R, 0, none⟩)] #[])).run Try.prog (w.alloc (.map #[⟨.int .i64 3, .func (.func 40) #[.pointer (some ⟨R, 0, none⟩)] #[], 0⟩, ⟨.int .i64 4, .func (.func 41) #[.pointer (some ⟨R, 0, none⟩)] #[], 1⟩, ⟨.int .i64 5, .func (.func 42) #[.pointer (some ⟨R, 0, none⟩)] #[], 2⟩, ⟨.int .i64 6, .func (.func 43) #[.pointer (some ⟨R, 0, none⟩)] #[], 3⟩, ⟨.int .i64 7, .func (.func 44) #[.pointer (some ⟨R, 0, none⟩)] #[], 4⟩] 5)) = .ok () (w.alloc (.map #[⟨.int .i64 3, .func (.func 40) #[.pointer (some ⟨R, 0, none⟩)] #[], 0⟩, ⟨.int .i64 4, .func (.func 41) #[.pointer (some ⟨R, 0, none⟩)] #[], 1⟩, ⟨.int .i64 5, .func (.func 42) #[.pointer (some ⟨R, 0, none⟩)] #[], 2⟩, ⟨.int .i64 6, .func (.func 43) #[.pointer (some ⟨R, 0, none⟩)] #[], 3⟩, ⟨.int .i64 7, .func (.func 44) #[.pointer (some ⟨R, 0, none⟩)] #[], 4⟩, ⟨.int .i64 8, .func (.func 45) #[.pointer (some ⟨R, 0, none⟩)] #[], 5⟩] 6)) := run_ins _ 5 8 _ w rfl
  have i6 : (Instr.mapUpdate 49 (.map (some w.heap.size)) (.int .i64 9) (.func (.func 46) #[.pointer (some ⟨R, 0, none⟩)] #[])).run Try.prog (w.alloc (.map #[⟨.int .i64 3, .func (.func 40) #[.pointer (some ⟨R, 0, none⟩)] #[], 0⟩, ⟨.int .i64 4, .func (.func 41) #[.pointer (some ⟨R, 0, none⟩)] #[], 1⟩, ⟨.int .i64 5, .func (.func 42) #[.pointer (some ⟨R, 0, none⟩)] #[], 2⟩, ⟨.int .i64 6, .func (.func 43) #[.pointer (some ⟨R, 0, none⟩)] #[], 3⟩, ⟨.int .i64 7, .func (.func 44) #[.pointer (some ⟨R, 0, none⟩)] #[], 4⟩, ⟨.int .i64 8, .func (.func 45) #[.pointer (some ⟨R, 0, none⟩)] #[], 5⟩] 6)) = .ok () (w.alloc (.map #[⟨.int .i64 3, .func (.func 40) #[.pointer (some ⟨R, 0, none⟩)] #[], 0⟩, ⟨.int .i64 4, .func (.func 41) #[.pointer (some ⟨R, 0, none⟩)] #[], 1⟩, ⟨.int .i64 5, .func (.func 42) #[.pointer (some ⟨R, 0, none⟩)] #[], 2⟩, ⟨.int .i64 6, .func (.func 43) #[.pointer (some ⟨R, 0, none⟩)] #[], 3⟩, ⟨.int .i64 7, .func (.func 44) #[.pointer (some ⟨R, 0, none⟩)] #[], 4⟩, ⟨.int .i64 8, .func (.func 45) #[.pointer (some ⟨R, 0, none⟩)] #[], 5⟩, ⟨.int .i64 9, .func (.func 46) #[.pointer (some ⟨R, 0, none⟩)] #[], 6⟩] 7)) := run_ins _ 6 9 _ w rfl
  have i7 : (Instr.mapUpdate 49 (.map (some w.heap.size)) (.int .i64 10) (.func (.func 47) #[.pointer (some ⟨R, 0, none⟩)] #[])).run Try.prog (w.alloc (.map #[⟨.int .i64 3, .func (.func 40) #[.pointer (some ⟨R, 0, none⟩)] #[], 0⟩, ⟨.int .i64 4, .func (.func 41) #[.pointer (some ⟨R, 0, none⟩)] #[], 1⟩, ⟨.int .i64 5, .func (.func 42) #[.pointer (some ⟨R, 0, none⟩)] #[], 2⟩, ⟨.int .i64 6, .func (.func 43) #[.pointer (some ⟨R, 0, none⟩)] #[], 3⟩, ⟨.int .i64 7, .func (.func 44) #[.pointer (some ⟨R, 0, none⟩)] #[], 4⟩, ⟨.int .i64 8, .func (.func 45) #[.pointer (some ⟨R, 0, none⟩)] #[], 5⟩, ⟨.int .i64 9, .func (.func 46) #[.pointer (some ⟨R, 0, none⟩)] #[], 6⟩] 7)) = .ok () (w.alloc (.map #[⟨.int .i64 3, .func (.func 40) #[.pointer (some ⟨R, 0, none⟩)] #[], 0⟩, ⟨.int .i64 4, .func (.func 41) #[.pointer (some ⟨R, 0, none⟩)] #[], 1⟩, ⟨.int .i64 5, .func (.func 42) #[.pointer (some ⟨R, 0, none⟩)] #[], 2⟩, ⟨.int .i64 6, .func (.func 43) #[.pointer (some ⟨R, 0, none⟩)] #[], 3⟩, ⟨.int .i64 7, .func (.func 44) #[.pointer (some ⟨R, 0, none⟩)] #[], 4⟩, ⟨.int .i64 8, .func (.func 45) #[.pointer (some ⟨R, 0, none⟩)] #[], 5⟩, ⟨.int .i64 9, .func (.func 46) #[.pointer (some ⟨R, 0, none⟩)] #[], 6⟩, ⟨.int .i64 10, .func (.func 47) #[.pointer (some ⟨R, 0, none⟩)] #[], 7⟩] 8)) := run_ins _ 7 10 _ w rfl
  have i8 : (Instr.mapUpdate 49 (.map (some w.heap.size)) (.int .i64 11) (.func (.func 48) #[.pointer (some ⟨R, 0, none⟩)] #[])).run Try.prog (w.alloc (.map #[⟨.int .i64 3, .func (.func 40) #[.pointer (some ⟨R, 0, none⟩)] #[], 0⟩, ⟨.int .i64 4, .func (.func 41) #[.pointer (some ⟨R, 0, none⟩)] #[], 1⟩, ⟨.int .i64 5, .func (.func 42) #[.pointer (some ⟨R, 0, none⟩)] #[], 2⟩, ⟨.int .i64 6, .func (.func 43) #[.pointer (some ⟨R, 0, none⟩)] #[], 3⟩, ⟨.int .i64 7, .func (.func 44) #[.pointer (some ⟨R, 0, none⟩)] #[], 4⟩, ⟨.int .i64 8, .func (.func 45) #[.pointer (some ⟨R, 0, none⟩)] #[], 5⟩, ⟨.int .i64 9, .func (.func 46) #[.pointer (some ⟨R, 0, none⟩)] #[], 6⟩, ⟨.int .i64 10, .func (.func 47) #[.pointer (some ⟨R, 0, none⟩)] #[], 7⟩] 8)) = .ok () (w.alloc (.map #[⟨.int .i64 3, .func (.func 40) #[.pointer (some ⟨R, 0, none⟩)] #[], 0⟩, ⟨.int .i64 4, .func (.func 41) #[.pointer (some ⟨R, 0, none⟩)] #[], 1⟩, ⟨.int .i64 5, .func (.func 42) #[.pointer (some ⟨R, 0, none⟩)] #[], 2⟩, ⟨.int .i64 6, .func (.func 43) #[.pointer (some ⟨R, 0, none⟩)] #[], 3⟩, ⟨.int .i64 7, .func (.func 44) #[.pointer (some ⟨R, 0, none⟩)] #[], 4⟩, ⟨.int .i64 8, .func (.func 45) #[.pointer (some ⟨R, 0, none⟩)] #[], 5⟩, ⟨.int .i64 9, .func (.func 46) #[.pointer (some ⟨R, 0, none⟩)] #[], 6⟩, ⟨.int .i64 10, .func (.func 47) #[.pointer (some ⟨R, 0, none⟩)] #[], 7⟩, ⟨.int .i64 11, .func (.func 48) #[.pointer (some ⟨R, 0, none⟩)] #[], 8⟩] 9)) := run_ins _ 8 11 _ w rfl
  have i9 : (Instr.mapUpdate 49 (.map (some w.heap.size)) (.int .i64 12) (.func (.func 49) #[.pointer (some ⟨R, 0, none⟩)] #[])).run Try.prog (w.alloc (.map #[⟨.int .i64 3, .func (.func 40) #[.pointer (some ⟨R, 0, none⟩)] #[], 0⟩, ⟨.int .i64 4, .func (.func 41) #[.pointer (some ⟨R, 0, none⟩)] #[], 1⟩, ⟨.int .i64 5, .func (.func 42) #[.pointer (some ⟨R, 0, none⟩)] #[], 2⟩, ⟨.int .i64 6, .func (.func 43) #[.pointer (some ⟨R, 0, none⟩)] #[], 3⟩, ⟨.int .i64 7, .func (.func 44) #[.pointer (some ⟨R, 0, none⟩)] #[], 4⟩, ⟨.int .i64 8, .func (.func 45) #[.pointer (some ⟨R, 0, none⟩)] #[], 5⟩, ⟨.int .i64 9, .func (.func 46) #[.pointer (some ⟨R, 0, none⟩)] #[], 6⟩, ⟨.int .i64 10, .func (.func 47) #[.pointer (some ⟨R, 0, none⟩)] #[], 7⟩, ⟨.int .i64 11, .func (.func 48) #[.pointer (some ⟨R, 0, none⟩)] #[], 8⟩] 9)) = .ok () (w.alloc (.map #[⟨.int .i64 3, .func (.func 40) #[.pointer (some ⟨R, 0, none⟩)] #[], 0⟩, ⟨.int .i64 4, .func (.func 41) #[.pointer (some ⟨R, 0, none⟩)] #[], 1⟩, ⟨.int .i64 5, .func (.func 42) #[.pointer (some ⟨R, 0, none⟩)] #[], 2⟩, ⟨.int .i64 6, .func (.func 43) #[.pointer (some ⟨R, 0, none⟩)] #[], 3⟩, ⟨.int .i64 7, .func (.func 44) #[.pointer (some ⟨R, 0, none⟩)] #[], 4⟩, ⟨.int .i64 8, .func (.func 45) #[.pointer (some ⟨R, 0, none⟩)] #[], 5⟩, ⟨.int .i64 9, .func (.func 46) #[.pointer (some ⟨R, 0, none⟩)] #[], 6⟩, ⟨.int .i64 10, .func (.func 47) #[.pointer (some ⟨R, 0, none⟩)] #[], 7⟩, ⟨.int .i64 11, .func (.func 48) #[.pointer (some ⟨R, 0, none⟩)] #[], 8⟩, ⟨.int .i64 12, .func (.func 49) #[.pointer (some ⟨R, 0, none⟩)] #[], 9⟩] 10)) := run_ins _ 9 12 _ w rfl
  have im : (Instr.makeMap 49 none).run Try.prog w = .ok (.map (some w.heap.size)) (w.alloc (.map #[] 0)) := rfl
  go_enter Try.func20, Try.ntmps20
  go_wp2_with fail
  go_ret
  exact ⟨rfl, rfl⟩
/-- what an operation makes -/
def OpOut (k : Int) (a b : Nat × Nat) (w0 : World) (R : Nat) (sl : Value) (st : List (Nat × Nat)) (e : Ending) (w' : World) : Prop :=
  ∃ x y, (x < 18446744073709551616 ∧ y < 18446744073709551616) ∧ (can .f64 x = (opO k a b).1 ∧ can .f64 y = (opO k a b).2) ∧ e = .returned (.complex .f64 x y) ∧ Rk w0 R sl st w'
section
variable (w0 : World) (R : Nat) (sl : Value) (a b : Nat × Nat) (st : List (Nat × Nat)) (w : World)
theorem can0 : can .f64 0 = some 0 := by decide
theorem can1 : can .f64 one64 = some one64 := by decide
theorem op_plus (h : Rk w0 R sl (a :: st) w) : Calls Try.prog 40 #[.pointer (some ⟨R, 0, none⟩)] w (OpOut 3 a b w0 R sl st) := by
  have ha := h.ok a (List.mem_cons_self ..)
  have H := Lib.hid h
  have Ha := Lib.hid ha
  clear h ha
  go_enter Try.func40, Try.ntmps40
  go_wp2_with fail
  refine (take_any w0 R sl a st _ H.out).mono ?_
  rintro e w1 ⟨rfl, h1⟩
  have H1 := Lib.hid h1
  clear h1
  go_wp2_with fail
  go_ret
  exact ⟨_, _, Ha.out.2, ⟨rfl, rfl⟩, rfl, H1.out⟩
theorem op_minus (h : Rk w0 R sl (a :: st) w) : Calls Try.prog 41 #[.pointer (some ⟨R, 0, none⟩)] w (OpOut 4 a b w0 R sl st) := by
  have ha := h.ok a (List.mem_cons_self ..)
  have H := Lib.hid h
  have Ha := Lib.hid ha
  clear h ha
  go_enter Try.func41, Try.ntmps41
  go_wp2_with fail
  refine (take_any w0 R sl a st _ H.out).mono ?_
  rintro e w1 ⟨rfl, h1⟩
  have H1 := Lib.hid h1
  clear h1
  have kn : ∀ W : World, (Op.unary .neg (.complex .f64 a.1 a.2)).run Try.prog W = .ok (.complex .f64 (ng a.1) (ng a.2)) W := fun W => rfl
  go_wp2_with fail
  go_ret
  exact ⟨_, _, ⟨ng_lt Ha.out.2.1, ng_lt Ha.out.2.2⟩, ⟨rfl, rfl⟩, rfl, H1.out⟩
theorem op_conjugate (h : Rk w0 R sl (a :: st) w) : Calls Try.prog 42 #[.pointer (some ⟨R, 0, none⟩)] w (OpOut 5 a b w0 R sl st) := by
  have ha := h.ok a (List.mem_cons_self ..)
  have H := Lib.hid h
  have Ha := Lib.hid ha
  clear h ha
  go_enter Try.func42, Try.ntmps42
  go_wp2_with fail
  refine (take_any w0 R sl a st _ H.out).mono ?_
  rintro e w1 ⟨rfl, h1⟩
  have H1 := Lib.hid h1
  clear h1
  go_wp2_with fail
  refine (conj_any _ _ _).mono ?_
  rintro e w2 ⟨rfl, rfl⟩
  go_wp2_with fail
  go_ret
  exact ⟨_, _, ⟨Ha.out.2.1, ng_lt Ha.out.2.2⟩, ⟨rfl, rfl⟩, rfl, H1.out⟩
theorem op_realPart (h : Rk w0 R sl (a :: st) w) : Calls Try.prog 43 #[.pointer (some ⟨R, 0, none⟩)] w (OpOut 6 a b w0 R sl st) := by
  have ha := h.ok a (List.mem_cons_self ..)
  have H := Lib.hid h
  have Ha := Lib.hid ha
  clear h ha
  go_enter Try.func43, Try.ntmps43
  go_wp2_with fail
  refine (take_any w0 R sl a st _ H.out).mono ?_
  rintro e w1 ⟨rfl, h1⟩
  have H1 := Lib.hid h1
  clear h1
  go_wp2_with fail
  go_ret
  exact ⟨_, _, ⟨Ha.out.2.1, by decide⟩, ⟨rfl, can0⟩, rfl, H1.out⟩
theorem op_imagPart (h : Rk w0 R sl (a :: st) w) : Calls Try.prog 44 #[.pointer (some ⟨R, 0, none⟩)] w (OpOut 7 a b w0 R sl st) := by
  have ha := h.ok a (List.mem_cons_self ..)
  have H := Lib.hid h
  have Ha := Lib.hid ha
  clear h ha
  go_enter Try.func44, Try.ntmps44
  go_wp2_with fail
  refine (take_any w0 R sl a st _ H.out).mono ?_
  rintro e w1 ⟨rfl, h1⟩
  have H1 := Lib.hid h1
  clear h1
  go_wp2_with fail
  go_ret
  exact ⟨_, _, ⟨Ha.out.2.2, by decide⟩, ⟨rfl, can0⟩, rfl, H1.out⟩
theorem canN : can .f64 9221120237041090561 = none := by decide
theorem nan_any (w : World) : Calls Try.prog 63 #[] w fun e w' => e = .returned (.float .f64 9221120237041090561) ∧ w' = w := by
  have kb : ∀ W, (callFunc 72 #[.int .u64 9221120237041090561]).run Try.prog W = .ok (.value (.float .f64 9221120237041090561)) W := fun W => run_frombits 9221120237041090561 W
  go_enter Try.func63, Try.ntmps63
  go_wp2_with fail
  go_ret
  exact ⟨rfl, rfl⟩
theorem noValue_any (w : World) : Calls Try.prog 50 #[] w fun e w' => e = .returned (.complex .f64 9221120237041090561 9221120237041090561) ∧ w' = w := by
  go_enter Try.func50, Try.ntmps50
  go_wp2_with fail
  refine (nan_any _).mono ?_
  rintro e w1 ⟨rfl, rfl⟩
  go_wp2_with fail
  refine (nan_any _).mono ?_
  rintro e w1 ⟨rfl, rfl⟩
  go_wp2_with fail
  go_ret
  exact ⟨rfl, rfl⟩
theorem op_sum (h : Rk w0 R sl (b :: a :: st) w) : Calls Try.prog 45 #[.pointer (some ⟨R, 0, none⟩)] w (OpOut 8 a b w0 R sl st) := by
  have ha := h.ok a (List.mem_cons_of_mem _ (List.mem_cons_self ..))
  have hb := h.ok b (List.mem_cons_self ..)
  have H := Lib.hid h
  have Ha := Lib.hid ha
  have Hb := Lib.hid hb
  clear h ha hb
  go_enter Try.func45, Try.ntmps45
  go_wp2_with fail
  refine (two_any w0 R sl a b st _ H.out).mono ?_
  rintro e w1 ⟨rfl, h1⟩
  have H1 := Lib.hid h1
  clear h1
  obtain ⟨x, y, n, wf, hc, kr⟩ := run_cas (P := Try.prog) .add (.inl rfl) 28 a.1 a.2 b.1 b.2 w1
  have Hc := Lib.hid (And.intro wf hc)
  clear wf hc
  go_wp2_with fail
  go_ret
  exact ⟨x, y, Hc.out.1, Hc.out.2, rfl, H1.out.drewN _⟩
theorem op_difference (h : Rk w0 R sl (b :: a :: st) w) : Calls Try.prog 46 #[.pointer (some ⟨R, 0, none⟩)] w (OpOut 9 a b w0 R sl st) := by
  have ha := h.ok a (List.mem_cons_of_mem _ (List.mem_cons_self ..))
  have hb := h.ok b (List.mem_cons_self ..)
  have H := Lib.hid h
  have Ha := Lib.hid ha
  have Hb := Lib.hid hb
  clear h ha hb
  go_enter Try.func46, Try.ntmps46
  go_wp2_with fail
  refine (two_any w0 R sl a b st _ H.out).mono ?_
  rintro e w1 ⟨rfl, h1⟩
  have H1 := Lib.hid h1
  clear h1
  obtain ⟨x, y, n, wf, hc, kr⟩ := run_cas (P := Try.prog) .sub (.inr rfl) 28 a.1 a.2 b.1 b.2 w1
  have Hc := Lib.hid (And.intro wf hc)
  clear wf hc
  go_wp2_with fail
  go_ret
  exact ⟨x, y, Hc.out.1, Hc.out.2, rfl, H1.out.drewN _⟩
theorem op_product (h : Rk w0 R sl (b :: a :: st) w) : Calls Try.prog 47 #[.pointer (some ⟨R, 0, none⟩)] w (OpOut 10 a b w0 R sl st) := by
  have ha := h.ok a (List.mem_cons_of_mem _ (List.mem_cons_self ..))
  have hb := h.ok b (List.mem_cons_self ..)
  have H := Lib.hid h
  have Ha := Lib.hid ha
  have Hb := Lib.hid hb
  clear h ha hb
  go_enter Try.func47, Try.ntmps47
  go_wp2_with fail
  refine (two_any w0 R sl a b st _ H.out).mono ?_
  rintro e w1 ⟨rfl, h1⟩
  have H1 := Lib.hid h1
  clear h1
  go_wp2_with fail
  refine (product_any _ _ _ _ _).mono ?_
  rintro e w2 ⟨x, y, wf, hc, rfl, hb⟩
  have H2 := Lib.hid (H1.out.below hb)
  have Hc := Lib.hid (And.intro wf hc)
  clear wf hc hb
  go_wp2_with fail
  go_ret
  exact ⟨x, y, Hc.out.1, Hc.out.2, rfl, H2.out⟩
theorem op_quotient (h : Rk w0 R sl (b :: a :: st) w) : Calls Try.prog 48 #[.pointer (some ⟨R, 0, none⟩)] w (OpOut 11 a b w0 R sl st) := by
  have ha := h.ok a (List.mem_cons_of_mem _ (List.mem_cons_self ..))
  have hb := h.ok b (List.mem_cons_self ..)
  have H := Lib.hid h
  have Ha := Lib.hid ha
  have Hb := Lib.hid hb
  clear h ha hb
  go_enter Try.func48, Try.ntmps48
  go_wp2_with fail
  refine (two_any w0 R sl a b st _ H.out).mono ?_
  rintro e w1 ⟨rfl, h1⟩
  have H1 := Lib.hid h1
  clear h1
  have kz := fun W => run_ceq (P := Try.prog) 28 b.1 b.2 0 0 W
  cases hz : isZ b.1 b.2
  · rw [show (eqW Ieee.double b.1 0 && eqW Ieee.double b.2 0) = false from hz] at kz
    obtain ⟨x, y, n, wf, hc, kr⟩ := run_cquo64 (P := Try.prog) Ha.out.1.1 Ha.out.1.2 Hb.out.1.1 Hb.out.1.2 hz 28 w1
    have ho : opO 11 a b = quoO a.1 a.2 b.1 b.2 := by
      show (if isZ b.1 b.2 = true then ((none, none) : Option Nat × Option Nat) else quoO a.1 a.2 b.1 b.2) = _
      rw [hz]; rfl
    have Hc := Lib.hid (show (x < 18446744073709551616 ∧ y < 18446744073709551616) ∧ (can .f64 x = (opO 11 a b).1 ∧ can .f64 y = (opO 11 a b).2) from ⟨⟨lt_double wf.1, lt_double wf.2⟩, by rw [ho]; exact hc⟩)
    clear wf hc ho hz
    go_wp2_with fail
    go_ret
    exact ⟨x, y, Hc.out.1, Hc.out.2, rfl, H1.out.drewN _⟩
  · rw [show (eqW Ieee.double b.1 0 && eqW Ieee.double b.2 0) = true from hz] at kz
    have ho : opO 11 a b = (none, none) := by
      show (if isZ b.1 b.2 = true then ((none, none) : Option Nat × Option Nat) else quoO a.1 a.2 b.1 b.2) = _
      rw [hz]; rfl
    have Ho := Lib.hid ho
    clear ho hz
    go_wp2_with fail
    refine (noValue_any _).mono ?_
    rintro e w2 ⟨rfl, rfl⟩
    go_wp2_with fail
    go_ret
    exact ⟨_, _, by decide, by rw [Ho.out]; exact ⟨canN, canN⟩, rfl, H1.out⟩
theorem op_equality (h : Rk w0 R sl (b :: a :: st) w) : Calls Try.prog 49 #[.pointer (some ⟨R, 0, none⟩)] w (OpOut 12 a b w0 R sl st) := by
  have ha := h.ok a (List.mem_cons_of_mem _ (List.mem_cons_self ..))
  have hb := h.ok b (List.mem_cons_self ..)
  have H := Lib.hid h
  have Ha := Lib.hid ha
  have Hb := Lib.hid hb
  clear h ha hb
  go_enter Try.func49, Try.ntmps49
  go_wp2_with fail
  refine (two_any w0 R sl a b st _ H.out).mono ?_
  rintro e w1 ⟨rfl, h1⟩
  have H1 := Lib.hid h1
  clear h1
  have kz := fun W => run_ceq (P := Try.prog) 28 a.1 a.2 b.1 b.2 W
  have ho : opO 12 a b = (if (eqW Ieee.double a.1 b.1 && eqW Ieee.double a.2 b.2) = true then some one64 else some 0, some 0) := rfl
  cases hz : (eqW Ieee.double a.1 b.1 && eqW Ieee.double a.2 b.2)
  · rw [hz] at kz ho
    have Ho := Lib.hid ho
    clear ho hz
    go_wp2_with fail
    go_ret
    exact ⟨_, _, by decide, by rw [Ho.out]; exact ⟨can0, can0⟩, rfl, H1.out⟩
  · rw [hz] at kz ho
    have Ho := Lib.hid ho
    clear ho hz
    go_wp2_with fail
    go_ret
    exact ⟨one64, _, by decide, by rw [Ho.out]; exact ⟨can1, can0⟩, rfl, H1.out⟩
end
end Go.Proofs.Ytjkjgichneoflaa.Ex
