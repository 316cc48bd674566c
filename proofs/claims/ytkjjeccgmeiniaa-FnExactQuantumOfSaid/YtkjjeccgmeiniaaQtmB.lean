/- A unit in memory. -/
import Derived.Test.YtkjjeccgmeiniaaQtmV
import Derived.Handy
namespace Go.Proofs.Ytkjjeccgmeiniaa.Qtm
open Go.ChangeShapes Go.WideShapes Go.ChangeAt Go.RowKit Go.Proofs.Ytkjjeccgmeiniaa
set_option linter.unusedVariables false
/-- block 'R' holds a unit -/
def Ub (R : Nat) (s : ByteArray) (m e : Int) (w : World) : Prop := w.cell? ⟨R, 0, none⟩ = some (.string s) ∧ w.cell? ⟨R, 1, none⟩ = some (.int .i64 m) ∧ w.cell? ⟨R, 2, none⟩ = some (.int .i64 e)
theorem Ub.lt {R : Nat} {s : ByteArray} {m e : Int} {w : World} (h : Ub R s m e w) : R < w.heap.size := World.block_lt_of_cell? w _ h.1
theorem Ub.keep {R : Nat} {s : ByteArray} {m e : Int} {w w' : World} (h : Ub R s m e w) (hb : Below w.heap.size w w') : Ub R s m e w' := by
  have h1 := h.lt
  exact ⟨(hb.cell (by exact h1)).trans h.1, (hb.cell (by exact h1)).trans h.2.1, (hb.cell (by exact h1)).trans h.2.2⟩
theorem Ub.keepB {B R : Nat} {s : ByteArray} {m e : Int} {w w' : World} (h : Ub R s m e w) (hb : Below B w w') (hR : R < B) : Ub R s m e w' :=
  ⟨(hb.cell (by exact hR)).trans h.1, (hb.cell (by exact hR)).trans h.2.1, (hb.cell (by exact hR)).trans h.2.2⟩
theorem Ub.alloc {R : Nat} {s : ByteArray} {m e : Int} {w : World} (h : Ub R s m e w) (o : Obj) : Ub R s m e (w.alloc o) := h.keep ((Below.refl _ _).alloc (Nat.le_refl _) _)
theorem Ub.drewN {R : Nat} {s : ByteArray} {m e : Int} {w : World} (h : Ub R s m e w) (n : Nat) : Ub R s m e (w.drewN n) := h
theorem Ub.new (s : ByteArray) (m e : Int) (w : World) (T : TypeId) : Ub w.heap.size s m e (w.alloc (.cells #[.string s, .int .i64 m, .int .i64 e] T)) := by
  have hb : (w.alloc (.cells #[.string s, .int .i64 m, .int .i64 e] T)).heap[w.heap.size]? = some (.cells #[.string s, .int .i64 m, .int .i64 e] T (0, 0)) := by
    show (w.heap.push _)[w.heap.size]? = _
    simp
  refine ⟨?_, ?_, ?_⟩ <;> (unfold World.cell?; rw [hb]; rfl)
/-- memory below a mark as it was, and a unit in a block -/
def UB (R : Nat) (s : ByteArray) (m e : Int) (w w' : World) : Prop := Below w.heap.size w w' ∧ Ub R s m e w'
theorem UB.next {R : Nat} {s : ByteArray} {m e : Int} {w w1 w2 : World} (h : UB R s m e w w1) (hb : Below w1.heap.size w1 w2) : UB R s m e w w2 := ⟨h.1.trans (hb.mono h.1.size), h.2.keep hb⟩
theorem UB.alloc {R : Nat} {s : ByteArray} {m e : Int} {w w1 : World} (h : UB R s m e w w1) (o : Obj) : UB R s m e w (w1.alloc o) := h.next ((Below.refl _ _).alloc (Nat.le_refl _) _)
theorem UB.drewN {R : Nat} {s : ByteArray} {m e : Int} {w w1 : World} (h : UB R s m e w w1) (n : Nat) : UB R s m e w (w1.drewN n) := ⟨below_drewN h.1 n, h.2⟩
theorem UB.new (s : ByteArray) (m e : Int) (w : World) (T : TypeId) : UB w.heap.size s m e w (w.alloc (.cells #[.string s, .int .i64 m, .int .i64 e] T)) := ⟨(Below.refl _ _).alloc (Nat.le_refl _) _, Ub.new s m e w T⟩
end Go.Proofs.Ytkjjeccgmeiniaa.Qtm
