/- Blocks of memory behind draws, allocs and stores; the cells of two spans. -/
import Derived.Test.YtjmmcpeknaaaiaaSpnO
import Derived.Deep.RegionWith
import Derived.Deep.RegionHeld
namespace Go.Proofs.Ytjmmcpeknaaaiaa.Spn
open Go.ChangeShapes Go.WideShapes Go.ChangeAt Go.RowKit Go.Deep Go.Proofs.Ytjmmcpeknaaaiaa Go.Proofs.Ytjmmcpeknaaaiaa.Flt Go.Proofs.Ytjmmcpeknaaaiaa.Mth
set_option linter.unusedVariables false
/-- a block that holds just these cells -/
def Blk (w : World) (R : Nat) (vs : Array Value) (T : TypeId) : Prop := w.heap[R]? = some (.cells vs T (0, 0))
theorem Blk.cell {w : World} {R : Nat} {vs : Array Value} {T : TypeId} (h : Blk w R vs T) (j : Nat) {v : Value} (hj : vs[j]? = some v) : w.cell? ⟨R, j, none⟩ = some v := by
  simp [World.cell?, show w.heap[R]? = _ from h, hj]
theorem Blk.free {w : World} {R : Nat} {vs : Array Value} {T : TypeId} (h : Blk w R vs T) (j : Nat) : w.frozen? ⟨R, j, none⟩ = false := by
  simp [World.frozen?, show w.heap[R]? = _ from h]
theorem Blk.lt {w : World} {R : Nat} {vs : Array Value} {T : TypeId} (h : Blk w R vs T) : R < w.heap.size := by
  have h' : w.heap[R]? = _ := h
  exact (Array.getElem?_eq_some_iff.1 h').1
theorem Blk.drew {w : World} {R : Nat} {vs : Array Value} {T : TypeId} (h : Blk w R vs T) : Blk w.drew R vs T := h
theorem Blk.drewN {w : World} {R : Nat} {vs : Array Value} {T : TypeId} (h : Blk w R vs T) (n : Nat) : Blk (w.drewN n) R vs T := h
theorem Blk.alloc {w : World} {R : Nat} {vs : Array Value} {T : TypeId} (h : Blk w R vs T) (o : Obj) : Blk (w.alloc o) R vs T := by
  have hl := h.lt
  show (w.heap.push o)[R]? = _
  rw [Array.getElem?_push_lt hl, ← Array.getElem?_eq_getElem hl]
  exact h
theorem Blk.new {w : World} {R : Nat} {vs : Array Value} {T : TypeId} (hn : R = w.heap.size) : Blk (w.alloc (.cells vs T)) R vs T := by
  subst hn
  show (w.heap.push _)[w.heap.size]? = _
  simp
theorem Blk.keep {w w' : World} {R : Nat} {vs : Array Value} {T : TypeId} (h : Blk w R vs T) (hb : Below w.heap.size w w') : Blk w' R vs T := (hb.block R h.lt).trans h
theorem Blk.thenKeep {p : Prop} {w w' : World} {R : Nat} {vs : Array Value} {T : TypeId} (h : Blk w R vs T) (hb : Below w.heap.size w w') (k : Blk w' R vs T → p) : p := k (h.keep hb)
theorem Blk.keepB {B : Nat} {w w' : World} {R : Nat} {vs : Array Value} {T : TypeId} (h : Blk w R vs T) (hb : Below B w w') (hR : R < B) : Blk w' R vs T := (hb.block R hR).trans h
theorem Blk.set {w : World} {R : Nat} {vs : Array Value} {T : TypeId} (h : Blk w R vs T) (o : Nat) (u : Value) : Blk (w.setCell ⟨R, o, none⟩ u) R (vs.setIfInBounds o u) T := block_setCell h u
theorem Blk.other {w : World} {R : Nat} {vs : Array Value} {T : TypeId} (h : Blk w R vs T) {a : Addr} (hne : R ≠ a.block) (u : Value) : Blk (w.setCell a u) R vs T := (Below.heap_setCell w a u R hne).trans h
theorem cell_alloc {w : World} {a : Addr} {v : Value} (o : Obj) (h : w.cell? a = some v) : (w.alloc o).cell? a = some v := by
  rw [World.cell?_alloc_lt _ _ _ (World.block_lt_of_cell? w a h)]; exact h
theorem cell_set {w : World} {a b : Addr} {v u : Value} (h : w.cell? a = some v) (hn : b.block ≠ a.block) : (w.setCell b u).cell? a = some v := by
  rw [World.cell?_setCell_other w b a u (fun e => hn (by rw [e]))]; exact h
/-- two cells written anew -/
theorem Blk.two {w : World} {A x y : Nat} {T : TypeId} (h : Blk w A #[.float .f32 x, .float .f32 y] T) (x' y' : Nat) :
    ((w.setCell ⟨A, 0, none⟩ (.float .f32 x')).setCell ⟨A, 1, none⟩ (.float .f32 y')).cell? ⟨A, 0, none⟩ = some (.float .f32 x') ∧
    ((w.setCell ⟨A, 0, none⟩ (.float .f32 x')).setCell ⟨A, 1, none⟩ (.float .f32 y')).cell? ⟨A, 1, none⟩ = some (.float .f32 y') ∧
    Blk ((w.setCell ⟨A, 0, none⟩ (.float .f32 x')).setCell ⟨A, 1, none⟩ (.float .f32 y')) A #[.float .f32 x', .float .f32 y'] T := by
  have h2 : Blk ((w.setCell ⟨A, 0, none⟩ (.float .f32 x')).setCell ⟨A, 1, none⟩ (.float .f32 y')) A #[.float .f32 x', .float .f32 y'] T := (h.set 0 (.float .f32 x')).set 1 (.float .f32 y')
  exact ⟨h2.cell 0 rfl, h2.cell 1 rfl, h2⟩
/-- the cells of two spans in two blocks -/
def Par (r s : Nat) (a b c d : Nat) (w : World) : Prop :=
  w.cell? ⟨r, 0, none⟩ = some (.float .f32 a) ∧ w.cell? ⟨r, 1, none⟩ = some (.float .f32 b) ∧ w.cell? ⟨s, 0, none⟩ = some (.float .f32 c) ∧ w.cell? ⟨s, 1, none⟩ = some (.float .f32 d)
theorem Par.out {r s a b c d : Nat} {w : World} (h : Par r s a b c d w) : w.cell? ⟨r, 0, none⟩ = some (.float .f32 a) ∧ w.cell? ⟨r, 1, none⟩ = some (.float .f32 b) ∧ w.cell? ⟨s, 0, none⟩ = some (.float .f32 c) ∧ w.cell? ⟨s, 1, none⟩ = some (.float .f32 d) := h
theorem Par.alloc {r s a b c d : Nat} {w : World} (h : Par r s a b c d w) (o : Obj) : Par r s a b c d (w.alloc o) := ⟨cell_alloc o h.1, cell_alloc o h.2.1, cell_alloc o h.2.2.1, cell_alloc o h.2.2.2⟩
theorem Par.drew {r s a b c d : Nat} {w : World} (h : Par r s a b c d w) : Par r s a b c d w.drew := h
theorem Par.keep {r s a b c d : Nat} {w w' : World} (h : Par r s a b c d w) (hb : Below w.heap.size w w') : Par r s a b c d w' := by
  have h1 := World.block_lt_of_cell? w _ h.1
  have h2 := World.block_lt_of_cell? w _ h.2.2.1
  exact ⟨(hb.cell (by exact h1)).trans h.1, (hb.cell (by exact h1)).trans h.2.1, (hb.cell (by exact h2)).trans h.2.2.1, (hb.cell (by exact h2)).trans h.2.2.2⟩
theorem Par.setCell {r s a b c d : Nat} {w : World} (h : Par r s a b c d w) {p : Addr} (h0 : p.block ≠ r) (h1 : p.block ≠ s) (u : Value) : Par r s a b c d (w.setCell p u) := ⟨cell_set h.1 h0, cell_set h.2.1 h0, cell_set h.2.2.1 h1, cell_set h.2.2.2 h1⟩
end Go.Proofs.Ytjmmcpeknaaaiaa.Spn
