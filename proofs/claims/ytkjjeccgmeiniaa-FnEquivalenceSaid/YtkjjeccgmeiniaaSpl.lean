/- Contracts of the laws' helpers on lists of spans: the size, the copy, the comparison. -/
import Derived.Test.YtkjjeccgmeiniaaSame
import Derived.Test.YtkjjeccgmeiniaaFltX
import Derived.Deep.OwnRows
import Derived.Deep.RegionWith
namespace Go.Proofs.Ytkjjeccgmeiniaa.Flt
end Go.Proofs.Ytkjjeccgmeiniaa.Flt
namespace Go.Proofs.Ytkjjeccgmeiniaa.Mth
end Go.Proofs.Ytkjjeccgmeiniaa.Mth
namespace Go.Proofs.Ytkjjeccgmeiniaa.Spn
open Go.ChangeShapes Go.WideShapes Go.ChangeAt Go.RowKit Go.Proofs.Ytkjjeccgmeiniaa Go.Proofs.Ytkjjeccgmeiniaa.Flt Go.Proofs.Ytkjjeccgmeiniaa.Mth
set_option linter.unusedVariables false
theorem sz_alloc (w : World) (o : Obj) : (w.alloc o).heap.size = w.heap.size + 1 := by
  show (w.heap.push o).size = _
  simp
/-- a span as a value -/
def pv (x y : Nat) : Value := .agg #[.float .f32 x, .float .f32 y]
/-- the cells while the copy is made: those below 'm' are there -/
def part (X : Nat → Nat) (m : Nat) : Nat → Value := fun j => if j < m then .float .f32 (X j) else .float .f32 0
theorem part_step {X : Nat → Nat} {w : World} {B T n k : Nat} (hk : k * 2 + 2 ≤ n) (h : w.rowIs B T n (part X (k * 2))) :
    ((w.setCell ⟨B, k * 2, none⟩ (.float .f32 (X (k * 2)))).setCell ⟨B, k * 2 + 1, none⟩ (.float .f32 (X (k * 2 + 1)))).rowIs B T n (part X ((k + 1) * 2)) := by
  refine ((h.set (k * 2) _).set (k * 2 + 1) _).congr fun j hj => ?_
  unfold part
  by_cases h1 : j = k * 2 + 1
  · subst h1; rw [if_pos rfl, if_pos (by omega)]
  · rw [if_neg h1]
    by_cases h0 : j = k * 2
    · subst h0; rw [if_pos rfl, if_pos (by omega)]
    · rw [if_neg h0]
      by_cases hj' : j < k * 2
      · rw [if_pos hj', if_pos (by omega)]
      · rw [if_neg hj', if_neg (by omega)]
/-- the cells of 'n' points, by twos -/
def Cells (w : World) (b off n : Nat) (X : Nat → Nat) : Prop := ∀ i, i < n → w.cell? ⟨b, off + i * 2, none⟩ = some (.float .f32 (X (i * 2))) ∧ w.cell? ⟨b, off + i * 2 + 1, none⟩ = some (.float .f32 (X (i * 2 + 1)))
theorem Cells.keep {w w' : World} {b off n B : Nat} {X : Nat → Nat} (h : Cells w b off n X) (hb : b < B) (hbel : Below B w w') : Cells w' b off n X := fun i hi => by
  obtain ⟨h0, h1⟩ := h i hi
  refine ⟨?_, ?_⟩
  · rw [hbel.cell (by exact hb)]; exact h0
  · rw [hbel.cell (by exact hb)]; exact h1
theorem Cells.drewN {w : World} {b off n : Nat} {X : Nat → Nat} (h : Cells w b off n X) (m : Nat) : Cells (w.drewN m) b off n X := h
theorem cells_of_row {w : World} {B T n : Nat} {X : Nat → Nat} (h : w.rowIs B T (2 * n) (part X (n * 2))) : Cells w B 0 n X := fun i hi => by
  have e : ∀ j, j < n * 2 → w.cell? ⟨B, j, none⟩ = some (.float .f32 (X j)) := fun j hj => by
    rw [h.cell (by omega)]; unfold part; rw [if_pos hj]
  rw [Nat.zero_add]
  exact ⟨e _ (by omega), e _ (by omega)⟩
theorem same_wid {x r s : Nat} (wx : (Lit.float .f32 x).wf = true) (hr : Wid x r) (hs' : Wid x s) (w : World) :
    Calls Try.prog 22 #[.float .f64 r, .float .f64 s] w fun e w' => e = .returned (.bool true) ∧ w' = w := by
  refine (sameFloat_any r s w hr.1 hs'.1).mono ?_
  rintro e w' ⟨rfl, rfl⟩
  rw [sameW_wid wx wx hr hs', sameW_refl]
  exact ⟨rfl, rfl⟩
def Wf (n : Nat) (X : Nat → Nat) : Prop := ∀ i, i < n → (Lit.float .f32 (X (i * 2))).wf = true ∧ (Lit.float .f32 (X (i * 2 + 1))).wf = true
end Go.Proofs.Ytkjjeccgmeiniaa.Spn
