/- A list of spans among the arguments: its cells. And the contracts of Spl at any such list. -/
import Derived.Test.YtkjjeccgmeiniaaSpl
import Derived.Test.YtkjjeccgmeiniaaOnly
import Derived.Deep.Slices
import Derived.Deep.Fields
import Derived.ChangeSame
namespace Go.Proofs.Ytkjjeccgmeiniaa.Flt
end Go.Proofs.Ytkjjeccgmeiniaa.Flt
namespace Go.Proofs.Ytkjjeccgmeiniaa.Mth
end Go.Proofs.Ytkjjeccgmeiniaa.Mth
namespace Go.Proofs.Ytkjjeccgmeiniaa.Spn
open Go.ChangeShapes Go.WideShapes Go.ChangeAt Go.RowKit Go.Deep Go.Proofs.Ytkjjeccgmeiniaa Go.Proofs.Ytkjjeccgmeiniaa.Flt Go.Proofs.Ytkjjeccgmeiniaa.Mth
set_option linter.unusedVariables false
theorem trod_f32 {H : Type} {enc : TypeId × Value → H} {P : Program} {w : World} {base : Nat} {spare : Nat → Bool} {held : Bool} {t : TypeId} {n : Nat} {v : Value} {y : DataW H × List MemPlace} (ht : P.underlying t = some (.float .f32))
    (h : DataW.trod enc P w base spare held n t [v] = some y) : ∃ b, v = .float .f32 b ∧ (Lit.float .f32 b).wf = true := by
  cases n with
  | zero => simp [DataW.trod] at h
  | succ n =>
    cases v <;> simp only [DataW.trod, ht] at h <;> try cases h
    rename_i k b
    by_cases hw : k = .f32 ∧ (Lit.float .f32 b).wf = true
    · obtain ⟨rfl, hw⟩ := hw
      exact ⟨b, rfl, hw⟩
    · cases k
      · simp_all
      · simp_all
/-- the same, with the datum -/
theorem trod_f32d {H : Type} {enc : TypeId × Value → H} {P : Program} {w : World} {base : Nat} {spare : Nat → Bool} {held : Bool} {t : TypeId} {n : Nat} {v : Value} {y : DataW H × List MemPlace} (ht : P.underlying t = some (.float .f32))
    (h : DataW.trod enc P w base spare held n t [v] = some y) : ∃ b, v = .float .f32 b ∧ y = (.lit (.float .f32 b), []) ∧ (Lit.float .f32 b).wf = true := by
  obtain ⟨b, rfl, hw⟩ := trod_f32 ht h
  refine ⟨b, rfl, ?_, hw⟩
  cases n with
  | zero => simp [DataW.trod] at h
  | succ n =>
    simp [DataW.trod, ht, hw] at h
    exact h.symm
def bitsAt (w : World) (b off k : Nat) : Nat := match w.cell? ⟨b, off + k, none⟩ with
  | some (.float .f32 x) => x
  | _ => 0
theorem bitsAt_eq {w : World} {b off k x : Nat} (h : w.cell? ⟨b, off + k, none⟩ = some (.float .f32 x)) : bitsAt w b off k = x := by
  unfold bitsAt; rw [h]
/-- a list of 'len' points behind a slice's address -/
def Lst (w : World) (a : Option Addr) (len : Nat) (X : Nat → Nat) : Prop := Wf len X ∧ (len = 0 ∨ ∃ b off, a = some ⟨b, off, none⟩ ∧ b < w.heap.size ∧ Cells w b off len X)
theorem Lst.keep {w w' : World} {a : Option Addr} {len : Nat} {X : Nat → Nat} (h : Lst w a len X) (hb : Below w.heap.size w w') : Lst w' a len X := by
  obtain ⟨h1, h2⟩ := h
  refine ⟨h1, ?_⟩
  rcases h2 with h2 | ⟨b, off, rfl, hlt, hc⟩
  · exact .inl h2
  · exact .inr ⟨b, off, rfl, Nat.lt_of_lt_of_le hlt hb.size, hc.keep hlt hb⟩
theorem Lst.cells {w : World} {a : Option Addr} {len : Nat} {X : Nat → Nat} (h : Lst w a len X) (h0 : 0 < len) : ∃ b off, a = some ⟨b, off, none⟩ ∧ b < w.heap.size ∧ Cells w b off len X := by
  rcases h.2 with e | e
  · omega
  · exact e
theorem cells_f32 : Try.prog.cellsOf 31 = 1 := by kernel_rfl
end Go.Proofs.Ytkjjeccgmeiniaa.Spn
