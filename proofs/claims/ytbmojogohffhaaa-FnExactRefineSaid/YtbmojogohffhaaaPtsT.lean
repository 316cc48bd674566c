/- Lists of points of a call's own between two marks of the heap. -/
import Derived.Test.YtbmojogohffhaaaPtsO
namespace Go.Proofs.Ytbmojogohffhaaa.Pnt
open Go.ChangeShapes Go.WideShapes Go.ChangeAt Go.RowKit Go.Deep Go.Proofs.Ytbmojogohffhaaa Go.Proofs.Ytbmojogohffhaaa.Flt Go.Proofs.Ytbmojogohffhaaa.Mth
set_option linter.unusedVariables false
def OwnT (base top : Nat) (w : World) (v : Value) (n : Nat) (X : Nat → Nat) : Prop := OwnQ base w v n X ∧ ∀ g, v.ownBlock = some g → g < top
theorem OwnT.of {base : Nat} {w : World} {v : Value} {n : Nat} {X : Nat → Nat} (h : OwnQ base w v n X) : OwnT base w.heap.size w v n X := ⟨h, fun g hg => (World.ownsRow.lt h g hg).2⟩
theorem OwnT.keep {base top : Nat} {w w' : World} {v : Value} {n : Nat} {X : Nat → Nat} (h : OwnT base top w v n X) (hb : ∀ j, base ≤ j → j < top → w'.heap[j]? = w.heap[j]?) : OwnT base top w' v n X := by
  refine ⟨⟨h.1.1, ?_⟩, h.2⟩
  rcases h.1.2 with hn | ⟨g, cap, cur, rfl, hbg, hg, rest⟩
  · exact .inl hn
  · exact .inr ⟨g, cap, cur, rfl, hbg, (hb g hbg (h.2 g rfl)).trans hg, rest⟩
theorem OwnT.below {base top B : Nat} {w w' : World} {v : Value} {n : Nat} {X : Nat → Nat} (h : OwnT base top w v n X) (hB : top ≤ B) (hb : Below B w w') : OwnT base top w' v n X :=
  h.keep fun j _ hj => hb.block j (by omega)
theorem OwnT.only {base top B : Nat} {w w' : World} {v : Value} {n : Nat} {X : Nat → Nat} (h : OwnT base top w v n X) (ht : top ≤ w.heap.size) (hB : B < base ∨ top ≤ B) (hb : Only B w w') : OwnT base top w' v n X :=
  h.keep fun j hj hj2 => hb.block j (by omega) (by omega)
end Go.Proofs.Ytbmojogohffhaaa.Pnt
