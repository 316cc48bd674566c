/- A region that draws its order and whose callees make new memory but write into none that was there: one walk in the text's order. No program stands here. -/
import Derived.WalkKit
import Derived.WalkLawsBesides
import Derived.Below
import Derived.BigQuiet
import Derived.Test.YtjkhbjdhfklnaabDoorOnly
namespace Go.Proofs.YtjkhbjdhfklnaabDoor
open Go.RowKit
structure Old (W : World) where
  x : World
  h : Below W.heap.size W x
instance (W : World) : Nonempty (Old W) := ⟨⟨W, Below.refl _ _⟩⟩
theorem wp_region_old {P : Program} {id : Nat} {Q : Exit → Act → World → Prop} {a : Act} {W : World} {l : List Oper} (hm : P.follows .mixedOrders = true) (hB : Region.lexB .any l.toArray = true)
    (h : wpQuiet P l.toArray (fun w' => ∃ n : Old W, w' = n.x) (fun a' => ∀ w', (∃ n : Old W, w' = n.x) → Q .normal a' w') l a) : (Code.region id l.toArray true).wp P Q a W :=
  wp_region_quiet (C := fun w' => ∃ n : Old W, w' = n.x) hm hB ⟨⟨_, (Below.refl W.heap.size W).drew⟩, rfl⟩ (by simpa using h)
theorem old_call {P : Program} {f : FuncId} {args : Array Value} {W : World} {n : Old W} {v : Value}
    (h : Calls P f args n.x fun e w' => e = .returned v ∧ Below n.x.heap.size n.x w') : Calls P f args n.x fun e w'' => e = .returned v ∧ ∃ m : Old W, w'' = m.x :=
  h.mono fun _ w1 ⟨he, hb⟩ => ⟨he, ⟨w1, n.h.trans (hb.mono n.h.size)⟩, rfl⟩
theorem old_same {P : Program} {f : FuncId} {args : Array Value} {W : World} {n : Old W} {v : Value}
    (h : Calls P f args n.x fun e w' => e = .returned v ∧ w' = n.x) : Calls P f args n.x fun e w'' => e = .returned v ∧ ∃ m : Old W, w'' = m.x :=
  h.mono fun _ _ ⟨he, hb⟩ => ⟨he, n, hb⟩
theorem old_cell {W : World} (n : Old W) {p : Addr} (hp : p.block < W.heap.size) : n.x.cell? p = W.cell? p := n.h.cell hp
end Go.Proofs.YtjkhbjdhfklnaabDoor
