/- A text's bytes, and its index instruction. -/
import Derived.Test.YtjkhbjdhfklnaabDoorChecked
import Derived.WalkKit
import Derived.WalkLawsBesides
import Derived.WalkMore
import Derived.WalkSpells
import Derived.Lib.Hide
import Derived.Below
import Derived.Handy
import Derived.Deep.QuietTactic
import Derived.BigQuiet
namespace Go.Proofs.YtjkhbjdhfklnaabDoor.Dec
open Go.ChangeShapes Go.WideShapes Go.ChangeAt Go.RowKit Go.Proofs.YtjkhbjdhfklnaabDoor
set_option linter.unusedVariables false
def byt (s : ByteArray) (i : Nat) : Nat := (s.data.toList.getD i 0).toNat
theorem idx_run (s : ByteArray) (i : Nat) (h : i < s.size) (x : Int) (hx : x = (i : Int)) :
    ∃ c : Nat, c = byt s i ∧ c ≤ 255 ∧ ∀ w, (Instr.index 9 (.string s) (.int .i64 x)).run Tryd.prog w = .ok (.int .u8 (c : Int)) w := by
  subst hx
  have hlt2 : (i : Int) < s.size := by omega
  obtain ⟨b, hb⟩ : ∃ b : UInt8, b = s[i] := ⟨_, rfl⟩
  refine ⟨b.toNat, ?_, by have := b.toNat_lt; omega, fun w => ?_⟩
  · unfold byt
    rw [List.getD_eq_getElem?_getD, Array.getElem?_toList, Array.getElem?_eq_getElem (by simpa using h)]
    rw [hb]; rfl
  · rw [run_index_string _ _ _ _ _ Tryd.underlying9, dif_pos ⟨by omega, hlt2⟩, hb]
    rfl
end Go.Proofs.YtjkhbjdhfklnaabDoor.Dec
