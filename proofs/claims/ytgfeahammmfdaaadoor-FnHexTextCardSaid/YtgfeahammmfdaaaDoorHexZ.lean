/- Hexadecimal texts: plain words, shared by model and program. -/
import Derived.Test.YtgfeahammmfdaaaDoorChecked
import Derived.Test.YtgfeahammmfdaaaDoorOnly
import Derived.Laws.BytesArg
import Derived.Laws.OwnMore
import Derived.Deep.RegionLaw
import Derived.Deep.AppendLies
import Derived.OwnWalk
import Derived.BigQuiet
namespace Go.Proofs.YtgfeahammmfdaaaDoor.Hex
open Go.ChangeShapes Go.WideShapes Go.ChangeAt Go.RowKit Go.Proofs.YtgfeahammmfdaaaDoor
set_option linter.unusedVariables false
def fig (d : Nat) : Nat := if d < 10 then 48 + d else 87 + d
def encL (l : List UInt8) : List Int := l.flatMap fun c => [(fig (c.toNat / 16) : Int), (fig (c.toNat % 16) : Int)]
def vals8 (xs : List Int) : List Value := xs.map (Value.int .u8)
theorem encL_len (l : List UInt8) : (encL l).length = 2 * l.length := by
  induction l with
  | nil => rfl
  | cons c l ih => simp only [encL, List.flatMap_cons, List.length_append, List.length_cons, List.length_nil] at ih ⊢; omega
theorem encL_snoc (l : List UInt8) (c : UInt8) : encL (l ++ [c]) = encL l ++ [(fig (c.toNat / 16) : Int), (fig (c.toNat % 16) : Int)] := by
  simp [encL, List.flatMap_append]
theorem vals8_append (a b : List Int) : vals8 (a ++ b) = vals8 a ++ vals8 b := by simp [vals8]
def encS (s : ByteArray) : ByteArray := strOfNums (encL s.data.toList)
theorem info5 : (Tryd.prog.info? 5).map (fun i => (i.zero, i.size, i.bytes)) = some (some (.int .u8 0), 1, 1) := by kernel_rfl
theorem ret_str {s t : ByteArray} {a b : Bool} (h1 : s = t) (h2 : a = b) : Ending.returned (.tuple #[.string s, .bool a]) = .returned (.tuple #[.string t, .bool b]) := by rw [h1, h2]
end Go.Proofs.YtgfeahammmfdaaaDoor.Hex
