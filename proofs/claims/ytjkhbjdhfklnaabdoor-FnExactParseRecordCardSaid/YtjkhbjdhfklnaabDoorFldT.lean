/- The table of white space out of a row's list; and that no line has too many fields. -/
import Derived.Test.YtjkhbjdhfklnaabDoorFldI
import Derived.LaidSub
namespace Go.Proofs.YtjkhbjdhfklnaabDoor.Fld
open Go.ChangeShapes Go.WideShapes Go.ChangeAt Go.RowKit Go.Proofs.YtjkhbjdhfklnaabDoor
theorem gAsc : Tryd.prog.globalNamed "strings.asciiSpace" = some 0 := by kernel_rfl
theorem gAscType : (Tryd.prog.globals[0]?).map (·.type) = some 52 := by kernel_rfl
theorem cellsAsc : Tryd.prog.cellsOf 52 = 256 := by kernel_rfl
theorem cellsByte : Tryd.prog.cellsOf 5 = 1 := by kernel_rfl
theorem asc_of {laid : List (String × DataW Unit)} (noHandle : (laid.filter fun x => x.2.handleName?.isSome) = []) (listed : (laid.filter fun x => x.1 == "strings.asciiSpace") = [("strings.asciiSpace", Lib.tabData .u8 Lib.asciiSpaceTab)])
    {W : World} (h : laidMetH Tryd.prog laid W) : Asc W := by
  unfold laidMetH at h
  rw [noHandle] at h
  have h2 := laidMet.filter (fun x => x.1 == "strings.asciiSpace") h
  rw [listed] at h2
  exact Lib.tabIs_of_head (rest := []) gAsc gAscType Tryd.underlying52 Tryd.underlying5 cellsByte cellsAsc h2
theorem res_small (s : ByteArray) : (resF s).length ≤ 24 := by
  by_cases h : s.size ≤ 600 ∧ prs s s.size ∧ (fldS s).length ≤ 24
  · rw [(okF_yes h.1 h.2.1 h.2.2).2]; exact h.2.2
  · rw [(okF_no h).2]; exact Nat.zero_le _
end Go.Proofs.YtjkhbjdhfklnaabDoor.Fld
