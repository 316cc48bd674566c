/- The tied cards' common part: the table of powers of ten, and both FormatInts. -/
import Derived.Test.YtkjjeccgmeiniaaDoorCards
import Derived.Test.YtkjjeccgmeiniaaDoorTie
import Derived.Test.YtkjjeccgmeiniaaDoorShelf
import Derived.Test.YtkjjeccgmeiniaaDoorFmtInt
import Derived.WalkKit
import Derived.ProofKit
import Derived.Handy
import Derived.Lay
import Derived.SevenTiedAt
import Derived.Lib.LaidTab
import Derived.Lib.AppendIntMem
namespace Go.Proofs.YtkjjeccgmeiniaaDoor.Door
open Go.ChangeShapes Go.WideShapes Go.ChangeAt Go.RowKit Go.Sort Go.Lib Go.Proofs.YtkjjeccgmeiniaaDoor
set_option linter.unusedVariables false
theorem gTab : Tryd.prog.globalNamed "internal/strconv.uint64pow10" = some 6 := by kernel_rfl
theorem gTabType : (Tryd.prog.globals[6]?).map (·.type) = some 167 := by kernel_rfl
theorem cellsTab : Tryd.prog.cellsOf 167 = 20 := by kernel_rfl
theorem cellsWord : Tryd.prog.cellsOf 133 = 1 := by kernel_rfl
/-- the table of powers of ten stands -/
def Tab (w : World) : Prop := Lib.TabIs Tryd.prog w "internal/strconv.uint64pow10" .u64 Lib.pow10Tab
theorem table_of {laid : List (String × DataW Unit)} (noHandle : (laid.filter fun x => x.2.handleName?.isSome) = []) (listed : (laid.filter fun x => x.1 == "internal/strconv.uint64pow10") = [("internal/strconv.uint64pow10", Lib.tabData .u64 Lib.pow10Tab)])
    {W : World} (h : laidMetH Tryd.prog laid W) : Tab W := by
  unfold laidMetH at h
  rw [noHandle] at h
  have h2 := laidMet.filter (fun x => x.1 == "internal/strconv.uint64pow10") h
  rw [listed] at h2
  exact Lib.tabIs_of_head (rest := []) gTab gTabType Tryd.underlying167 Tryd.underlying133 cellsWord cellsTab h2
theorem below_grown (w : World) (k : Nat) (os : Array Obj) : Below w.heap.size w (Sort.grow (w.drewN k) os) :=
  ⟨rfl, rfl, rfl, by simp [Sort.grow, World.drewN], fun j hj => by simp [Sort.grow, World.drewN, Array.getElem?_append, hj]⟩
theorem impl_any (n : Int) (h0 : -9223372036854775808 ≤ n) (h1 : n ≤ 9223372036854775807) (w : World) (htab : Lib.TabIs Tryd.prog w "internal/strconv.uint64pow10" .u64 Lib.pow10Tab) :
    Calls Tryd.prog 40 #[.int .i64 n] w (Fmi.Out n w) := by
  go_enter Tryd.func40, Tryd.ntmps40
  go_wp2_with fail
  refine (Tryd.strconv_Itoa n h0 h1 _ htab).mono ?_
  rintro e w2 ⟨rfl, k, os, rfl⟩
  have Hb := Lib.hid (below_grown w k os)
  obtain ⟨l, hl⟩ : ∃ l : ByteArray, l = ⟨(Lib.itoa n).toArray⟩ := ⟨_, rfl⟩
  rw [← hl]
  have Hl := Lib.hid hl
  clear hl
  go_wp2_with fail
  go_ret
  exact ⟨ret_string Hl.out, Hb.out⟩
theorem spec_any (n : Int) (h0 : -9223372036854775808 ≤ n) (h1 : n ≤ 9223372036854775807) (w : World) :
    Calls Tryd.prog 54 #[.int .i64 n] w (Fmi.Out n w) := by
  by_cases hp : 0 < n
  · obtain ⟨u, rfl⟩ : ∃ u : Nat, n = (u : Int) := ⟨n.toNat, by omega⟩
    exact Fmi.pos u w (by omega) (by omega)
  · by_cases hz : n = 0
    · rw [hz]; exact Fmi.zero w
    · obtain ⟨u, rfl⟩ : ∃ u : Nat, n = -(u : Int) := ⟨(-n).toNat, by omega⟩
      exact Fmi.neg u w (by omega) (by omega)
theorem tab_below {w w' : World} (h : Lib.TabIs Tryd.prog w "internal/strconv.uint64pow10" .u64 Lib.pow10Tab) (hb : Below w.heap.size w w') : Lib.TabIs Tryd.prog w' "internal/strconv.uint64pow10" .u64 Lib.pow10Tab :=
  Lib.tabBelow_of_tabIs h w' hb
end Go.Proofs.YtkjjeccgmeiniaaDoor.Door
