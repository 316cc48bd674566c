/- The tied cards' common part: the table of powers of ten, and both FormatInts. -/
import Derived.Test.YtlngplohnknhjaaGreatDoorCards
import Derived.Test.YtlngplohnknhjaaGreatDoorTie
import Derived.Test.YtlngplohnknhjaaGreatDoorKShelf
import Derived.Test.YtlngplohnknhjaaGreatDoorPkA
import Derived.WalkKit
import Derived.ProofKit
import Derived.Handy
import Derived.Lay
import Derived.SevenTiedAt
import Derived.Lib.LaidTab
import Derived.Lib.AppendIntMem
namespace Go.Proofs.YtlngplohnknhjaaGreatDoor.Door
open Go.ChangeShapes Go.WideShapes Go.ChangeAt Go.RowKit Go.Sort Go.Lib Go.Proofs.YtlngplohnknhjaaGreatDoor
set_option linter.unusedVariables false
theorem gTab : Tryz.prog.globalNamed "internal/strconv.uint64pow10" = some 1 := by kernel_rfl
theorem gTabType : (Tryz.prog.globals[1]?).map (·.type) = some 150 := by kernel_rfl
theorem cellsTab : Tryz.prog.cellsOf 150 = 20 := by kernel_rfl
theorem cellsWord : Tryz.prog.cellsOf 139 = 1 := by kernel_rfl
/-- the table of powers of ten stands -/
def Tab (w : World) : Prop := Lib.TabIs Tryz.prog w "internal/strconv.uint64pow10" .u64 Lib.pow10Tab
theorem table_of {laid : List (String × DataW Unit)} (noHandle : (laid.filter fun x => x.2.handleName?.isSome) = []) (listed : (laid.filter fun x => x.1 == "internal/strconv.uint64pow10") = [("internal/strconv.uint64pow10", Lib.tabData .u64 Lib.pow10Tab)])
    {W : World} (h : laidMetH Tryz.prog laid W) : Tab W := by
  unfold laidMetH at h
  rw [noHandle] at h
  have h2 := laidMet.filter (fun x => x.1 == "internal/strconv.uint64pow10") h
  rw [listed] at h2
  exact Lib.tabIs_of_head (rest := []) gTab gTabType Tryz.underlying150 Tryz.underlying139 cellsWord cellsTab h2
theorem below_grown (w : World) (k : Nat) (os : Array Obj) : Below w.heap.size w (Sort.grow (w.drewN k) os) :=
  ⟨rfl, rfl, rfl, by simp [Sort.grow, World.drewN], fun j hj => by simp [Sort.grow, World.drewN, Array.getElem?_append, hj]⟩
theorem impl_any (n : Int) (h0 : -9223372036854775808 ≤ n) (h1 : n ≤ 9223372036854775807) (w : World) (htab : Lib.TabIs Tryz.prog w "internal/strconv.uint64pow10" .u64 Lib.pow10Tab) :
    Calls Tryz.prog 36 #[.int .i64 n] w (Fmi.Out n w) := by
  go_enter Tryz.func36, Tryz.ntmps36
  go_wp2_with fail
  refine (Tryz.strconv_Itoa n h0 h1 _ htab).mono ?_
  rintro e w2 ⟨rfl, k, os, rfl⟩
  have Hb := Lib.hid (below_grown w k os)
  obtain ⟨l, hl⟩ : ∃ l : ByteArray, l = ⟨(Lib.itoa n).toArray⟩ := ⟨_, rfl⟩
  rw [← hl]
  have Hl := Lib.hid hl
  clear hl
  go_wp2_with fail
  go_ret
  exact ⟨ret_string Hl.out, Hb.out⟩
theorem spec_any (n : Int) (h0 : -9223372036854775808 ≤ n) (h1 : n ≤ 9223372036854775807) (w : World) :
    Calls Tryz.prog 153 #[.int .i64 n] w (Fmi.Out n w) := by
  by_cases hp : 0 < n
  · obtain ⟨u, rfl⟩ : ∃ u : Nat, n = (u : Int) := ⟨n.toNat, by omega⟩
    exact Fmi.pos u w (by omega) (by omega)
  · by_cases hz : n = 0
    · rw [hz]; exact Fmi.zero w
    · obtain ⟨u, rfl⟩ : ∃ u : Nat, n = -(u : Int) := ⟨(-n).toNat, by omega⟩
      exact Fmi.neg u w (by omega) (by omega)
theorem tab_below {w w' : World} (h : Lib.TabIs Tryz.prog w "internal/strconv.uint64pow10" .u64 Lib.pow10Tab) (hb : Below w.heap.size w w') : Lib.TabIs Tryz.prog w' "internal/strconv.uint64pow10" .u64 Lib.pow10Tab :=
  Lib.tabBelow_of_tabIs h w' hb
end Go.Proofs.YtlngplohnknhjaaGreatDoor.Door
