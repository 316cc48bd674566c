/- What a hexadecimal figure stands for: the program's strings.IndexByte over the sixteen figures. -/
import Derived.Test.YtgfeahammmfdaaaDoorHexZ
import Derived.Laws.Externs
namespace Go.Proofs.YtgfeahammmfdaaaDoor.Hex
open Go.ChangeShapes Go.WideShapes Go.ChangeAt Go.RowKit Go.Proofs.YtgfeahammmfdaaaDoor
set_option linter.unusedVariables false
def valOf (c : Nat) : Int := if 48 ≤ c ∧ c ≤ 57 then (c : Int) - 48 else if 97 ≤ c ∧ c ≤ 102 then (c : Int) - 87 else -1
theorem valOf_lt (c : Nat) : -1 ≤ valOf c ∧ valOf c < 16 := by unfold valOf; split <;> (try split) <;> omega
theorem firstIdx_digits (c : Nat) (hc : c ≤ 255) : firstIdx { data := #[48, 49, 50, 51, 52, 53, 54, 55, 56, 57, 97, 98, 99, 100, 101, 102] } ((c : Int).toNat.toUInt8) = valOf c := by
  have : ∀ c : Fin 256, firstIdx { data := #[48, 49, 50, 51, 52, 53, 54, 55, 56, 57, 97, 98, 99, 100, 101, 102] } (((c.val : Nat) : Int).toNat.toUInt8) = valOf c.val := by decide +kernel
  exact this ⟨c, by omega⟩
set_option maxRecDepth 20000 in
theorem lite_any (c : Nat) (hc : c ≤ 255) (w : World) :
    Calls Tryd.prog 69 #[.string { data := #[48, 49, 50, 51, 52, 53, 54, 55, 56, 57, 97, 98, 99, 100, 101, 102] }, .int .u8 (c : Int)] w fun e w' => e = .returned (.int .i64 (valOf c)) ∧ w' = w := by
  have h := firstIdx_digits c hc
  go_enter Tryd.func69, Tryd.ntmps69
  go_wp2
  rw [run_callFunc_extern Tryd.func89 (by kernel_rfl) (by kernel_rfl) (by kernel_rfl) (e := Extern.BytealgIndexByte.indexByte) (by kernel_rfl), run_indexByte_string, h]
  simp only [Result.andThen]
  rw [Oper.upon_value]
  go_wp2
  go_ret
  exact ⟨rfl, rfl⟩
set_option maxRecDepth 20000 in
theorem index_any (c : Nat) (hc : c ≤ 255) (w : World) :
    Calls Tryd.prog 48 #[.string { data := #[48, 49, 50, 51, 52, 53, 54, 55, 56, 57, 97, 98, 99, 100, 101, 102] }, .int .u8 (c : Int)] w fun e w' => e = .returned (.int .i64 (valOf c)) ∧ w' = w := by
  go_enter Tryd.func48, Tryd.ntmps48
  go_wp2_with fail
  refine (lite_any c hc _).mono ?_
  rintro e w' ⟨rfl, rfl⟩
  go_wp2_with fail
  go_ret
  exact ⟨rfl, rfl⟩
end Go.Proofs.YtgfeahammmfdaaaDoor.Hex
