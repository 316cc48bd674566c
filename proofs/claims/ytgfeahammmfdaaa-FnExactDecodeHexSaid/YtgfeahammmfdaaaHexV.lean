/- What a hexadecimal figure stands for: the model's l01Value, the program's strings.IndexByte over the sixteen figures. -/
import Derived.Test.YtgfeahammmfdaaaHexT
import Derived.Laws.Externs
namespace Go.Proofs.Ytgfeahammmfdaaa.Hex
open Go.ChangeShapes Go.WideShapes Go.ChangeAt Go.RowKit Go.Proofs.Ytgfeahammmfdaaa
set_option linter.unusedVariables false
def valOf (c : Nat) : Int := if 48 ≤ c ∧ c ≤ 57 then (c : Int) - 48 else if 97 ≤ c ∧ c ≤ 102 then (c : Int) - 87 else -1
theorem valOf_lt (c : Nat) : -1 ≤ valOf c ∧ valOf c < 16 := by unfold valOf; split <;> (try split) <;> omega
theorem value_any (c : Nat) (hc : c ≤ 255) (w : World) :
    Calls Try.prog 14 #[.int .u8 (c : Int)] w fun e w' => e = .returned (.int .i64 (valOf c)) ∧ w' = w := by
  have Hv := Lib.hid (show valOf c = if 48 ≤ c ∧ c ≤ 57 then (c : Int) - 48 else if 97 ≤ c ∧ c ≤ 102 then (c : Int) - 87 else -1 from rfl)
  by_cases h1 : 48 ≤ c
  · by_cases h2 : c ≤ 57
    · go_enter Try.func14, Try.ntmps14
      go_wp2
      go_ret
      exact ⟨ret_int (by rw [Hv.out, if_pos ⟨h1, h2⟩]), rfl⟩
    · by_cases h3 : 97 ≤ c
      · by_cases h4 : c ≤ 102
        · go_enter Try.func14, Try.ntmps14
          go_wp2
          go_ret
          exact ⟨ret_int (by rw [Hv.out, if_neg (by omega), if_pos ⟨h3, h4⟩]; omega), rfl⟩
        · go_enter Try.func14, Try.ntmps14
          go_wp2
          go_ret
          exact ⟨ret_int (by rw [Hv.out, if_neg (by omega), if_neg (by omega)]), rfl⟩
      · go_enter Try.func14, Try.ntmps14
        go_wp2
        go_ret
        exact ⟨ret_int (by rw [Hv.out, if_neg (by omega), if_neg (by omega)]), rfl⟩
  · go_enter Try.func14, Try.ntmps14
    go_wp2
    go_ret
    exact ⟨ret_int (by rw [Hv.out, if_neg (by omega), if_neg (by omega)]), rfl⟩
theorem firstIdx_digits (c : Nat) (hc : c ≤ 255) : firstIdx { data := #[48, 49, 50, 51, 52, 53, 54, 55, 56, 57, 97, 98, 99, 100, 101, 102] } ((c : Int).toNat.toUInt8) = valOf c := by
  have : ∀ c : Fin 256, firstIdx { data := #[48, 49, 50, 51, 52, 53, 54, 55, 56, 57, 97, 98, 99, 100, 101, 102] } (((c.val : Nat) : Int).toNat.toUInt8) = valOf c.val := by decide +kernel
  exact this ⟨c, by omega⟩
theorem lite_any (c : Nat) (hc : c ≤ 255) (w : World) :
    Calls Try.prog 19 #[.string { data := #[48, 49, 50, 51, 52, 53, 54, 55, 56, 57, 97, 98, 99, 100, 101, 102] }, .int .u8 (c : Int)] w fun e w' => e = .returned (.int .i64 (valOf c)) ∧ w' = w := by
  have h := firstIdx_digits c hc
  go_enter Try.func19, Try.ntmps19
  go_wp2
  rw [run_callFunc_extern Try.func22 (by kernel_rfl) (by kernel_rfl) (by kernel_rfl) (e := Extern.BytealgIndexByte.indexByte) (by kernel_rfl), run_indexByte_string, h]
  simp only [Result.andThen]
  rw [Oper.upon_value]
  go_wp2
  go_ret
  exact ⟨rfl, rfl⟩
theorem index_any (c : Nat) (hc : c ≤ 255) (w : World) :
    Calls Try.prog 15 #[.string { data := #[48, 49, 50, 51, 52, 53, 54, 55, 56, 57, 97, 98, 99, 100, 101, 102] }, .int .u8 (c : Int)] w fun e w' => e = .returned (.int .i64 (valOf c)) ∧ w' = w := by
  go_enter Try.func15, Try.ntmps15
  go_wp2_with fail
  refine (lite_any c hc _).mono ?_
  rintro e w' ⟨rfl, rfl⟩
  go_wp2_with fail
  go_ret
  exact ⟨rfl, rfl⟩
end Go.Proofs.Ytgfeahammmfdaaa.Hex
