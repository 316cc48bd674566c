/- Contracts of the model's draw out of a list, and of the laws' look at the size. -/
import Derived.Test.YtkjjeccgmeiniaaDraw
namespace Go.Proofs.Ytkjjeccgmeiniaa.Drw
open Go.ChangeShapes Go.WideShapes Go.ChangeAt Go.RowKit Go.Proofs.Ytkjjeccgmeiniaa
set_option linter.unusedVariables false
/-- some int has been picked -/
def PickOut (base B : Nat) (w : World) (e : Ending) (w' : World) : Prop := ∃ r : Int, e = .returned (.int .i64 r) ∧ Cur base w' B ∧ Only B w w'
theorem pick_any (base B L n : Nat) (xs : Array Value) (T : TypeId) (w : World) (hc : Cur base w B) (hn : 0 < n) (hn' : n ≤ 1000000) (hL : w.heap[L]? = some (.cells xs T (0, 0))) (hne : L ≠ B)
    (hx : ∀ i, i < n → ∃ v : Int, xs[i]? = some (.int .i64 v)) :
    Calls Try.prog 31 #[.pointer (some ⟨B, 0, none⟩), .slice (some ⟨L, 0, none⟩) n n] w (PickOut base B w) := by
  have Hx := Lib.hid hx
  have HL := Lib.hid hL
  have hlt := lt_of_block hL
  clear hx hL
  go_enter Try.func31, Try.ntmps31
  go_wp2_with fail
  refine (below_any base B _ _ hc (by omega)).mono ?_
  rintro e w1 ⟨r, r0, r1, rfl, hc1, ho1⟩
  obtain ⟨k, rfl⟩ := Int.eq_ofNat_of_zero_le r0
  have hk : k < n := by have := r1 (by omega); omega
  obtain ⟨v, hv⟩ := Hx.out k hk
  have hcell : w1.cell? ⟨L, k, none⟩ = some (.int .i64 v) := by
    rw [ho1.cell (p := ⟨L, k, none⟩) hlt hne]; simp [World.cell?, HL.out, hv]
  have Hc1 := Lib.hid hc1
  have Ho1 := Lib.hid ho1
  clear hc1 ho1 r1 hc hv
  go_wp2_with fail
  go_ret
  exact ⟨v, rfl, Hc1.out, Ho1.out⟩
theorem big_no (a : Option Addr) (len cap : Nat) (w : World) (h : (len : Int) ≤ 1048576) :
    Calls Try.prog 9 #[.slice a len cap] w fun e w' => e = .returned (.bool false) ∧ w' = w := by
  go_enter Try.func9, Try.ntmps9
  go_wp2
  go_ret
  exact ⟨ret_bool (decide_eq_false (by omega)), rfl⟩
theorem big_yes (a : Option Addr) (len cap : Nat) (w : World) (h : ¬ (len : Int) ≤ 1048576) :
    Calls Try.prog 9 #[.slice a len cap] w fun e w' => e = .returned (.bool true) ∧ w' = w := by
  go_enter Try.func9, Try.ntmps9
  go_wp2
  go_ret
  exact ⟨rfl, rfl⟩
end Go.Proofs.Ytkjjeccgmeiniaa.Drw
