/- Contracts of the model's draws of truth values, and of a number of a told kind out of a list. -/
import Derived.Test.YtkjjeccgmeiniaaPick
namespace Go.Proofs.Ytkjjeccgmeiniaa.Drw
open Go.ChangeShapes Go.WideShapes Go.ChangeAt Go.RowKit Go.Proofs.Ytkjjeccgmeiniaa
set_option linter.unusedVariables false
/-- a truth value has been drawn -/
def OnceOut' (base B : Nat) (w : World) (e : Ending) (w' : World) : Prop := ∃ b : Bool, e = .returned (.bool b) ∧ Cur base w' B ∧ Only B w w'
theorem once_any' (base B : Nat) (n : Int) (w : World) (hc : Cur base w B) (hn : n ≤ 9223372036854775807) :
    Calls Try.prog 28 #[.pointer (some ⟨B, 0, none⟩), .int .i64 n] w (OnceOut' base B w) := by
  go_enter Try.func28, Try.ntmps28
  go_wp2_with fail
  refine (below_any base B _ _ hc hn).mono ?_
  rintro e w1 ⟨r, r0, r1, rfl, hc1, ho1⟩
  have Hc1 := Lib.hid hc1
  have Ho1 := Lib.hid ho1
  clear hc1 ho1 hc r1
  go_wp2_with fail
  go_ret
  exact ⟨_, rfl, Hc1.out, Ho1.out⟩
/-- some int of a kind has been picked -/
def PickQ (Q : Int → Prop) (base B : Nat) (w : World) (e : Ending) (w' : World) : Prop := ∃ r : Int, Q r ∧ e = .returned (.int .i64 r) ∧ Cur base w' B ∧ Only B w w'
theorem pick_q (Q : Int → Prop) (base B L n : Nat) (xs : Array Value) (T : TypeId) (w : World) (hc : Cur base w B) (hn : 0 < n) (hn' : n ≤ 1000000) (hL : w.heap[L]? = some (.cells xs T (0, 0))) (hne : L ≠ B)
    (hx : ∀ i, i < n → ∃ v : Int, xs[i]? = some (.int .i64 v) ∧ Q v) :
    Calls Try.prog 31 #[.pointer (some ⟨B, 0, none⟩), .slice (some ⟨L, 0, none⟩) n n] w (PickQ Q base B w) := by
  have Hx := Lib.hid hx
  have HL := Lib.hid hL
  have hlt := lt_of_block hL
  clear hx hL
  go_enter Try.func31, Try.ntmps31
  go_wp2_with fail
  refine (below_any base B _ _ hc (by omega)).mono ?_
  rintro e w1 ⟨r, r0, r1, rfl, hc1, ho1⟩
  obtain ⟨k, rfl⟩ := Int.eq_ofNat_of_zero_le r0
  have hk : k < n := by have := r1 (by omega); omega
  obtain ⟨v, hv, hq⟩ := Hx.out k hk
  have hcell : w1.cell? ⟨L, k, none⟩ = some (.int .i64 v) := by
    rw [ho1.cell (p := ⟨L, k, none⟩) hlt hne]; simp [World.cell?, HL.out, hv]
  have Hc1 := Lib.hid hc1
  have Ho1 := Lib.hid ho1
  have HQ := Lib.hid hq
  clear hc1 ho1 r1 hc hv hq
  go_wp2_with fail
  go_ret
  exact ⟨v, HQ.out, rfl, Hc1.out, Ho1.out⟩
end Go.Proofs.Ytkjjeccgmeiniaa.Drw
