/- Contracts of the model's draws of ints. -/
import Derived.Test.YtjelebcpgcanoabPick
namespace Go.Proofs.Ytjelebcpgcanoab.Drw
open Go.ChangeShapes Go.WideShapes Go.ChangeAt Go.RowKit Go.Proofs.Ytjelebcpgcanoab
set_option linter.unusedVariables false
theorem ten {a b c d e f g h i j : Int} : ∀ k, k < 10 → ∃ v : Int, (#[Value.int .i64 a, .int .i64 b, .int .i64 c, .int .i64 d, .int .i64 e, .int .i64 f, .int .i64 g, .int .i64 h, .int .i64 i, .int .i64 j])[k]? = some (.int .i64 v)
  | 0, _ => ⟨_, rfl⟩ | 1, _ => ⟨_, rfl⟩ | 2, _ => ⟨_, rfl⟩ | 3, _ => ⟨_, rfl⟩ | 4, _ => ⟨_, rfl⟩ | 5, _ => ⟨_, rfl⟩ | 6, _ => ⟨_, rfl⟩ | 7, _ => ⟨_, rfl⟩ | 8, _ => ⟨_, rfl⟩ | 9, _ => ⟨_, rfl⟩
  | n + 10, h => by omega
/-- a truth value has been drawn -/
def OnceOut (base B : Nat) (w : World) (e : Ending) (w' : World) : Prop := ∃ b : Bool, e = .returned (.bool b) ∧ Cur base w' B ∧ Only B w w'
theorem once_any (base B : Nat) (n : Int) (w : World) (hc : Cur base w B) (hn : n ≤ 9223372036854775807) :
    Calls Try.prog 24 #[.pointer (some ⟨B, 0, none⟩), .int .i64 n] w (OnceOut base B w) := by
  go_enter Try.func24, Try.ntmps24
  go_wp2_with fail
  refine (below_any base B _ _ hc hn).mono ?_
  rintro e w1 ⟨r, r0, r1, rfl, hc1, ho1⟩
  have Hc1 := Lib.hid hc1
  have Ho1 := Lib.hid ho1
  clear hc1 ho1 hc r1
  go_wp2_with fail
  go_ret
  exact ⟨_, rfl, Hc1.out, Ho1.out⟩
theorem number_any (base B : Nat) (w : World) (hc : Cur base w B) :
    Calls Try.prog 25 #[.pointer (some ⟨B, 0, none⟩)] w (PickOut base B w) := by
  go_enter Try.func25, Try.ntmps25
  go_wp2_with fail
  refine (below_any base B _ _ hc (by omega)).mono ?_
  rintro e w1 ⟨r, r0, r1, rfl, hc1, ho1⟩
  have Hc1 := Lib.hid hc1
  have Ho1 := Lib.hid ho1
  clear hc1 ho1 hc r1
  by_cases h0 : r = 0
  · subst h0
    go_wp2_with fail
    have hlt := Hc1.out.lt
    refine (pick_any base B w1.heap.size 10 _ _ _ (Hc1.out.alloc _) (by omega) (by omega) (block_new _ _) (by omega) ten).mono ?_
    rintro e w2 ⟨y, rfl, hc2, ho2⟩
    have Hc2 := Lib.hid hc2
    have Ho2 := Lib.hid ((Ho1.out.alloc _).trans ho2)
    clear hc2 ho2 hlt
    go_wp2_with fail
    go_ret
    exact ⟨_, rfl, Hc2.out, Ho2.out⟩
  have b0 : (r == 0) = false := beq_eq_false_iff_ne.2 h0
  clear h0
  by_cases h0 : r = 1
  · subst h0
    go_wp2_with fail
    refine (below_any base B _ _ Hc1.out (by omega)).mono ?_
    rintro e w2 ⟨y, y0, y1, rfl, hc2, ho2⟩
    have Hc2 := Lib.hid hc2
    have Ho2 := Lib.hid (Ho1.out.trans ho2)
    clear hc2 ho2 y1
    go_wp2_with fail
    go_ret
    exact ⟨_, rfl, Hc2.out, Ho2.out⟩
  have b1 : (r == 1) = false := beq_eq_false_iff_ne.2 h0
  clear h0
  go_wp2_with fail
  refine (below_any base B _ _ Hc1.out (by omega)).mono ?_
  rintro e w2 ⟨y, y0, y1, rfl, hc2, ho2⟩
  have Hc2 := Lib.hid hc2
  have Ho2 := Lib.hid (Ho1.out.trans ho2)
  clear hc2 ho2 y1
  go_wp2_with fail
  go_ret
  exact ⟨_, rfl, Hc2.out, Ho2.out⟩
end Go.Proofs.Ytjelebcpgcanoab.Drw
