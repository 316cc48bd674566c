/- Contracts of the model's draws of ints that fit an int, and of DrawFormatInt. -/
import Derived.Test.YtgfeahammmfdaaaDoorPickQ
namespace Go.Proofs.YtgfeahammmfdaaaDoor.Drw
open Go.ChangeShapes Go.WideShapes Go.ChangeAt Go.RowKit Go.Proofs.YtgfeahammmfdaaaDoor
set_option linter.unusedVariables false
/-- it fits an int -/
def I64 (r : Int) : Prop := -9223372036854775808 ≤ r ∧ r ≤ 9223372036854775807
theorem wrap_I64 (r : Int) : I64 (wrap64 r) := by unfold I64 wrap64; omega
theorem ten_q : ∀ i, i < 10 → ∃ v : Int, (#[Value.int .i64 (-1), .int .i64 0, .int .i64 127, .int .i64 128, .int .i64 16383, .int .i64 16384, .int .i64 1000000000, .int .i64 1000000001, .int .i64 9223372036854775807, .int .i64 (-9223372036854775808)])[i]? = some (.int .i64 v) ∧ I64 v := by
  intro i hi
  unfold I64
  obtain rfl | rfl | rfl | rfl | rfl | rfl | rfl | rfl | rfl | rfl : i = 0 ∨ i = 1 ∨ i = 2 ∨ i = 3 ∨ i = 4 ∨ i = 5 ∨ i = 6 ∨ i = 7 ∨ i = 8 ∨ i = 9 := by omega
  all_goals exact ⟨_, rfl, by omega, by omega⟩
theorem number_q (base B : Nat) (w : World) (hc : Cur base w B) :
    Calls Tryd.prog 38 #[.pointer (some ⟨B, 0, none⟩)] w (PickQ I64 base B w) := by
  go_enter Tryd.func38, Tryd.ntmps38
  go_wp2_with fail
  refine (below_any base B _ _ hc (by omega)).mono ?_
  rintro e w1 ⟨r, r0, r1, rfl, hc1, ho1⟩
  have Hc1 := Lib.hid hc1
  have Ho1 := Lib.hid ho1
  clear hc1 ho1 hc r1
  by_cases h0 : r = 0
  · subst h0
    go_wp2_with fail
    have hlt := Hc1.out.lt
    refine (pick_q I64 base B w1.heap.size 10 _ _ _ (Hc1.out.alloc _) (by omega) (by omega) (block_new _ _) (by omega) ten_q).mono ?_
    rintro e w2 ⟨y, hq, rfl, hc2, ho2⟩
    have Hc2 := Lib.hid hc2
    have Ho2 := Lib.hid ((Ho1.out.alloc _).trans ho2)
    have Hq := Lib.hid hq
    clear hc2 ho2 hlt hq
    go_wp2_with fail
    go_ret
    exact ⟨_, Hq.out, rfl, Hc2.out, Ho2.out⟩
  have b0 : (r == 0) = false := beq_eq_false_iff_ne.2 h0
  clear h0
  by_cases h0 : r = 1
  · subst h0
    go_wp2_with fail
    refine (below_any base B _ _ Hc1.out (by omega)).mono ?_
    rintro e w2 ⟨y, y0, y1, rfl, hc2, ho2⟩
    have Hc2 := Lib.hid hc2
    have Ho2 := Lib.hid (Ho1.out.trans ho2)
    have y2 := y1 (by omega)
    clear hc2 ho2 y1
    go_wp2_with fail
    go_ret
    exact ⟨_, ⟨by omega, by omega⟩, rfl, Hc2.out, Ho2.out⟩
  have b1 : (r == 1) = false := beq_eq_false_iff_ne.2 h0
  clear h0
  go_wp2_with fail
  refine (below_any base B _ _ Hc1.out (by omega)).mono ?_
  rintro e w2 ⟨y, y0, y1, rfl, hc2, ho2⟩
  have Hc2 := Lib.hid hc2
  have Ho2 := Lib.hid (Ho1.out.trans ho2)
  have y2 := y1 (by omega)
  clear hc2 ho2 y1
  go_wp2_with fail
  go_ret
  exact ⟨_, ⟨by omega, by omega⟩, rfl, Hc2.out, Ho2.out⟩
/-- an int has been drawn out of the code -/
def IntDrawn (w : World) (e : Ending) (w' : World) : Prop := ∃ r : Int, I64 r ∧ e = .returned (.int .i64 r) ∧ Below w.heap.size w w'
theorem drawInt_any (a : Option Addr) (len cap : Nat) (zs : List Int) (w : World) (hr : IsRow .u8 w a len cap zs) :
    Calls Tryd.prog 12 #[.slice a len cap] w (IntDrawn w) := by
  go_enter Tryd.func12, Tryd.ntmps12
  go_wp2_with fail
  refine (new_any a len cap zs _ hr).mono ?_
  rintro e w1 ⟨rfl, hc, hb⟩
  have Hb := Lib.hid hb
  clear hb hr
  go_wp2_with fail
  refine (once_any' _ _ _ _ hc (by omega)).mono ?_
  rintro e w2 ⟨b, rfl, hc2, ho2⟩
  have Hc2 := Lib.hid hc2
  have Ho2 := Lib.hid ho2
  clear hc hc2 ho2
  cases b with
  | true =>
    go_wp2_with fail
    refine (below_any _ _ _ _ Hc2.out (by omega)).mono ?_
    rintro e w3 ⟨y, y0, y1, rfl, hc3, ho3⟩
    have Hc3 := Lib.hid hc3
    have Ho3 := Lib.hid (Ho2.out.trans ho3)
    have y2 := y1 (by omega)
    clear hc3 ho3 y1
    go_wp2_with fail
    refine (below_any _ _ _ _ Hc3.out (by omega)).mono ?_
    rintro e w4 ⟨z, z0, z1, rfl, hc4, ho4⟩
    have Ho4 := Lib.hid (Ho3.out.trans ho4)
    have z2 := z1 (by omega)
    clear hc4 ho4 z1
    go_wp2_with fail
    go_ret
    exact ⟨_, wrap_I64 _, rfl, Hb.out.trans (Ho4.out.below (Nat.le_refl _) Hb.out.size)⟩
  | false =>
    go_wp2_with fail
    refine (number_q _ _ _ Hc2.out).mono ?_
    rintro e w3 ⟨y, hq, rfl, hc3, ho3⟩
    have Ho3 := Lib.hid (Ho2.out.trans ho3)
    have Hq := Lib.hid hq
    clear hc3 ho3 hq
    go_wp2_with fail
    go_ret
    exact ⟨_, Hq.out, rfl, Hb.out.trans (Ho3.out.below (Nat.le_refl _) Hb.out.size)⟩
end Go.Proofs.YtgfeahammmfdaaaDoor.Drw
