/- Contracts of the model's draws of signs and of DrawMakeSingle. -/
import Derived.Test.YtgfeahammmfdaaaDoorDrawI
namespace Go.Proofs.YtgfeahammmfdaaaDoor.Drw
open Go.ChangeShapes Go.WideShapes Go.ChangeAt Go.RowKit Go.Proofs.YtgfeahammmfdaaaDoor
set_option linter.unusedVariables false
/-- some text of a kind has been picked -/
def PickT (Q : ByteArray → Prop) (base B : Nat) (w : World) (e : Ending) (w' : World) : Prop := ∃ r : ByteArray, Q r ∧ e = .returned (.string r) ∧ Cur base w' B ∧ Only B w w'
theorem pick_t (Q : ByteArray → Prop) (base B L n : Nat) (xs : Array Value) (T : TypeId) (w : World) (hc : Cur base w B) (hn : 0 < n) (hn' : n ≤ 1000000) (hL : w.heap[L]? = some (.cells xs T (0, 0))) (hne : L ≠ B)
    (hx : ∀ i, i < n → ∃ v : ByteArray, xs[i]? = some (.string v) ∧ Q v) :
    Calls Tryd.prog 53 #[.pointer (some ⟨B, 0, none⟩), .slice (some ⟨L, 0, none⟩) n n] w (PickT Q base B w) := by
  have Hx := Lib.hid hx
  have HL := Lib.hid hL
  have hlt := lt_of_block hL
  clear hx hL
  go_enter Tryd.func53, Tryd.ntmps53
  go_wp2_with fail
  refine (below_any base B _ _ hc (by omega)).mono ?_
  rintro e w1 ⟨r, r0, r1, rfl, hc1, ho1⟩
  obtain ⟨k, rfl⟩ := Int.eq_ofNat_of_zero_le r0
  have hk : k < n := by have := r1 (by omega); omega
  obtain ⟨v, hv, hq⟩ := Hx.out k hk
  have hcell : w1.cell? ⟨L, k, none⟩ = some (.string v) := by
    rw [ho1.cell (p := ⟨L, k, none⟩) hlt hne]; simp [World.cell?, HL.out, hv]
  have Hc1 := Lib.hid hc1
  have Ho1 := Lib.hid ho1
  have HQ := Lib.hid hq
  clear hc1 ho1 r1 hc hv hq
  go_wp2_with fail
  go_ret
  exact ⟨v, HQ.out, rfl, Hc1.out, Ho1.out⟩
theorem signs_q : ∀ i, i < 10 → ∃ v : ByteArray, (#[Value.string ⟨#[43]⟩, .string ⟨#[45]⟩, .string ⟨#[43]⟩, .string ⟨#[45]⟩, .string ⟨#[43]⟩, .string ⟨#[45]⟩, .string ⟨#[]⟩, .string ⟨#[42]⟩, .string ⟨#[43, 43]⟩, .string ⟨#[32]⟩])[i]? = some (.string v) ∧ True := by
  intro i hi
  obtain rfl | rfl | rfl | rfl | rfl | rfl | rfl | rfl | rfl | rfl : i = 0 ∨ i = 1 ∨ i = 2 ∨ i = 3 ∨ i = 4 ∨ i = 5 ∨ i = 6 ∨ i = 7 ∨ i = 8 ∨ i = 9 := by omega
  all_goals exact ⟨_, rfl, trivial⟩
theorem sign_any (base B : Nat) (w : World) (hc : Cur base w B) :
    Calls Tryd.prog 41 #[.pointer (some ⟨B, 0, none⟩)] w (PickT (fun _ => True) base B w) := by
  have hlt := hc.lt
  go_enter Tryd.func41, Tryd.ntmps41
  go_wp2_with fail
  refine (pick_t (fun _ => True) base B w.heap.size 10 _ _ _ (hc.alloc _) (by omega) (by omega) (block_new _ _) (by omega) signs_q).mono ?_
  rintro e w2 ⟨y, hq, rfl, hc2, ho2⟩
  have Hc2 := Lib.hid hc2
  have Ho2 := Lib.hid (((Only.refl B w).alloc _).trans ho2)
  clear hc2 ho2 hlt hq hc
  go_wp2_with fail
  go_ret
  exact ⟨_, trivial, rfl, Hc2.out, Ho2.out⟩
theorem nine_q {a b : Int} (ha : I64 a) (hb : I64 b) : ∀ i, i < 9 → ∃ v : Int, (#[Value.int .i64 0, .int .i64 1, .int .i64 3, .int .i64 255, .int .i64 16777215, .int .i64 16777216, .int .i64 (-1), .int .i64 a, .int .i64 b])[i]? = some (.int .i64 v) ∧ I64 v := by
  intro i hi
  obtain rfl | rfl | rfl | rfl | rfl | rfl | rfl | rfl | rfl : i = 0 ∨ i = 1 ∨ i = 2 ∨ i = 3 ∨ i = 4 ∨ i = 5 ∨ i = 6 ∨ i = 7 ∨ i = 8 := by omega
  all_goals first | exact ⟨_, rfl, ha⟩ | exact ⟨_, rfl, hb⟩ | exact ⟨_, rfl, by unfold I64; omega⟩
theorem ten_r {a b : Int} (ha : I64 a) (hb : I64 b) : ∀ i, i < 10 → ∃ v : Int, (#[Value.int .i64 0, .int .i64 (-149), .int .i64 (-150), .int .i64 127, .int .i64 128, .int .i64 104, .int .i64 105, .int .i64 (-148), .int .i64 a, .int .i64 b])[i]? = some (.int .i64 v) ∧ I64 v := by
  intro i hi
  obtain rfl | rfl | rfl | rfl | rfl | rfl | rfl | rfl | rfl | rfl : i = 0 ∨ i = 1 ∨ i = 2 ∨ i = 3 ∨ i = 4 ∨ i = 5 ∨ i = 6 ∨ i = 7 ∨ i = 8 ∨ i = 9 := by omega
  all_goals first | exact ⟨_, rfl, ha⟩ | exact ⟨_, rfl, hb⟩ | exact ⟨_, rfl, by unfold I64; omega⟩
/-- a sign, a mantissa and an exponent have been drawn -/
def MakeDrawn (w : World) (e : Ending) (w' : World) : Prop := ∃ (s : ByteArray) (m k : Int), I64 m ∧ I64 k ∧ e = .returned (.tuple #[.string s, .int .i64 m, .int .i64 k]) ∧ Below w.heap.size w w'
set_option maxHeartbeats 800000 in
theorem drawMake_any (a : Option Addr) (len cap : Nat) (zs : List Int) (w : World) (hr : IsRow .u8 w a len cap zs) :
    Calls Tryd.prog 15 #[.slice a len cap] w (MakeDrawn w) := by
  go_enter Tryd.func15, Tryd.ntmps15
  go_wp2_with fail
  refine (new_any a len cap zs _ hr).mono ?_
  rintro e w1 ⟨rfl, hc, hb⟩
  have Hb := Lib.hid hb
  clear hb hr
  go_wp2_with fail
  refine (sign_any _ _ _ hc).mono ?_
  rintro e w2 ⟨s, _, rfl, hc2, ho2⟩
  have Hc2 := Lib.hid hc2
  have Ho2 := Lib.hid ho2
  clear hc hc2 ho2
  go_wp2_with fail
  refine (below_any _ _ _ _ Hc2.out (by omega)).mono ?_
  rintro e w3 ⟨y, y0, y1, rfl, hc3, ho3⟩
  have Hc3 := Lib.hid hc3
  have Ho3 := Lib.hid (Ho2.out.trans ho3)
  have y2 := y1 (by omega)
  clear hc3 ho3 y1
  go_wp2_with fail
  refine (below_any _ _ _ _ Hc3.out (by omega)).mono ?_
  rintro e w4 ⟨z, z0, z1, rfl, hc4, ho4⟩
  have Hc4 := Lib.hid hc4
  have Ho4 := Lib.hid (Ho3.out.trans ho4)
  have z2 := z1 (by omega)
  clear hc4 ho4 z1
  go_wp2_with fail
  have hlt := Hc4.out.lt
  refine (pick_q I64 _ _ w4.heap.size 9 _ _ _ (Hc4.out.alloc _) (by omega) (by omega) (block_new _ _) (by omega) (nine_q ⟨by omega, by omega⟩ ⟨by omega, by omega⟩)).mono ?_
  rintro e w5 ⟨m, hm, rfl, hc5, ho5⟩
  have Hc5 := Lib.hid hc5
  have Ho5 := Lib.hid ((Ho4.out.alloc _).trans ho5)
  have Hm := Lib.hid hm
  clear hc5 ho5 hm hlt
  go_wp2_with fail
  refine (below_any _ _ _ _ Hc5.out (by omega)).mono ?_
  rintro e w6 ⟨y', y0', y1', rfl, hc6, ho6⟩
  have Hc6 := Lib.hid hc6
  have Ho6 := Lib.hid (Ho5.out.trans ho6)
  have y2' := y1' (by omega)
  clear hc6 ho6 y1'
  go_wp2_with fail
  refine (below_any _ _ _ _ Hc6.out (by omega)).mono ?_
  rintro e w7 ⟨z', z0', z1', rfl, hc7, ho7⟩
  have Hc7 := Lib.hid hc7
  have Ho7 := Lib.hid (Ho6.out.trans ho7)
  have z2' := z1' (by omega)
  clear hc7 ho7 z1'
  go_wp2_with fail
  have hlt := Hc7.out.lt
  refine (pick_q I64 _ _ w7.heap.size 10 _ _ _ (Hc7.out.alloc _) (by omega) (by omega) (block_new _ _) (by omega) (ten_r ⟨by omega, by omega⟩ ⟨by omega, by omega⟩)).mono ?_
  rintro e w8 ⟨k, hk, rfl, hc8, ho8⟩
  have Ho8 := Lib.hid ((Ho7.out.alloc _).trans ho8)
  have Hk := Lib.hid hk
  clear hc8 ho8 hk hlt
  go_wp2_with fail
  go_ret3
  exact ⟨s, m, k, Hm.out, Hk.out, rfl, Hb.out.trans (Ho8.out.below (Nat.le_refl _) Hb.out.size)⟩
end Go.Proofs.YtgfeahammmfdaaaDoor.Drw
