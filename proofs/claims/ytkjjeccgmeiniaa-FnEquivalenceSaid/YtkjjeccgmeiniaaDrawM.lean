/- Contracts of the model's draws of signs and of DrawMakeSingle. -/
import Derived.Test.YtkjjeccgmeiniaaDrawI
namespace Go.Proofs.Ytkjjeccgmeiniaa.Drw
open Go.ChangeShapes Go.WideShapes Go.ChangeAt Go.RowKit Go.Proofs.Ytkjjeccgmeiniaa
set_option linter.unusedVariables false
/-- some text of a kind has been picked -/
def PickT (Q : ByteArray → Prop) (base B : Nat) (w : World) (e : Ending) (w' : World) : Prop := ∃ r : ByteArray, Q r ∧ e = .returned (.string r) ∧ Cur base w' B ∧ Only B w w'
theorem pick_t (Q : ByteArray → Prop) (base B L n : Nat) (xs : Array Value) (T : TypeId) (w : World) (hc : Cur base w B) (hn : 0 < n) (hn' : n ≤ 1000000) (hL : w.heap[L]? = some (.cells xs T (0, 0))) (hne : L ≠ B)
    (hx : ∀ i, i < n → ∃ v : ByteArray, xs[i]? = some (.string v) ∧ Q v) :
    Calls Try.prog 41 #[.pointer (some ⟨B, 0, none⟩), .slice (some ⟨L, 0, none⟩) n n] w (PickT Q base B w) := by
  have Hx := Lib.hid hx
  have HL := Lib.hid hL
  have hlt := lt_of_block hL
  clear hx hL
  go_enter Try.func41, Try.ntmps41
  go_wp2_with fail
  refine (below_any base B _ _ hc (by omega)).mono ?_
  rintro e w1 ⟨r, r0, r1, rfl, hc1, ho1⟩
  obtain ⟨k, rfl⟩ := Int.eq_ofNat_of_zero_le r0
  have hk : k < n := by have := r1 (by omega); omega
  obtain ⟨v, hv, hq⟩ := Hx.out k hk
  have hcell : w1.cell? ⟨L, k, none⟩ = some (.string v) := by
    rw [ho1.cell (p := ⟨L, k, none⟩) hlt hne]; simp [World.cell?, HL.out, hv]
  have Hc1 := Lib.hid hc1
  have Ho1 := Lib.hid ho1
  have HQ := Lib.hid hq
  clear hc1 ho1 r1 hc hv hq
  go_wp2_with fail
  go_ret
  exact ⟨v, HQ.out, rfl, Hc1.out, Ho1.out⟩
theorem signs_q : ∀ i, i < 10 → ∃ v : ByteArray, (#[Value.string ⟨#[43]⟩, .string ⟨#[45]⟩, .string ⟨#[43]⟩, .string ⟨#[45]⟩, .string ⟨#[43]⟩, .string ⟨#[45]⟩, .string ⟨#[]⟩, .string ⟨#[42]⟩, .string ⟨#[43, 43]⟩, .string ⟨#[32]⟩])[i]? = some (.string v) ∧ True := by
  intro i hi
  obtain rfl | rfl | rfl | rfl | rfl | rfl | rfl | rfl | rfl | rfl : i = 0 ∨ i = 1 ∨ i = 2 ∨ i = 3 ∨ i = 4 ∨ i = 5 ∨ i = 6 ∨ i = 7 ∨ i = 8 ∨ i = 9 := by omega
  all_goals exact ⟨_, rfl, trivial⟩
theorem sign_any (base B : Nat) (w : World) (hc : Cur base w B) :
    Calls Try.prog 45 #[.pointer (some ⟨B, 0, none⟩)] w (PickT (fun _ => True) base B w) := by
  have hlt := hc.lt
  go_enter Try.func45, Try.ntmps45
  go_wp2_with fail
  refine (pick_t (fun _ => True) base B w.heap.size 10 _ _ _ (hc.alloc _) (by omega) (by omega) (block_new _ _) (by omega) signs_q).mono ?_
  rintro e w2 ⟨y, hq, rfl, hc2, ho2⟩
  have Hc2 := Lib.hid hc2
  have Ho2 := Lib.hid (((Only.refl B w).alloc _).trans ho2)
  clear hc2 ho2 hlt hq hc
  go_wp2_with fail
  go_ret
  exact ⟨_, trivial, rfl, Hc2.out, Ho2.out⟩
theorem nine_q {a b : Int} (ha : I64 a) (hb : I64 b) : ∀ i, i < 9 → ∃ v : Int, (#[Value.int .i64 0, .int .i64 1, .int .i64 3, .int .i64 255, .int .i64 16777215, .int .i64 16777216, .int .i64 (-1), .int .i64 a, .int .i64 b])[i]? = some (.int .i64 v) ∧ I64 v := by
  intro i hi
  obtain rfl | rfl | rfl | rfl | rfl | rfl | rfl | rfl | rfl : i = 0 ∨ i = 1 ∨ i = 2 ∨ i = 3 ∨ i = 4 ∨ i = 5 ∨ i = 6 ∨ i = 7 ∨ i = 8 := by omega
  all_goals first | exact ⟨_, rfl, ha⟩ | exact ⟨_, rfl, hb⟩ | exact ⟨_, rfl, by unfold I64; omega⟩
theorem ten_r {a b : Int} (ha : I64 a) (hb : I64 b) : ∀ i, i < 10 → ∃ v : Int, (#[Value.int .i64 0, .int .i64 (-149), .int .i64 (-150), .int .i64 127, .int .i64 128, .int .i64 104, .int .i64 105, .int .i64 (-148), .int .i64 a, .int .i64 b])[i]? = some (.int .i64 v) ∧ I64 v := by
  intro i hi
  obtain rfl | rfl | rfl | rfl | rfl | rfl | rfl | rfl | rfl | rfl : i = 0 ∨ i = 1 ∨ i = 2 ∨ i = 3 ∨ i = 4 ∨ i = 5 ∨ i = 6 ∨ i = 7 ∨ i = 8 ∨ i = 9 := by omega
  all_goals first | exact ⟨_, rfl, ha⟩ | exact ⟨_, rfl, hb⟩ | exact ⟨_, rfl, by unfold I64; omega⟩
/-- a sign, a mantissa and an exponent have been drawn -/
def MakeDrawn (w : World) (e : Ending) (w' : World) : Prop := ∃ (s : ByteArray) (m k : Int), I64 m ∧ I64 k ∧ e = .returned (.tuple #[.string s, .int .i64 m, .int .i64 k]) ∧ Below w.heap.size w w'
end Go.Proofs.Ytkjjeccgmeiniaa.Drw
