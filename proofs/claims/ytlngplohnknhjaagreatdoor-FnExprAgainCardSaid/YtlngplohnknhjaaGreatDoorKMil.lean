/- The model's draw of a small single: finite. -/
import Derived.Test.YtlngplohnknhjaaGreatDoorKPickQ
import Derived.Test.YtlngplohnknhjaaGreatDoorPkA
import Derived.Test.YtlngplohnknhjaaGreatDoorPkB
namespace Go.Proofs.YtlngplohnknhjaaGreatDoor.Drw
open Go.ChangeShapes Go.WideShapes Go.ChangeAt Go.RowKit Go.Proofs.YtlngplohnknhjaaGreatDoor Go.Proofs.YtlngplohnknhjaaGreatDoor.Flt Go.Proofs.YtlngplohnknhjaaGreatDoor.Mth
open Ieee (single double)
set_option linter.unusedVariables false
/-! small numbers -/
theorem natRung_lt {c : Nat} (h : c ≤ 32767) : natRung c < single.infRung := by
  have := (natRung_mg h).2
  have e : single.infRung = 2139095040 := by decide
  omega
theorem natRung_ne {c : Nat} (h0 : 1 ≤ c) (h : c ≤ 32767) : natRung c ≠ 0 := fun e => by
  have h1 := (natRung_mg h).1
  rw [e, mg_zero] at h1
  have := P149_pos
  have : 0 < c * P149 := Nat.mul_pos h0 this
  omega
theorem ofInt_nat {c : Nat} (h : c ≤ 32767) : floatOfInt .f32 (c : Int) = natRung c := by
  rw [ofInt32, show decide ((c : Int) < 0) = false from decide_eq_false (by omega), Int.natAbs_natCast, word_false]; rfl
theorem ofInt_rung {n : Int} (h : n.natAbs ≤ 32767) : rung single (floatOfInt .f32 n) = natRung n.natAbs := by
  rw [ofInt32]
  have hl : min (rr single (n.natAbs * P149) 1) single.infRung ≤ single.infRung := Nat.min_le_right _ _
  exact rung_word single _ (Nat.lt_of_le_of_lt hl (inf_lt single))
theorem natRung_self {c : Nat} (h : c ≤ 32767) : rung single (natRung c) = natRung c := by
  have hl := (natRung_mg h).2
  exact pos_rung (r := natRung c) (by omega)
theorem mild_fin {n : Int} {y : Nat} (hn : n.natAbs ≤ 200) (h1 : 1 ≤ y) (h2 : y ≤ 16) : ∃ r, floatBits .quo .f32 (floatOfInt .f32 n) (floatOfInt .f32 (y : Int)) = some r ∧ r < 4294967296 ∧ rung single r < single.infRung := by
  rw [ofInt_nat (by omega)]
  have r1 := ofInt_rung (n := n) (by omega)
  have e2 := natRung_self (c := y) (by omega)
  have h := div_rr single (by decide) (x := floatOfInt .f32 n) (y := natRung y) (by rw [r1]; exact natRung_lt (by omega)) (by rw [e2]; exact natRung_lt (by omega)) (by rw [e2]; exact natRung_ne h1 (by omega))
  rw [r1, e2] at h
  have hle : quoRung single (natRung n.natAbs) (natRung y) ≤ natRung n.natAbs := by
    refine quo_le_of (natRung_ne h1 (by omega)) (t := natRung n.natAbs) ?_
    refine Nat.mul_le_mul_left _ ?_
    rw [(natRung_mg (show y ≤ 32767 by omega)).1]
    exact Nat.le_mul_of_pos_left _ h1
  have hlt := Nat.lt_of_le_of_lt hle (natRung_lt (show n.natAbs ≤ 32767 by omega))
  refine ⟨_, h, word_lt32 _ (Nat.lt_trans hlt (inf_lt single)), ?_⟩
  rw [rung_word single _ (Nat.lt_trans hlt (inf_lt single))]
  exact hlt
/-- a small number has been drawn -/
def MildF (base B : Nat) (w : World) (e : Ending) (w' : World) : Prop := ∃ r : Nat, (r < 4294967296 ∧ rung single r < single.infRung) ∧ e = .returned (.float .f32 r) ∧ Cur base w' B ∧ Only B w w'
theorem seven_q {Q : Int → Prop} {a b c d e f g : Int} (ha : Q a) (hb : Q b) (hc : Q c) (hd : Q d) (he : Q e) (hf : Q f) (hg : Q g) : ∀ i, i < 7 → ∃ v : Int, (#[Value.int .i64 a, .int .i64 b, .int .i64 c, .int .i64 d, .int .i64 e, .int .i64 f, .int .i64 g])[i]? = some (.int .i64 v) ∧ Q v
  | 0, _ => ⟨_, rfl, ha⟩ | 1, _ => ⟨_, rfl, hb⟩ | 2, _ => ⟨_, rfl, hc⟩ | 3, _ => ⟨_, rfl, hd⟩ | 4, _ => ⟨_, rfl, he⟩ | 5, _ => ⟨_, rfl, hf⟩ | 6, _ => ⟨_, rfl, hg⟩
  | n + 7, h => by omega
def Sml (m : Nat) (y : Int) : Prop := ∃ c : Nat, y = (c : Int) ∧ 1 ≤ c ∧ c ≤ m
set_option maxHeartbeats 800000 in
theorem mildF_any (base B : Nat) (w : World) (hc : Cur base w B) :
    Calls Tryz.prog 53 #[.pointer (some ⟨B, 0, none⟩)] w (MildF base B w) := by
  go_enter Tryz.func53, Tryz.ntmps53
  go_wp2_with fail
  refine (below_any base B _ _ hc (by omega)).mono ?_
  rintro e w1 ⟨r, r0, r1, rfl, hc1, ho1⟩
  have r2 := r1 (by omega)
  have Hc1 := Lib.hid hc1
  have Ho1 := Lib.hid ho1
  clear hc1 ho1 hc r1
  go_wp2_with fail
  have hlt := Hc1.out.lt
  refine (pick_q (Sml 16) base B w1.heap.size 7 _ _ _ (Hc1.out.alloc _) (by omega) (by omega) (block_new _ _) (by omega) (seven_q ⟨1, rfl, by omega, by omega⟩ ⟨1, rfl, by omega, by omega⟩ ⟨2, rfl, by omega, by omega⟩ ⟨4, rfl, by omega, by omega⟩ ⟨3, rfl, by omega, by omega⟩ ⟨10, rfl, by omega, by omega⟩ ⟨16, rfl, by omega, by omega⟩)).mono ?_
  rintro e w2 ⟨y, ⟨c, rfl, c1, c2⟩, rfl, hc2, ho2⟩
  have Hc2 := Lib.hid hc2
  have Ho2 := Lib.hid (((Ho1.out.alloc _)).trans ho2)
  clear hc2 ho2 hlt
  obtain ⟨u, k1, k2⟩ := mild_fin (n := r - 200) (y := c) (by omega) c1 c2
  have kq := fun W => run_float_arith (P := Tryz.prog) W .quo 92 .f32 _ _ _ k1
  have K2 := Lib.hid k2
  clear k1 k2
  go_wp2_with fail
  go_ret
  exact ⟨_, K2.out, rfl, Hc2.out, Ho2.out⟩
theorem wid_fin {x r : Nat} (hf : rung single x < single.infRung) (h : Wid x r) : r < 18446744073709551616 ∧ isFinD r = true := by
  have hn : isNaN single x = false := decide_eq_false (by omega)
  refine ⟨h.1, ?_⟩
  rw [h.2.2 hn, isFin_widen]
  exact decide_eq_true hf
end Go.Proofs.YtlngplohnknhjaaGreatDoor.Drw
