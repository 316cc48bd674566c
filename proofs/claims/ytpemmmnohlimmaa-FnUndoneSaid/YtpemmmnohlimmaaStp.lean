/- Steps: what a valid one is; the program's kindOf and StepOk. -/
import Derived.Test.YtpemmmnohlimmaaCpxB
import Derived.Deep.RegionWith
namespace Go.Proofs.Ytpemmmnohlimmaa.Stp
open Go.ChangeShapes Go.WideShapes Go.ChangeAt Go.RowKit Go.Proofs.Ytpemmmnohlimmaa Go.Proofs.Ytpemmmnohlimmaa.Flt Go.Proofs.Ytpemmmnohlimmaa.Mth Go.Proofs.Ytpemmmnohlimmaa.Cpx Go.Proofs.Ytpemmmnohlimmaa.Trn
set_option linter.unusedVariables false
/-- a step -/
structure Stp where
  k : Int
  x : Nat
  y : Nat
  q : Int
  p : Int
/-- its cells -/
def Stp.c (s : Stp) : Array Value := #[.int .i64 s.k, .complex .f64 s.x s.y, .int .i64 s.q, .int .i64 s.p]
def isZ (x y : Nat) : Bool := eqW Ieee.double x 0 && eqW Ieee.double y 0
def noT (q p : Int) : Bool := decide (q = 0) && decide (p = 0)
/-- valid -/
def Stp.ok (s : Stp) : Bool :=
  if s.k = 1 ∨ s.k = 2 ∨ s.k = 3 then isFinD s.x && isFinD s.y && noT s.q s.p
  else if s.k = 4 then isFinD s.x && isFinD s.y && !isZ s.x s.y && noT s.q s.p
  else if s.k = 5 ∨ s.k = 6 then isZ s.x s.y && noT s.q s.p
  else if s.k = 7 then isZ s.x s.y && okT s.q s.p
  else false
/-- the value of a kind -/
def kv (k : Int) : Value :=
  if k = 1 then .iface 67 (.agg #[.int .i64 2, .bool false])
  else if k = 2 then .iface 67 (.agg #[.int .i64 1, .bool false])
  else if k = 3 then .iface 67 (.agg #[.int .i64 4, .bool false])
  else if k = 4 then .iface 67 (.agg #[.int .i64 3, .bool true])
  else if k = 5 ∨ k = 6 then .iface 69 (.agg #[])
  else if k = 7 then .iface 70 (.agg #[])
  else .nilIface
def isK (k : Int) : Bool := decide (1 ≤ k) && decide (k ≤ 7)
set_option maxHeartbeats 1600000 in
theorem kind_any (k : Int) (w : World) :
    Calls Try.prog 25 #[.int .i64 k] w fun e w' => e = .returned (.tuple #[kv k, .bool (isK k)]) ∧ Below w.heap.size w w' := by
  by_cases hk : 1 ≤ k ∧ k ≤ 7
  · obtain rfl | rfl | rfl | rfl | rfl | rfl | rfl : k = 1 ∨ k = 2 ∨ k = 3 ∨ k = 4 ∨ k = 5 ∨ k = 6 ∨ k = 7 := by omega
    all_goals
      go_enter Try.func25, Try.ntmps25
      go_wp2_with fail
      go_ret2
      exact ⟨rfl, by go_grown⟩
  · have e : ∀ n : Int, 1 ≤ n → n ≤ 7 → (k == n) = false := fun n h1 h2 => beq_eq_false_iff_ne.2 (by omega)
    have b1 := e 1 (by omega) (by omega)
    have b2 := e 2 (by omega) (by omega)
    have b3 := e 3 (by omega) (by omega)
    have b4 := e 4 (by omega) (by omega)
    have b5 := e 5 (by omega) (by omega)
    have b6 := e 6 (by omega) (by omega)
    have b7 := e 7 (by omega) (by omega)
    have hv : kv k = .nilIface := by unfold kv; rw [if_neg (by omega), if_neg (by omega), if_neg (by omega), if_neg (by omega), if_neg (by omega), if_neg (by omega)]
    have hi : isK k = false := by
      unfold isK
      by_cases h1 : 1 ≤ k
      · rw [decide_eq_false (show ¬ k ≤ 7 by omega), Bool.and_false]
      · rw [decide_eq_false h1, Bool.false_and]
    rw [hv, hi]
    clear e hk hv hi
    go_enter Try.func25, Try.ntmps25
    go_wp2_with fail
    go_ret2
    exact ⟨rfl, by go_grown⟩
/-! what the kinds take -/
theorem takes_a (n : Int) (d : Bool) (x y : Nat) (q p : Int) (w : World) (hx : x < 18446744073709551616) (hy : y < 18446744073709551616) :
    Calls Try.prog 79 #[.agg #[.int .i64 n, .bool d], .complex .f64 x y, .agg #[.int .i64 q, .int .i64 p]] w fun e w' =>
      e = .returned (.bool (isFinD x && isFinD y && !(d && isZ x y) && noT q p)) ∧ Below w.heap.size w w' := by
  have cF := fun W => finI_any x y W hx hy
  have kz := fun W => run_ceq (P := Try.prog) 25 x y 0 0 W
  clear hx hy
  unfold isZ
  generalize (isFinD x && isFinD y) = f at *
  generalize (eqW Ieee.double x 0 && eqW Ieee.double y 0) = z at *
  cases f
  · go_enter Try.func79, Try.ntmps79
    go_wp2_with fail
    refine (cF _).mono ?_
    rintro e w' ⟨rfl, rfl⟩
    go_wp2_with fail
    go_ret
    exact ⟨rfl, by go_grown⟩
  · cases d <;> cases z
    all_goals
      go_enter Try.func79, Try.ntmps79
      go_wp2_with fail
      refine (cF _).mono ?_
      rintro e w' ⟨rfl, rfl⟩
      go_wp2_with fail
      all_goals
        go_ret
        exact ⟨ret_bool (by simp [noT, *] <;> omega), by go_grown⟩
theorem takes_f (x y : Nat) (q p : Int) (w : World) :
    Calls Try.prog 82 #[.agg #[], .complex .f64 x y, .agg #[.int .i64 q, .int .i64 p]] w fun e w' =>
      e = .returned (.bool (isZ x y && noT q p)) ∧ Below w.heap.size w w' := by
  have kz := fun W => run_ceq (P := Try.prog) 25 x y 0 0 W
  unfold isZ
  generalize (eqW Ieee.double x 0 && eqW Ieee.double y 0) = z at *
  cases z
  all_goals
    go_enter Try.func82, Try.ntmps82
    go_wp2_with fail
    all_goals
      go_ret
      exact ⟨ret_bool (by simp [noT, *] <;> omega), by go_grown⟩
theorem takes_t (x y : Nat) (q p : Int) (w : World) :
    Calls Try.prog 85 #[.agg #[], .complex .f64 x y, .agg #[.int .i64 q, .int .i64 p]] w fun e w' =>
      e = .returned (.bool (isZ x y && okT q p)) ∧ Below w.heap.size w w' := by
  have kz := fun W => run_ceq (P := Try.prog) 25 x y 0 0 W
  have cT := fun W => implOk q p W
  unfold isZ
  generalize (eqW Ieee.double x 0 && eqW Ieee.double y 0) = z at *
  generalize okT q p = o at *
  cases z
  · go_enter Try.func85, Try.ntmps85
    go_wp2_with fail
    go_ret
    exact ⟨rfl, by go_grown⟩
  · go_enter Try.func85, Try.ntmps85
    go_wp2_with fail
    refine (cT _).mono ?_
    rintro e w' ⟨rfl, hw⟩
    have Hb := Lib.hid (show Below w.heap.size w w' by rw [hw]; go_grown)
    clear hw
    go_wp2_with fail
    go_ret
    exact ⟨rfl, Hb.out⟩
/-! StepOk -/
/-- the cells of a step that lies in a block of its own -/
theorem cells4 (w w1 : World) (k : Int) (x y : Nat) (q p : Int) (T : TypeId) (hb : Below (w.alloc (.cells #[.int .i64 k, .complex .f64 x y, .int .i64 q, .int .i64 p] T)).heap.size (w.alloc (.cells #[.int .i64 k, .complex .f64 x y, .int .i64 q, .int .i64 p] T)) w1) :
    w1.cell? ⟨w.heap.size, 0, none⟩ = some (.int .i64 k) ∧ w1.cell? ⟨w.heap.size, 1, none⟩ = some (.complex .f64 x y) ∧ w1.cell? ⟨w.heap.size, 2, none⟩ = some (.int .i64 q) ∧ w1.cell? ⟨w.heap.size, 3, none⟩ = some (.int .i64 p) := by
  have e : ∀ j, w1.cell? ⟨w.heap.size, j, none⟩ = (#[Value.int .i64 k, .complex .f64 x y, .int .i64 q, .int .i64 p])[j]? := fun j => by
    rw [hb.cell (by simp), cell_of_row _ w.heap.size j _ T (0, 0) (block_new w _)]
  exact ⟨e 0, e 1, e 2, e 3⟩
theorem ret_ok {k : Int} {x y : Nat} {q p : Int} {b : Bool} (h : (Stp.mk k x y q p).ok = b) : Ending.returned (.bool b) = .returned (.bool (Stp.mk k x y q p).ok) := by rw [h]
set_option maxHeartbeats 1600000 in
theorem stepOk_any (s : Stp) (hx : s.x < 18446744073709551616) (hy : s.y < 18446744073709551616) (w : World) :
    Calls Try.prog 21 #[.agg s.c] w fun e w' => e = .returned (.bool s.ok) ∧ Below w.heap.size w w' := by
  obtain ⟨k, x, y, q, p⟩ := s
  have hx : x < 18446744073709551616 := hx
  have hy : y < 18446744073709551616 := hy
  unfold Stp.c
  by_cases hk : 1 ≤ k ∧ k ≤ 7
  · obtain rfl | rfl | rfl | rfl | rfl | rfl | rfl : k = 1 ∨ k = 2 ∨ k = 3 ∨ k = 4 ∨ k = 5 ∨ k = 6 ∨ k = 7 := by omega
    · go_enter Try.func21, Try.ntmps21
      go_wp2_with fail
      refine (kind_any _ _).mono ?_
      rintro e w1 ⟨rfl, hb⟩
      have Hb := Lib.hid (show Below w.heap.size w w1 from below_on hb (by go_grown) (by simp))
      obtain ⟨c0, c1, c2, c3⟩ := cells4 _ _ _ _ _ _ _ _ hb
      rw [show kv 1 = .iface 67 (.agg #[.int .i64 2, .bool false]) from rfl, show isK 1 = true from rfl]
      clear hb
      go_wp2_with fail
      refine (takes_a 2 false _ _ _ _ _ hx hy).mono ?_
      rintro e w2 ⟨rfl, hb2⟩
      have Hb2 := Lib.hid (Hb.out.trans (hb2.mono Hb.out.size))
      clear hb2 c0 c1 c2 c3 hx hy
      go_wp2_with fail
      all_goals
        go_ret
        exact ⟨ret_ok (by simp [Stp.ok, *]), Hb2.out⟩
    · go_enter Try.func21, Try.ntmps21
      go_wp2_with fail
      refine (kind_any _ _).mono ?_
      rintro e w1 ⟨rfl, hb⟩
      have Hb := Lib.hid (show Below w.heap.size w w1 from below_on hb (by go_grown) (by simp))
      obtain ⟨c0, c1, c2, c3⟩ := cells4 _ _ _ _ _ _ _ _ hb
      rw [show kv 2 = .iface 67 (.agg #[.int .i64 1, .bool false]) from rfl, show isK 2 = true from rfl]
      clear hb
      go_wp2_with fail
      refine (takes_a 1 false _ _ _ _ _ hx hy).mono ?_
      rintro e w2 ⟨rfl, hb2⟩
      have Hb2 := Lib.hid (Hb.out.trans (hb2.mono Hb.out.size))
      clear hb2 c0 c1 c2 c3 hx hy
      go_wp2_with fail
      all_goals
        go_ret
        exact ⟨ret_ok (by simp [Stp.ok, *]), Hb2.out⟩
    · go_enter Try.func21, Try.ntmps21
      go_wp2_with fail
      refine (kind_any _ _).mono ?_
      rintro e w1 ⟨rfl, hb⟩
      have Hb := Lib.hid (show Below w.heap.size w w1 from below_on hb (by go_grown) (by simp))
      obtain ⟨c0, c1, c2, c3⟩ := cells4 _ _ _ _ _ _ _ _ hb
      rw [show kv 3 = .iface 67 (.agg #[.int .i64 4, .bool false]) from rfl, show isK 3 = true from rfl]
      clear hb
      go_wp2_with fail
      refine (takes_a 4 false _ _ _ _ _ hx hy).mono ?_
      rintro e w2 ⟨rfl, hb2⟩
      have Hb2 := Lib.hid (Hb.out.trans (hb2.mono Hb.out.size))
      clear hb2 c0 c1 c2 c3 hx hy
      go_wp2_with fail
      all_goals
        go_ret
        exact ⟨ret_ok (by simp [Stp.ok, *]), Hb2.out⟩
    · go_enter Try.func21, Try.ntmps21
      go_wp2_with fail
      refine (kind_any _ _).mono ?_
      rintro e w1 ⟨rfl, hb⟩
      have Hb := Lib.hid (show Below w.heap.size w w1 from below_on hb (by go_grown) (by simp))
      obtain ⟨c0, c1, c2, c3⟩ := cells4 _ _ _ _ _ _ _ _ hb
      rw [show kv 4 = .iface 67 (.agg #[.int .i64 3, .bool true]) from rfl, show isK 4 = true from rfl]
      clear hb
      go_wp2_with fail
      refine (takes_a 3 true _ _ _ _ _ hx hy).mono ?_
      rintro e w2 ⟨rfl, hb2⟩
      have Hb2 := Lib.hid (Hb.out.trans (hb2.mono Hb.out.size))
      clear hb2 c0 c1 c2 c3 hx hy
      go_wp2_with fail
      all_goals
        go_ret
        exact ⟨ret_ok (by simp [Stp.ok, *]), Hb2.out⟩
    · go_enter Try.func21, Try.ntmps21
      go_wp2_with fail
      refine (kind_any _ _).mono ?_
      rintro e w1 ⟨rfl, hb⟩
      have Hb := Lib.hid (show Below w.heap.size w w1 from below_on hb (by go_grown) (by simp))
      obtain ⟨c0, c1, c2, c3⟩ := cells4 _ _ _ _ _ _ _ _ hb
      rw [show kv 5 = .iface 69 (.agg #[]) from rfl, show isK 5 = true from rfl]
      clear hb
      go_wp2_with fail
      refine (takes_f _ _ _ _ _).mono ?_
      rintro e w2 ⟨rfl, hb2⟩
      have Hb2 := Lib.hid (Hb.out.trans (hb2.mono Hb.out.size))
      clear hb2 c0 c1 c2 c3 hx hy
      go_wp2_with fail
      all_goals
        go_ret
        exact ⟨ret_ok (by simp [Stp.ok, *]), Hb2.out⟩
    · go_enter Try.func21, Try.ntmps21
      go_wp2_with fail
      refine (kind_any _ _).mono ?_
      rintro e w1 ⟨rfl, hb⟩
      have Hb := Lib.hid (show Below w.heap.size w w1 from below_on hb (by go_grown) (by simp))
      obtain ⟨c0, c1, c2, c3⟩ := cells4 _ _ _ _ _ _ _ _ hb
      rw [show kv 6 = .iface 69 (.agg #[]) from rfl, show isK 6 = true from rfl]
      clear hb
      go_wp2_with fail
      refine (takes_f _ _ _ _ _).mono ?_
      rintro e w2 ⟨rfl, hb2⟩
      have Hb2 := Lib.hid (Hb.out.trans (hb2.mono Hb.out.size))
      clear hb2 c0 c1 c2 c3 hx hy
      go_wp2_with fail
      all_goals
        go_ret
        exact ⟨ret_ok (by simp [Stp.ok, *]), Hb2.out⟩
    · go_enter Try.func21, Try.ntmps21
      go_wp2_with fail
      refine (kind_any _ _).mono ?_
      rintro e w1 ⟨rfl, hb⟩
      have Hb := Lib.hid (show Below w.heap.size w w1 from below_on hb (by go_grown) (by simp))
      obtain ⟨c0, c1, c2, c3⟩ := cells4 _ _ _ _ _ _ _ _ hb
      rw [show kv 7 = .iface 70 (.agg #[]) from rfl, show isK 7 = true from rfl]
      clear hb
      go_wp2_with fail
      refine (takes_t _ _ _ _ _).mono ?_
      rintro e w2 ⟨rfl, hb2⟩
      have Hb2 := Lib.hid (Hb.out.trans (hb2.mono Hb.out.size))
      clear hb2 c0 c1 c2 c3 hx hy
      go_wp2_with fail
      all_goals
        go_ret
        exact ⟨ret_ok (by simp [Stp.ok, *]), Hb2.out⟩
  · have hi : isK k = false := by
      unfold isK
      by_cases h1 : 1 ≤ k
      · rw [decide_eq_false (show ¬ k ≤ 7 by omega), Bool.and_false]
      · rw [decide_eq_false h1, Bool.false_and]
    have ho : (Stp.mk k x y q p).ok = false := by
      unfold Stp.ok
      simp only
      rw [if_neg (by omega), if_neg (by omega), if_neg (by omega), if_neg (by omega)]
    rw [ho]
    clear hk ho
    go_enter Try.func21, Try.ntmps21
    go_wp2_with fail
    refine (kind_any _ _).mono ?_
    rintro e w1 ⟨rfl, hb⟩
    have Hb := Lib.hid (show Below w.heap.size w w1 from below_on hb (by go_grown) (by simp))
    rw [hi]
    clear hb hi
    go_wp2_with fail
    go_ret
    exact ⟨rfl, Hb.out⟩
end Go.Proofs.Ytpemmmnohlimmaa.Stp
