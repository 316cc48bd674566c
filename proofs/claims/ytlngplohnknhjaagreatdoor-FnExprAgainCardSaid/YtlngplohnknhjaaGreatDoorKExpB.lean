/- The program's NodeOk, ExprOk and DepthOf of valid expressions. -/
import Derived.Test.YtlngplohnknhjaaGreatDoorKExpA
import Derived.Test.YtlngplohnknhjaaGreatDoorKExpN
namespace Go.Proofs.YtlngplohnknhjaaGreatDoor.Ex
open Go.ChangeShapes Go.WideShapes Go.ChangeAt Go.RowKit Go.Proofs.YtlngplohnknhjaaGreatDoor Go.Proofs.YtlngplohnknhjaaGreatDoor.Flt Go.Proofs.YtlngplohnknhjaaGreatDoor.Mth Go.Proofs.YtlngplohnknhjaaGreatDoor.Cpx
open Ieee (single double)
set_option linter.unusedVariables false
/-- the cells of a node that lies in a block of its own -/
theorem cells3 {w w1 : World} {k s : Int} {x y : Nat} {T : TypeId} (hb : Below (w.alloc (.cells #[.int .i64 k, .int .i64 s, .complex .f64 x y] T)).heap.size (w.alloc (.cells #[.int .i64 k, .int .i64 s, .complex .f64 x y] T)) w1) :
    w1.cell? ⟨w.heap.size, 0, none⟩ = some (.int .i64 k) ∧ w1.cell? ⟨w.heap.size, 1, none⟩ = some (.int .i64 s) ∧ w1.cell? ⟨w.heap.size, 2, none⟩ = some (.complex .f64 x y) := by
  have e : ∀ j, w1.cell? ⟨w.heap.size, j, none⟩ = (#[Value.int .i64 k, .int .i64 s, .complex .f64 x y])[j]? := fun j => by
    rw [hb.cell (by simp), cell_of_row _ w.heap.size j _ T (0, 0) (block_new w _)]
  exact ⟨e 0, e 1, e 2⟩
/-- the value inside -/
def nodeVal (n : Nd) : Value := if n.k = 1 then numVal n.x n.y else if n.k = 2 then slotVal n.s else opV n.k
theorem part_any (n : Nd) (hn : n.ok) (w : World) : Calls Tryz.prog 34 #[.agg #[.int .i64 n.k, .int .i64 n.s, .complex .f64 n.x n.y]] w fun e w' => e = .returned (nodeVal n) ∧ Below w.heap.size w w' := by
  obtain ⟨k, s, x, y⟩ := n
  rcases hn with h | h | h
  · obtain rfl : k = 1 := h.1
    refine (part_num s x y w).mono ?_
    rintro e w' ⟨rfl, rfl⟩
    exact ⟨rfl, by go_grown⟩
  · obtain rfl : k = 2 := h.1
    refine (part_slot s x y w).mono ?_
    rintro e w' ⟨rfl, rfl⟩
    exact ⟨rfl, by go_grown⟩
  · have hk : 3 ≤ k ∧ k ≤ 12 := h.1
    refine (part_op k s x y w hk).mono ?_
    rintro e w' ⟨rfl, rfl⟩
    refine ⟨?_, by go_grown⟩
    unfold nodeVal
    rw [if_neg (show ¬ k = 1 by omega), if_neg (show ¬ k = 2 by omega)]
set_option maxRecDepth 20000 in
set_option maxHeartbeats 3200000 in
theorem nodeOk_num (x y : Nat) (h : NV x y) (w : World) : Calls Tryz.prog 38 #[.agg #[.int .i64 1, .int .i64 0, .complex .f64 x y]] w fun e w' => e = .returned (.bool true) ∧ Below w.heap.size w w' := by
  obtain ⟨_, wx, wy⟩ := h.fin
  obtain ⟨f, g, ⟨hf, hg, hfg⟩, rfl, rfl⟩ := h.two
  have cS := fun W => sameC_any (widen f) (widen g) W wx wy
  have cN := fun W => num_any f g hf hg hfg W
  have cP := fun W => part_num 0 (widen f) (widen g) W
  have t1 := ta_nn
  have t2 := ta_ns
  unfold numVal at cP
  clear h wx wy hf hg hfg
  generalize (sameW double (widen f) 0 && sameW double (widen g) 0) = b at *
  generalize widen f = x at *
  generalize widen g = y at *
  go_enter Tryz.func38, Tryz.ntmps38
  go_wp2_with fail
  refine (cP _).mono ?_
  rintro e w' ⟨rfl, rfl⟩
  go_wp2_with fail
  refine (cS _).mono ?_
  rintro e w' ⟨rfl, rfl⟩
  cases b
  · go_wp2_with fail
    refine (cN _).mono ?_
    rintro e w' ⟨rfl, rfl⟩
    go_wp2_with fail
    go_ret
    exact ⟨rfl, by go_grown⟩
  · go_wp2_with fail
    go_ret
    exact ⟨rfl, by go_grown⟩
set_option maxRecDepth 20000 in
set_option maxHeartbeats 3200000 in
theorem nodeOk_slot (s : Int) (h0 : 0 ≤ s) (h9 : s ≤ 9) (w : World) : Calls Tryz.prog 38 #[.agg #[.int .i64 2, .int .i64 s, .complex .f64 0 0]] w fun e w' => e = .returned (.bool true) ∧ Below w.heap.size w w' := by
  have cS := fun W => sameC_any 0 0 W (by decide) (by decide)
  rw [show (sameW double 0 0 && sameW double 0 0) = true by decide] at cS
  have cP := fun W => part_slot s 0 0 W
  have t1 := ta_sn
  have t2 := ta_ss
  unfold slotVal at cP
  by_cases hz : s = 0
  · subst hz
    go_enter Tryz.func38, Tryz.ntmps38
    go_wp2_with fail
    refine (cP _).mono ?_
    rintro e w' ⟨rfl, rfl⟩
    go_wp2_with fail
    refine (cS _).mono ?_
    rintro e w' ⟨rfl, rfl⟩
    go_wp2_with fail
    go_ret
    exact ⟨rfl, by go_grown⟩
  · have b1 : (s == 0) = false := beq_eq_false_iff_ne.2 hz
    have h1 : 0 < s := by omega
    clear hz
    go_enter Tryz.func38, Tryz.ntmps38
    go_wp2_with fail
    refine (cP _).mono ?_
    rintro e w' ⟨rfl, rfl⟩
    go_wp2_with fail
    refine (cS _).mono ?_
    rintro e w' ⟨rfl, rfl⟩
    go_wp2_with fail
    go_ret
    exact ⟨rfl, by go_grown⟩
set_option maxRecDepth 20000 in
set_option maxHeartbeats 3200000 in
theorem nodeOk_op (k : Int) (hk : 3 ≤ k ∧ k ≤ 12) (w : World) : Calls Tryz.prog 38 #[.agg #[.int .i64 k, .int .i64 0, .complex .f64 0 0]] w fun e w' => e = .returned (.bool true) ∧ Below w.heap.size w w' := by
  have cS := fun W => sameC_any 0 0 W (by decide) (by decide)
  rw [show (sameW double 0 0 && sameW double 0 0) = true by decide] at cS
  have cP := fun W => part_op k 0 0 0 W hk
  have t1 := ta_on
  have t2 := ta_os
  unfold opV at cP
  generalize txt k = tx at *
  generalize stg k = st at *
  go_enter Tryz.func38, Tryz.ntmps38
  go_wp2_with fail
  refine (cP _).mono ?_
  rintro e w' ⟨rfl, rfl⟩
  go_wp2_with fail
  refine (cS _).mono ?_
  rintro e w' ⟨rfl, rfl⟩
  go_wp2_with fail
  go_ret
  exact ⟨rfl, by go_grown⟩
theorem nodeOk_any (n : Nd) (hn : n.ok) (w : World) : Calls Tryz.prog 38 #[.agg #[.int .i64 n.k, .int .i64 n.s, .complex .f64 n.x n.y]] w fun e w' => e = .returned (.bool true) ∧ Below w.heap.size w w' := by
  obtain ⟨k, s, x, y⟩ := n
  rcases hn with h | h | h
  · obtain rfl : k = 1 := h.1
    obtain rfl : s = 0 := h.2.1
    exact nodeOk_num x y h.2.2 w
  · obtain rfl : k = 2 := h.1
    obtain rfl : x = 0 := h.2.2.1
    obtain rfl : y = 0 := h.2.2.2
    exact nodeOk_slot s h.2.1.1 h.2.1.2 w
  · obtain rfl : s = 0 := h.2.1
    obtain rfl : x = 0 := h.2.2.1
    obtain rfl : y = 0 := h.2.2.2
    exact nodeOk_op k h.1 w
end Go.Proofs.YtlngplohnknhjaaGreatDoor.Ex
