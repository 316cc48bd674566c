/- slices.Backward: its closure goes through the list from behind. -/
import Derived.RangeFuncNested
import Derived.RangeFuncBound
import Derived.RangeFuncCalls
import Derived.RangeFuncLeaves
import Derived.RangeFuncBox
import Derived.Shelf.Abstract
import Derived.Shelf.RegionOpen
import Derived.WalkKit
import Derived.OwnWalkIn
import Derived.TacticsInMore
import Derived.LoopNIn
import Derived.LoopIn
import Derived.Test.YtbmojogohffhaaaSclI
namespace Go.Proofs.Ytbmojogohffhaaa.Pnt
open Go.ChangeShapes Go.WideShapes Go.ChangeAt Go.RowKit Go.Shelf Go.Deep Go.Proofs.Ytbmojogohffhaaa Go.Proofs.Ytbmojogohffhaaa.Flt Go.Proofs.Ytbmojogohffhaaa.Mth
set_option linter.unusedVariables false
attribute [local go_sem] Oper.semAt_some
/-- what a round of the caller's loop keeps: all below n₀, and the box of the list -/
def Kps (n₀ Bl : Nat) (W W' : World) : Prop := Below n₀ W W' ∧ W'.heap[Bl]? = W.heap[Bl]?
theorem Kps.refl (n₀ Bl : Nat) (W : World) : Kps n₀ Bl W W := ⟨Below.refl _ _, rfl⟩
theorem Kps.trans {n₀ Bl : Nat} {A B C : World} (h : Kps n₀ Bl A B) (k : Kps n₀ Bl B C) : Kps n₀ Bl A C := ⟨h.1.trans k.1, k.2.trans h.2⟩
theorem Kps.put {n₀ Bl : Nat} {w : World} (hn : n₀ ≤ w.heap.size) (hl : Bl < w.heap.size) (W : World) (l : Nat) (o o' : Obj) (h0 : w.heap.size ≤ l) (h : W.heap[l]? = some o) (h1 : o.isCells = false) (h2 : o.isWalk = false) : Kps n₀ Bl W (W.putObj l o') :=
  ⟨belowK_b hn W l o o' h0 h h1 h2, by
    have := (grownBy_putObj' W l o').block Bl (by have := (Array.getElem?_eq_some_iff.1 h).1; omega) (fun e => by cases e; omega)
    exact this⟩
theorem Kps.call {n₀ Bl : Nat} {W W' : World} (hn : n₀ ≤ W.heap.size) (hl : Bl < W.heap.size) (h : Below W.heap.size W W') : Kps n₀ Bl W W' := ⟨h.mono hn, h.block Bl hl⟩
/-- the places from behind -/
def bwd (len i : Nat) : List Nat := (List.range i).map fun j => len - 1 - j
theorem bwd_snoc (len i : Nat) : bwd len (i + 1) = bwd len i ++ [len - 1 - i] := by simp [bwd, List.range_succ]
theorem bwd_len (len i : Nat) : (bwd len i).length = i := by simp [bwd]
/-- what is yielded at a place -/
def yv (X : Nat → Nat) (q : Nat) : Array Value := #[.int .i64 (q : Int), .agg #[.float .f32 (X (q * 2)), .float .f32 (X (q * 2 + 1))]]
set_option maxRecDepth 100000 in
set_option maxHeartbeats 2000000 in
theorem back1_in (n : Nat) (hn : 1 ≤ n) (l Bl n₀ b off len cap : Nat) (X : Nat → Nat) (hb : b < n₀) (hm : len ≤ 100) (J Jx : List Nat → World → Prop)
    (hY : ∀ pre x W, J pre W → pre.length < len → YieldAt Fence.wide (n - 1) Try.prog l (yv X x) W fun e W' =>
      (e = .returned (.bool true) ∧ J (pre ++ [x]) W' ∧ Kps n₀ Bl W W') ∨ (e = .returned (.bool false) ∧ Jx (pre ++ [x]) W'))
    (W : World) (hn₀ : n₀ ≤ W.heap.size) (hBl : Bl < W.heap.size) (hJ : AbidesFrom W.heap.size J) (hcl : W.cell? ⟨Bl, 0, none⟩ = some (.slice (some ⟨b, off, none⟩) len cap))
    (hcells : Cells W b off len X) (h0 : J [] W) :
    CallsIn Fence.wide n Try.prog 72 #[.func (.yield l) #[] #[], .pointer (some ⟨Bl, 0, none⟩)] W fun e W' => (∃ v, e = .returned v) ∧
      ((∃ ys, ys = bwd len len ∧ J ys W') ∨ (∃ pre, True ∧ Jx pre W')) := by
  have Hc := Lib.hid hcells
  have HJ := Lib.hid hJ
  clear hcells hJ
  refine callsIn_of_wp Try.func72 rfl trivial ?_ rfl
  simp only [Try.ntmps72, List.size_toArray, List.length_cons, List.length_nil, Nat.reduceAdd, Nat.reduceSub, Array.replicate_succ, Array.replicate_zero, List.push_toArray, List.append_toArray, List.nil_append, List.cons_append]
  gi_wp2
  gi_loopw [3] (fun i wr => ∃ (r : Nat), r ≤ len ∧ i = .int .i64 ((len : Int) - 1 - (r : Int)) ∧ J (bwd len r) wr ∧ Kps n₀ Bl W wr)
    (fun i _ => (intOf i + 1).toNat)
  case atStart => exact ⟨0, Nat.zero_le _, by congr 1; omega, h0, Kps.refl _ _ _⟩
  case round =>
    obtain ⟨r, hr, rfl, hJs, hkp⟩ := hrel
    have Hj := Lib.hid (And.intro hJs hkp)
    have hcl' : wr.cell? ⟨Bl, 0, none⟩ = some (.slice (some ⟨b, off, none⟩) len cap) := (World.cell?_of_block (a := ⟨Bl, 0, none⟩) hkp.2).trans hcl
    have hcc := Hc.out.keep hb hkp.1
    by_cases hlt : r < len
    · obtain ⟨q, hq⟩ : ∃ q, q = len - 1 - r := ⟨_, rfl⟩
      have hqi : (len : Int) - 1 - (r : Int) = (q : Int) := by omega
      rw [hqi]
      have hql : q < len := by omega
      have hq0 : (0 : Int) ≤ (q : Int) := by omega
      obtain ⟨a0, a1⟩ := hcc q hql
      have hw1 : IntKind.i64.wrap ((q : Int) - 1) = (q : Int) - 1 := by rw [IntKind.wrap_i64]; omega
      have hR0 := hY _ q wr hJs (by rw [bwd_len]; exact hlt)
      unfold yv at hR0
      obtain ⟨fn, tmps, assign, body, hy, hR⟩ := hR0
      have Hq := Lib.hid (And.intro hq hqi)
      clear hJs hkp hcc hq hqi hY
      gi_wp2
      refine hR.mono ?_
      rintro e W3 (⟨rfl, hJ3, hk3⟩ | ⟨rfl, hJx3⟩)
      · have H3 := Lib.hid (And.intro hJ3 (Hj.out.2.trans hk3))
        clear hJ3 hk3
        gi_wp2
        go_roundw
        case rel => exact ⟨r + 1, hlt, by rw [← Hq.out.2]; congr 1; omega, by
          have := H3.out.1
          rw [Hq.out.1, ← bwd_snoc] at this
          exact this, H3.out.2⟩
        case measure => first | (simp [intOf]; done) | (simp [intOf]; omega)
      · gi_wp2
        refine bodyPost_ret (results_none rfl _ _ _) rfl ?_
        first
          | exact ⟨⟨_, rfl⟩, .inr ⟨_, trivial, hJx3⟩⟩
          | exact ⟨⟨_, rfl⟩, .inr ⟨_, hJx3⟩⟩
    · obtain rfl : r = len := by omega
      have hqi : (r : Int) - 1 - (r : Int) = -1 := by omega
      rw [hqi]
      clear hcc hkp hJs
      gi_wp2
      go_end0
      first
        | exact ⟨⟨_, rfl⟩, .inl ⟨_, rfl, Hj.out.1⟩⟩
        | exact ⟨⟨_, rfl⟩, .inl Hj.out.1⟩
theorem back_stops (n : Nat) (hn : 1 ≤ n) (Bl n₀ b off len cap : Nat) (X : Nat → Nat) (hb : b < n₀) (hm : len ≤ 100)
    (w : World) (hn₀ : n₀ ≤ w.heap.size) (hBl : Bl < w.heap.size) (hcl : w.cell? ⟨Bl, 0, none⟩ = some (.slice (some ⟨b, off, none⟩) len cap)) (hcells : Cells w b off len X) :
    SeqStopsK Fence.wide n Try.prog 72 #[.pointer (some ⟨Bl, 0, none⟩)] (fun x : Nat => yv X x) (Kps n₀ Bl) (fun ys => ys = bwd len len) (fun _ => True) len w := fun l J Jx W hW hJ _ hY h0 =>
  back1_in n hn l Bl n₀ b off len cap X hb hm J Jx hY W (Nat.le_trans hn₀ hW.size) (Nat.lt_of_lt_of_le hBl hW.size) hJ
    ((hW.cell (p := ⟨Bl, 0, none⟩) hBl).trans hcl) (hcells.keep hb (hW.mono hn₀)) h0
set_option maxHeartbeats 1000000 in
theorem back_in (n : Nat) (a : Option Addr) (len cap : Nat) (w : World) :
    CallsIn Fence.wide n Try.prog 57 #[.slice a len cap] w fun e w' => e = .returned (.func (.func 72) #[] #[.pointer (some ⟨w.heap.size, 0, none⟩)]) ∧ w' = w.alloc (.cells #[.slice a len cap] 24) := by
  refine callsIn_of_wp Try.func57 rfl trivial ?_ rfl
  simp only [Try.ntmps57, List.size_toArray, List.length_cons, List.length_nil, Nat.reduceAdd, Nat.reduceSub, Array.replicate_succ, Array.replicate_zero, List.push_toArray, List.append_toArray, List.nil_append, List.cons_append]
  gi_wp2
  go_ret
  exact ⟨rfl, rfl⟩
end Go.Proofs.Ytbmojogohffhaaa.Pnt
