/- (ranges).settled: the closure goes through the ranges at which the readings settle. -/
import Derived.RangeFuncNested
import Derived.RangeFuncBound
import Derived.RangeFuncCalls
import Derived.RangeFuncLeaves
import Derived.RangeFuncBox
import Derived.Shelf.Abstract
import Derived.Shelf.RegionOpen
import Derived.WalkKit
import Derived.OwnWalkIn
import Derived.TacticsInMore
import Derived.LoopNIn
import Derived.LoopIn
import Derived.Test.YtmnpmbliikalhaaRngRun
namespace Go.Proofs.Ytmnpmbliikalhaa.Rng
open Go.ChangeShapes Go.WideShapes Go.ChangeAt Go.RowKit Go.Shelf Go.Deep Go.Proofs.Ytmnpmbliikalhaa Go.Proofs.Ytmnpmbliikalhaa.Flt Go.Proofs.Ytmnpmbliikalhaa.Mth Go.Proofs.Ytmnpmbliikalhaa.Sgl Go.Proofs.Ytmnpmbliikalhaa.Ils
set_option linter.unusedVariables false
attribute [local go_sem] Oper.semAt_some
/-- what a round of the caller's loop keeps: all below n₀, and the box of the list -/
def Kps (n₀ Bl : Nat) (W W' : World) : Prop := Below n₀ W W' ∧ W'.heap[Bl]? = W.heap[Bl]?
theorem Kps.refl (n₀ Bl : Nat) (W : World) : Kps n₀ Bl W W := ⟨Below.refl _ _, rfl⟩
theorem Kps.trans {n₀ Bl : Nat} {A B C : World} (h : Kps n₀ Bl A B) (k : Kps n₀ Bl B C) : Kps n₀ Bl A C := ⟨h.1.trans k.1, k.2.trans h.2⟩
theorem Kps.put {n₀ Bl : Nat} {w : World} (hn : n₀ ≤ w.heap.size) (hl : Bl < w.heap.size) (W : World) (l : Nat) (o o' : Obj) (h0 : w.heap.size ≤ l) (h : W.heap[l]? = some o) (h1 : o.isCells = false) (h2 : o.isWalk = false) : Kps n₀ Bl W (W.putObj l o') :=
  ⟨belowK_b hn W l o o' h0 h h1 h2, by
    have := (grownBy_putObj' W l o').block Bl (by have := (Array.getElem?_eq_some_iff.1 h).1; omega) (fun e => by cases e; omega)
    exact this⟩
theorem Kps.call {n₀ Bl : Nat} {W W' : World} (hn : n₀ ≤ W.heap.size) (hl : Bl < W.heap.size) (h : Below W.heap.size W W') : Kps n₀ Bl W W' := ⟨h.mono hn, h.block Bl hl⟩
theorem grown_of_below {W W' : World} (h : Below W.heap.size W W') : W.grownBy W' none := ⟨h.os, h.tape, h.output, h.size, fun k hk _ => h.block k hk⟩
set_option maxRecDepth 100000 in
set_option maxHeartbeats 2000000 in
theorem settled1_in (n : Nat) (hn : 1 ≤ n) (l Ba Bx Bl n₀ b off len cap m cap' k : Nat) (a' : Option Addr) (X Y : Nat → Nat) (hk : k < len) (ho : okB len X = true) (hb : b < n₀) (hm : m ≤ 100) (J Jx : List Int → World → Prop)
    (hY : ∀ pre x W, J pre W → pre.length < m → YieldAt Fence.wide (n - 1) Try.prog l #[.int .i64 x] W fun e W' =>
      (e = .returned (.bool true) ∧ J (pre ++ [x]) W' ∧ Kps n₀ Bl W W') ∨ (e = .returned (.bool false) ∧ Jx (pre ++ [x]) W'))
    (W : World) (hn₀ : n₀ ≤ W.heap.size) (hBl : Bl < W.heap.size) (hJ : AbidesFrom W.heap.size J) (hca : W.cell? ⟨Ba, 0, none⟩ = some (.int .i64 (k : Int))) (hcx : W.cell? ⟨Bx, 0, none⟩ = some (.slice a' m cap')) (hcl : W.cell? ⟨Bl, 0, none⟩ = some (.slice (some ⟨b, off, none⟩) len cap))
    (hcells : Cells W b off len X) (hF : WfF m Y ∧ (m = 0 ∨ ∃ b' off', a' = some ⟨b', off', none⟩ ∧ b' < n₀ ∧ CellsF W b' off' m Y)) (h0 : J [] W) :
    CallsIn Fence.wide n Try.prog 65 #[.func (.yield l) #[] #[], .pointer (some ⟨Ba, 0, none⟩), .pointer (some ⟨Bx, 0, none⟩), .pointer (some ⟨Bl, 0, none⟩)] W fun e W' => (∃ v, e = .returned v) ∧
      ((∃ ys, ys = runL len X Y k m ∧ J ys W') ∨ (∃ pre, True ∧ Jx pre W')) := by
  have HO := Lib.hid ho
  have Hc := Lib.hid hcells
  have HF := Lib.hid hF
  have HJ := Lib.hid hJ
  clear ho hcells hF hJ
  refine callsIn_of_wp Try.func65 rfl trivial ?_ rfl
  simp only [Try.ntmps65, List.size_toArray, List.length_cons, List.length_nil, Nat.reduceAdd, Nat.reduceSub, Array.replicate_succ, Array.replicate_zero, List.push_toArray, List.append_toArray, List.nil_append, List.cons_append]
  gi_wp2
  gi_loopw [5, 11] (fun h i wr => ∃ (i0 q : Nat), i0 ≤ m ∧ Hid (q = runN len X Y k i0) ∧ q < len ∧ h = .int .i64 (q : Int) ∧ i = .int .i64 (i0 : Int) ∧ J (runL len X Y k i0) wr ∧ Kps n₀ Bl W wr)
    (fun _ i _ => m - (intOf i).toNat)
  case atStart => exact ⟨0, k, Nat.zero_le _, rfl, hk, rfl, rfl, h0, Kps.refl _ _ _⟩
  case round =>
    obtain ⟨i0, q, hi0, hq, hql, rfl, rfl, hJs, hkp⟩ := hrel
    have Hj := Lib.hid (And.intro hJs hkp)
    have hszn : n₀ ≤ wr.heap.size := Nat.le_trans hn₀ hkp.1.size
    have hszl : Bl < wr.heap.size := Nat.lt_of_lt_of_le hBl hkp.1.size
    have hcl' : wr.cell? ⟨Bl, 0, none⟩ = some (.slice (some ⟨b, off, none⟩) len cap) := (World.cell?_of_block (a := ⟨Bl, 0, none⟩) hkp.2).trans hcl
    clear hJs hkp
    by_cases hlt : i0 < m
    · have hlt' : (i0 : Int) < m := by omega
      obtain ⟨hwf, hY0 | ⟨b', off', rfl, hlb, hcY⟩⟩ := HF.out
      · omega
      have wx := hwf i0 hlt
      have c0 : wr.cell? ⟨b', off' + i0, none⟩ = some (.float .f32 (Y i0)) := (Hj.out.2.1.cell (p := ⟨b', off' + i0, none⟩) hlb).trans (hcY i0 hlt)
      have Hm := Lib.hid (show settleN len X (Y i0) q = runN len X Y k (i0 + 1) by rw [hq.out]; rfl)
      have hq2 : settleN len X (Y i0) q < len := settle_lt _ _ hql
      clear hwf hcY
      gi_wp2_with (refine ⟨trivial, ?_⟩; gi_at_call 49; refine (callsIn_wide.2 (settleI_any b off len cap X q (Y i0) wx wr hql (by omega) (Hc.out.keep hb Hj.out.2.1) HO.out)).mono ?_; rintro e w3 ⟨rfl, hb3⟩; have hj3 : J (runL len X Y k i0) w3 := HJ.out _ wr w3 none Hj.out.1 (grown_of_below hb3) (fun r e => by cases e); have Hk3 := Lib.hid (Hj.out.2.trans (Kps.call hszn hszl hb3)); obtain ⟨fn, tmps, assign, body, hy, hR⟩ := hY _ ((settleN len X (Y i0) q : Nat) : Int) w3 hj3 (by rw [runL_len]; exact hlt); clear hb3 hj3)
      refine hR.mono ?_
      rintro e W3 (⟨rfl, hJ3, hk3⟩ | ⟨rfl, hJx3⟩)
      · have H3 := Lib.hid (And.intro hJ3 (Hk3.out.trans hk3))
        clear hJ3 hk3 hY
        gi_wp2
        go_roundw
        case rel => exact ⟨i0 + 1, settleN len X (Y i0) q, hlt, Hm.out, hq2, rfl, by go_num, by
          have := H3.out.1
          rw [Hm.out, ← runL_snoc] at this
          exact this, H3.out.2⟩
        case measure => simp [intOf]; omega
      · gi_wp2
        refine bodyPost_ret (results_none rfl _ _ _) rfl ?_
        first
          | exact ⟨⟨_, rfl⟩, .inr ⟨_, trivial, hJx3⟩⟩
          | exact ⟨⟨_, rfl⟩, .inr ⟨_, hJx3⟩⟩
    · have hlt' : ¬ (i0 : Int) < m := by omega
      obtain rfl : i0 = m := by omega
      gi_wp2
      go_end0
      first
        | exact ⟨⟨_, rfl⟩, .inl ⟨_, rfl, Hj.out.1⟩⟩
        | exact ⟨⟨_, rfl⟩, .inl Hj.out.1⟩
theorem settled_stops (n : Nat) (hn : 1 ≤ n) (Ba Bx Bl n₀ b off len cap m cap' k : Nat) (a' : Option Addr) (X Y : Nat → Nat) (hk : k < len) (ho : okB len X = true) (hb : b < n₀) (hm : m ≤ 100)
    (w : World) (hn₀ : n₀ ≤ w.heap.size) (hBa : Ba < w.heap.size) (hBx : Bx < w.heap.size) (hBl : Bl < w.heap.size) (hca : w.cell? ⟨Ba, 0, none⟩ = some (.int .i64 (k : Int))) (hcx : w.cell? ⟨Bx, 0, none⟩ = some (.slice a' m cap')) (hcl : w.cell? ⟨Bl, 0, none⟩ = some (.slice (some ⟨b, off, none⟩) len cap))
    (hcells : Cells w b off len X) (hF : WfF m Y ∧ (m = 0 ∨ ∃ b' off', a' = some ⟨b', off', none⟩ ∧ b' < n₀ ∧ CellsF w b' off' m Y)) :
    SeqStopsK Fence.wide n Try.prog 65 #[.pointer (some ⟨Ba, 0, none⟩), .pointer (some ⟨Bx, 0, none⟩), .pointer (some ⟨Bl, 0, none⟩)] (fun x : Int => #[Value.int .i64 x]) (Kps n₀ Bl) (fun ys => ys = runL len X Y k m) (fun _ => True) m w := fun l J Jx W hW hJ _ hY h0 =>
  settled1_in n hn l Ba Bx Bl n₀ b off len cap m cap' k a' X Y hk ho hb hm J Jx hY W (Nat.le_trans hn₀ hW.size) (Nat.lt_of_lt_of_le hBl hW.size) hJ
    ((hW.cell (p := ⟨Ba, 0, none⟩) hBa).trans hca) ((hW.cell (p := ⟨Bx, 0, none⟩) hBx).trans hcx) ((hW.cell (p := ⟨Bl, 0, none⟩) hBl).trans hcl)
    (hcells.keep hb (hW.mono hn₀)) ⟨hF.1, hF.2.imp id (fun ⟨b', off', e, hlb, hc⟩ => ⟨b', off', e, hlb, hc.keep hlb (hW.mono hn₀)⟩)⟩ h0
set_option maxHeartbeats 1000000 in
theorem settled_in (n : Nat) (a a' : Option Addr) (len cap m cap' : Nat) (k : Int) (w : World) :
    CallsIn Fence.wide n Try.prog 57 #[.slice a len cap, .int .i64 k, .slice a' m cap'] w fun e w' => e = .returned (.func (.func 65) #[] #[.pointer (some ⟨w.heap.size + 1, 0, none⟩), .pointer (some ⟨w.heap.size + 2, 0, none⟩), .pointer (some ⟨w.heap.size, 0, none⟩)]) ∧ w' = ((w.alloc (.cells #[.slice a len cap] 62)).alloc (.cells #[.int .i64 k] 3)).alloc (.cells #[.slice a' m cap'] 45) := by
  refine callsIn_of_wp Try.func57 rfl trivial ?_ rfl
  simp only [Try.ntmps57, List.size_toArray, List.length_cons, List.length_nil, Nat.reduceAdd, Nat.reduceSub, Array.replicate_succ, Array.replicate_zero, List.push_toArray, List.append_toArray, List.nil_append, List.cons_append]
  gi_wp2
  go_ret
  exact ⟨rfl, rfl⟩
end Go.Proofs.Ytmnpmbliikalhaa.Rng
