/- The program's parser: put, slots. -/
import Derived.Test.YtlngplohnknhjaaGreatDoorKExpPa
namespace Go.Proofs.YtlngplohnknhjaaGreatDoor.Px
open Go.ChangeShapes Go.WideShapes Go.ChangeAt Go.RowKit Go.Proofs.YtlngplohnknhjaaGreatDoor Go.Proofs.YtlngplohnknhjaaGreatDoor.Flt Go.Proofs.YtlngplohnknhjaaGreatDoor.Ex Go.Proofs.YtlngplohnknhjaaGreatDoor.Cpx
set_option linter.unusedVariables false
theorem only_drew {B : Nat} {a w : World} (h : Only B a w) : Only B a w.drew := ⟨h.os, h.tape, h.output, h.size, h.block⟩
theorem owns_form {w : World} {base e size n : Nat} {v : Value} {xs : List Value} (h : w.ownsRow base e size v n xs) : ∃ p cap, v = .slice p n cap := by
  rcases h.2 with ⟨h1, h2⟩ | ⟨g, cap, cur, rfl, _⟩
  · exact ⟨none, 0, by rw [h1, h2]⟩
  · exact ⟨_, cap, rfl⟩
set_option maxRecDepth 20000 in
set_option maxHeartbeats 1600000 in
theorem put_any (w0 : World) (B : Nat) (xs : List Nd) (l : Tx) (n : Nd) (w : World) (h : Ps w0 B xs l w) (hx : xs.length < 60) :
    Calls Tryz.prog 63 #[.pointer (some ⟨B, 0, none⟩), .agg n.c] w fun e w' => e = .returned (.tuple #[]) ∧ Ps w0 B (xs ++ [n]) l w' := by
  obtain ⟨v, hr, ho⟩ := h.r
  obtain ⟨i0, hi, hz0, hz1, hz2⟩ := info_partsN
  have Hi := Lib.hid (And.intro hi (And.intro hz0 (And.intro hz1 hz2)))
  obtain ⟨m, hm⟩ : ∃ m, xs.length = m := ⟨_, rfl⟩
  rw [hm] at ho hx
  obtain ⟨p0, cap0, rfl⟩ := owns_form ho
  obtain ⟨k, s, x, y⟩ := n
  have c0 : w.cell? ⟨B, 0, none⟩ = some (.slice p0 m cap0) := by simp [World.cell?, hr]
  have hm60 : (m : Int) < 60 := by omega
  have hn63 : m + 1 ≤ maxLen := by unfold maxLen; omega
  have hnby : (m + 1) * 32 ≤ 140737488355328 := Nat.le_trans (Nat.mul_le_mul_right 32 (show m + 1 ≤ 61 by omega)) (by decide)
  have hsz := h.only.size
  have hBw : B < w.heap.size := lt_of_block hr
  have cD := fun W => demand_any W
  have H := Lib.hid (show Ps w0 B xs l (w.alloc (.cells #[.int .i64 k, .int .i64 s, .complex .f64 x y] 44)) from h.below ((Below.refl _ _).alloc (Nat.le_refl _) _))
  obtain ⟨v1, hr1, ho1⟩ := H.out.r
  have hrq : (w.alloc (.cells #[.int .i64 k, .int .i64 s, .complex .f64 x y] 44)).heap[B]? = w.heap[B]? := ((Below.refl w.heap.size w).alloc (Nat.le_refl _) _).block B hBw
  rw [hrq, hr] at hr1
  obtain rfl : Value.slice p0 m cap0 = v1 := by simpa using hr1
  have c1 : (w.alloc (.cells #[.int .i64 k, .int .i64 s, .complex .f64 x y] 44)).cell? ⟨B, 0, none⟩ = some (.slice p0 m cap0) := by simp only [World.cell?, hrq, hr]; rfl
  clear hr1 h
  rw [hm] at ho1
  obtain ⟨w1, hw1⟩ : ∃ w1, w.alloc (.cells #[.int .i64 k, .int .i64 s, .complex .f64 x y] 44) = w1 := ⟨_, rfl⟩
  have Hr := Lib.hid (hrq.trans hr)
  have Hcell := Lib.hid (show w1.cell? ⟨w.heap.size, 0, none⟩ = some (.int .i64 k) from by rw [← hw1, cell_of_row _ w.heap.size 0 _ _ (0, 0) (block_new w _)]; rfl)
  rw [hw1] at c1 ho1 Hr H
  clear hrq hr ho
  have Hm := Lib.hid (And.intro hm hsz)
  have HW := Lib.hid hw1
  clear hi hz0 hz1 hz2 hm hw1
  show Calls Tryz.prog 63 #[.pointer (some ⟨B, 0, none⟩), .agg #[.int .i64 k, .int .i64 s, .complex .f64 x y]] w _
  go_enter Tryz.func63, Tryz.ntmps63
  go_wp2_with fail
  rw [HW.out]
  refine (cD _).mono ?_
  rintro e w2 ⟨rfl, hw2⟩
  subst w2
  have cell0 := Hcell.out
  have cA : w1.cell? ⟨w.heap.size, 1, none⟩ = some (.int .i64 s) := by rw [← HW.out, cell_of_row _ w.heap.size 1 _ _ (0, 0) (block_new w _)]; rfl
  have cB : w1.cell? ⟨w.heap.size, 2, none⟩ = some (.complex .f64 x y) := by rw [← HW.out, cell_of_row _ w.heap.size 2 _ _ (0, 0) (block_new w _)]; rfl
  go_wp2_with fail
  have hbs : w0.heap.size ≤ ((w1.alloc (.cells #[.int .i64 k, .int .i64 s, .complex .f64 x y] 44)).drew).heap.size := by
    have e : ((w1.alloc (.cells #[.int .i64 k, .int .i64 s, .complex .f64 x y] 44)).drew).heap.size = w1.heap.size + 1 := World.size_alloc _ _
    have := H.out.only.size
    rw [e]; omega
  have Hown := Lib.hid (show ((w1.alloc (.cells #[.int .i64 k, .int .i64 s, .complex .f64 x y] 44)).drew).ownsRow w0.heap.size 44 3 _ _ _ from World.ownsRow.alloc ho1 (.cells #[.int .i64 k, .int .i64 s, .complex .f64 x y] 44))
  have Hnews := Lib.hid (show ∀ j u, (Nd.l ⟨k, s, x, y⟩)[j]? = some u → ((w1.alloc (.cells #[.int .i64 k, .int .i64 s, .complex .f64 x y] 44)).drew).cell? ((⟨w1.heap.size, 0, none⟩ : Addr).add j) = some u from one_cellN w1 ⟨k, s, x, y⟩)
  have Hone := Lib.hid (one_oneN ⟨k, s, x, y⟩)
  have hrX : (w1.alloc (.cells #[.int .i64 k, .int .i64 s, .complex .f64 x y] 44)).heap[B]? = some (.cells #[.slice p0 m cap0, .string ⟨l.toArray⟩] 82 (0, 0)) := (((Below.refl w1.heap.size w1).alloc (Nat.le_refl _) _).block B (lt_of_block Hr.out)).trans Hr.out
  have cX : (w1.alloc (.cells #[.int .i64 k, .int .i64 s, .complex .f64 x y] 44)).cell? ⟨B, 0, none⟩ = some (.slice p0 m cap0) := by simp only [World.cell?, hrX]; rfl
  have HrX := Lib.hid hrX
  clear ho1 hrX
  go_region_law (first
    | (refine step_append_lies _ rfl (.tmp 15) (.tmp 17) 24 rfl w0.heap.size 44 i0 (.agg #[.int .i64 0, .int .i64 0, .complex .f64 0 0]) 3 32 Tryz.underlying24 Hi.out.1 Hi.out.2.1 Hi.out.2.2.1 Hi.out.2.2.2 rfl (by decide) (.slice p0 m cap0) m (cN xs) (by simp [Act.eval]) Hown.out ⟨w1.heap.size, 0, none⟩ 1 1 (Nd.l ⟨k, s, x, y⟩) (by simp [Act.eval]) rfl Hnews.out Hone.out (by omega) hn63 hnby hbs _ rfl ?_
       intro g cap1 w6 hown1 hgrow1 hat1 hlt1
       have hR6 : w6.heap[B]? = some (.cells #[.slice p0 m cap0, .string ⟨l.toArray⟩] 82 (0, 0)) := (hgrow1.block B (lt_of_block HrX.out) (fun e => by have := (Hown.out.lt B e.symm).1; have := H.out.lt; omega)).trans HrX.out
       have f0 : w6.frozen? ⟨B, 0, none⟩ = false := (by simp [World.frozen?, hR6])
       have c6 : w6.cell? ⟨B, 0, none⟩ = some (.slice p0 m cap0) := (by simp [World.cell?, hR6])))
  all_goals
    have H6 := Lib.hid (show Ps w0 B (xs ++ [⟨k, s, x, y⟩]) l (w6.setCell ⟨B, 0, none⟩ (.slice (some ⟨g, 0, none⟩) (m + 1) cap1)) from by
      have hg : w0.heap.size ≤ g := (hown1.lt g rfl).1
      have hlt := H.out.lt
      refine ⟨(only_grown (only_drew (H.out.only.alloc _)) hgrow1 (fun k hk => (Hown.out.lt k hk).1)).setCell _ _, ⟨_, block_setCell hR6 _, ?_⟩, hlt, H.out.len⟩
      rw [List.length_append, Hm.out.1]
      unfold OwnN
      rw [← cN_snoc]
      exact ownsRow_setCell_other (a := ⟨B, 0, none⟩) hown1 (by simp only [Value.ownBlock, ne_eq, Option.some.injEq]; omega) _)
    clear hown1 hgrow1 hat1 hlt1 hR6 f0 c6
    go_wp2_with fail
    exact bodyPost_end (v := .tuple #[]) (by simp [results, Tryz.results63]) rfl ⟨rfl, H6.out⟩
end Go.Proofs.YtlngplohnknhjaaGreatDoor.Px
