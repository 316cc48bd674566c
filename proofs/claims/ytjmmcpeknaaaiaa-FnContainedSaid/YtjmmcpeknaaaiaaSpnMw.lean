/- Products of spans in the program, at small ends: the ends, widened; their four products. -/
import Derived.Test.YtjmmcpeknaaaiaaSpnAd
import Derived.Test.YtjmmcpeknaaaiaaSpnOd
namespace Go.Proofs.Ytjmmcpeknaaaiaa.Spn
open Go.ChangeShapes Go.WideShapes Go.ChangeAt Go.RowKit Go.Deep Go.Proofs.Ytjmmcpeknaaaiaa Go.Proofs.Ytjmmcpeknaaaiaa.Flt Go.Proofs.Ytjmmcpeknaaaiaa.Mth
open Ieee (single double)
set_option linter.unusedVariables false
set_option linter.unusedSimpArgs false
set_option maxRecDepth 20000
theorem wide_any (a b xa xb : Nat) (w : World) (ka : ∀ w, (convert 24 28 (.float .f32 a)).run Try.prog w = .ok (.float .f64 xa) w) (kb : ∀ w, (convert 24 28 (.float .f32 b)).run Try.prog w = .ok (.float .f64 xb) w) :
    Calls Try.prog 113 #[.agg #[.float .f32 a, .float .f32 b]] w fun e w' => e = .returned (.agg #[.float .f64 xa, .float .f64 xb]) ∧
      w' = (w.alloc (.cells #[.float .f32 a, .float .f32 b] 74)).alloc (.cells #[.float .f64 xa, .float .f64 xb] 114) := by
  go_enter Try.func113, Try.ntmps113
  go_wp2_with fail
  refine bodyPost_ret (by simp [results, Try.results113, go_sem]; try rfl) rfl ?_
  exact ⟨rfl, rfl⟩
/-- the first k products, zeros behind them -/
def cl (p0 p1 p2 p3 k : Nat) : Array Value := #[.float .f64 (if 0 < k then p0 else 0), .float .f64 (if 1 < k then p1 else 0), .float .f64 (if 2 < k then p2 else 0), .float .f64 (if 3 < k then p3 else 0)]
set_option maxHeartbeats 4000000 in
theorem prods_any (a b c d xa xb xc xd p0 p1 p2 p3 : Nat) (w : World)
    (ka : ∀ w, (convert 24 28 (.float .f32 a)).run Try.prog w = .ok (.float .f64 xa) w) (kb : ∀ w, (convert 24 28 (.float .f32 b)).run Try.prog w = .ok (.float .f64 xb) w)
    (kc : ∀ w, (convert 24 28 (.float .f32 c)).run Try.prog w = .ok (.float .f64 xc) w) (kd : ∀ w, (convert 24 28 (.float .f32 d)).run Try.prog w = .ok (.float .f64 xd) w)
    (m0 : ∀ w, (binOp .mul 28 (.float .f64 xa) (.float .f64 xc)).run Try.prog w = .ok (.float .f64 p0) w) (m1 : ∀ w, (binOp .mul 28 (.float .f64 xa) (.float .f64 xd)).run Try.prog w = .ok (.float .f64 p1) w)
    (m2 : ∀ w, (binOp .mul 28 (.float .f64 xb) (.float .f64 xc)).run Try.prog w = .ok (.float .f64 p2) w) (m3 : ∀ w, (binOp .mul 28 (.float .f64 xb) (.float .f64 xd)).run Try.prog w = .ok (.float .f64 p3) w) :
    Calls Try.prog 101 #[ivv a b true, ivv c d true] w fun e w' => e = .returned (.agg #[.float .f64 p0, .float .f64 p1, .float .f64 p2, .float .f64 p3]) ∧ Below w.heap.size w w' := by
  have h1 := fun w => wide_any a b xa xb w ka kb
  have h2 := fun w => wide_any c d xc xd w kc kd
  clear ka kb kc kd
  have M := Lib.hid (And.intro m0 (And.intro m1 (And.intro m2 m3)))
  clear m0 m1 m2 m3
  unfold ivv
  go_enter Try.func101, Try.ntmps101
  go_wp2_with fail
  obtain ⟨w0, hw0⟩ : ∃ w0, w0 = (((w.alloc (.cells #[.float .f32 a, .float .f32 b, .bool true] 76)).alloc (.cells #[.float .f32 c, .float .f32 d, .bool true] 76)).alloc (.cells #[.float .f64 0, .float .f64 0, .float .f64 0, .float .f64 0] 106)).alloc (.cells #[.float .f64 0, .float .f64 0, .float .f64 0, .float .f64 0] 106) := ⟨_, rfl⟩
  have Hb0 := Lib.hid (show Below w.heap.size w w0 by rw [hw0]; go_grown)
  have Hr0 := Lib.hid (show Blk w0 (w.heap.size + 1 + 1) #[.float .f64 0, .float .f64 0, .float .f64 0, .float .f64 0] 106 by rw [hw0]; exact (Blk.new (by simp)).alloc _)
  have Hs0 := Lib.hid (show Blk w0 (w.heap.size + 1 + 1 + 1) #[.float .f64 0, .float .f64 0, .float .f64 0, .float .f64 0] 106 by rw [hw0]; exact Blk.new (by simp))
  have hz : w0.heap.size = w.heap.size + 1 + 1 + 1 + 1 := by rw [hw0]; simp
  have b0 : w0.cell? ⟨w.heap.size, 0, none⟩ = some (.float .f32 a) := by rw [hw0]; go_cell
  have b1 : w0.cell? ⟨w.heap.size, 1, none⟩ = some (.float .f32 b) := by rw [hw0]; go_cell
  have b2 : w0.cell? ⟨w.heap.size + 1, 0, none⟩ = some (.float .f32 c) := by rw [hw0]; go_cell
  have b3 : w0.cell? ⟨w.heap.size + 1, 1, none⟩ = some (.float .f32 d) := by rw [hw0]; go_cell
  rw [← hw0]
  clear hw0
  rename_i K hK
  have hQ : ∀ r s w1, (Below w0.heap.size w0 w1 ∧ Blk w1 r #[.float .f64 xa, .float .f64 xb] 114 ∧ Blk w1 s #[.float .f64 xc, .float .f64 xd] 114 ∧ r ≠ s ∧ w0.heap.size ≤ r ∧ w0.heap.size ≤ s) → K
      { tmps := #[.agg #[.float .f32 a, .float .f32 b, .bool true], .agg #[.float .f32 c, .float .f32 d, .bool true], .pointer (some ⟨w.heap.size, 0, none⟩), .pointer (some ⟨w.heap.size + 1, 0, none⟩), .pointer (some ⟨w.heap.size + 1 + 1, 0, none⟩), .pointer (some ⟨w.heap.size + 1 + 1 + 1, 0, none⟩),
          .pointer (some ⟨r, 0, none⟩), .pointer (some ⟨s, 0, none⟩), undef, .pointer (some ⟨w.heap.size, 0, none⟩), .agg #[.float .f32 a, .float .f32 b], .agg #[.float .f64 xa, .float .f64 xb], .pointer (some ⟨w.heap.size + 1, 0, none⟩), .agg #[.float .f32 c, .float .f32 d], .agg #[.float .f64 xc, .float .f64 xd],
          undef, undef, undef, undef, undef, undef, undef, undef, undef, undef, undef, undef, undef, undef, undef, undef], defers := [] } w1 := by
    rintro r s w1 ⟨hb1, hr, hs, hne, hr1, hs1⟩
    apply hK
    have G := Lib.hid (And.intro (Hb0.out.trans (hb1.mono Hb0.out.size)) (And.intro (Hr0.out.keep hb1) (And.intro (Hs0.out.keep hb1) (And.intro hr hs))))
    have N := Lib.hid (And.intro hne (And.intro hr1 (And.intro hs1 hz)))
    clear hb1 hr hs hne hr1 hs1 b0 b1 b2 b3 Hr0 Hs0 Hb0 hK h1 h2
    go_wp2_with fail
    go_loopw [15] (fun i wr => ∃ k : Nat, i = .int .i64 k ∧ k ≤ 4 ∧ Below w.heap.size w wr ∧ Blk wr (w.heap.size + 1 + 1) #[.float .f64 0, .float .f64 0, .float .f64 0, .float .f64 0] 106 ∧ Blk wr (w.heap.size + 1 + 1 + 1) (cl p0 p1 p2 p3 k) 106 ∧ Blk wr r #[.float .f64 xa, .float .f64 xb] 114 ∧ Blk wr s #[.float .f64 xc, .float .f64 xd] 114)
      (fun i _ => 4 - (intOf i).toNat)
    case atStart => exact ⟨0, rfl, by omega, G.out.1, G.out.2.1, G.out.2.2.1, G.out.2.2.2.1, G.out.2.2.2.2⟩
    case round =>
      obtain ⟨k, rfl, hk, g1, g2, g3, g4, g5⟩ := hrel
      have c0 := g4.cell 0 rfl
      have c1 := g4.cell 1 rfl
      have d0 := g5.cell 0 rfl
      have d1 := g5.cell 1 rfl
      have z0 := g3.free 0
      have z1 := g3.free 1
      have z2 := g3.free 2
      have z3 := g3.free 3
      have e0 := g3.cell 0 rfl
      have e1 := g3.cell 1 rfl
      have e2 := g3.cell 2 rfl
      have e3 := g3.cell 3 rfl
      have GG := Lib.hid (And.intro g1 (And.intro g2 (And.intro g3 (And.intro g4 g5))))
      clear g1 g2 g3 g4 g5
      obtain ⟨m0, m1, m2, m3⟩ := M.out
      rcases (show k = 0 ∨ k = 1 ∨ k = 2 ∨ k = 3 ∨ k = 4 by omega) with rfl | rfl | rfl | rfl | rfl
      · go_wp2_with fail
        go_big_region
        go_wp2_with fail
        go_roundw
        case rel =>
          have hn := N.out
          exact ⟨1, by go_num, by omega, below_drewN (GG.out.1.setCell (by first | omega | (simp; omega)) _) 1, GG.out.2.1.other (by first | omega | (simp; done) | (simp; omega)) _, GG.out.2.2.1.set 0 _, GG.out.2.2.2.1.other (by first | omega | (simp; omega)) _, GG.out.2.2.2.2.other (by first | omega | (simp; omega)) _⟩
        case measure => simp [intOf]
      · go_wp2_with fail
        go_big_region
        go_wp2_with fail
        go_roundw
        case rel =>
          have hn := N.out
          exact ⟨2, by go_num, by omega, below_drewN (GG.out.1.setCell (by first | omega | (simp; omega)) _) 1, GG.out.2.1.other (by first | omega | (simp; done) | (simp; omega)) _, GG.out.2.2.1.set 1 _, GG.out.2.2.2.1.other (by first | omega | (simp; omega)) _, GG.out.2.2.2.2.other (by first | omega | (simp; omega)) _⟩
        case measure => simp [intOf]
      · go_wp2_with fail
        go_big_region
        go_wp2_with fail
        go_roundw
        case rel =>
          have hn := N.out
          exact ⟨3, by go_num, by omega, below_drewN (GG.out.1.setCell (by first | omega | (simp; omega)) _) 1, GG.out.2.1.other (by first | omega | (simp; done) | (simp; omega)) _, GG.out.2.2.1.set 2 _, GG.out.2.2.2.1.other (by first | omega | (simp; omega)) _, GG.out.2.2.2.2.other (by first | omega | (simp; omega)) _⟩
        case measure => simp [intOf]
      · go_wp2_with fail
        go_big_region
        go_wp2_with fail
        go_roundw
        case rel =>
          have hn := N.out
          exact ⟨4, by go_num, by omega, below_drewN (GG.out.1.setCell (by first | omega | (simp; omega)) _) 1, GG.out.2.1.other (by first | omega | (simp; done) | (simp; omega)) _, GG.out.2.2.1.set 3 _, GG.out.2.2.2.1.other (by first | omega | (simp; omega)) _, GG.out.2.2.2.2.other (by first | omega | (simp; omega)) _⟩
        case measure => simp [intOf]
      · have q0 : wr.cell? ⟨w.heap.size + 1 + 1 + 1, 0, none⟩ = some (.float .f64 p0) := e0
        have q1 : wr.cell? ⟨w.heap.size + 1 + 1 + 1, 1, none⟩ = some (.float .f64 p1) := e1
        have q2 : wr.cell? ⟨w.heap.size + 1 + 1 + 1, 2, none⟩ = some (.float .f64 p2) := e2
        have q3 : wr.cell? ⟨w.heap.size + 1 + 1 + 1, 3, none⟩ = some (.float .f64 p3) := e3
        have t0 := GG.out.2.1.cell 0 rfl
        have t1 := GG.out.2.1.cell 1 rfl
        have t2 := GG.out.2.1.cell 2 rfl
        have t3 := GG.out.2.1.cell 3 rfl
        have y0 := GG.out.2.1.free 0
        have y1 := GG.out.2.1.free 1
        have y2 := GG.out.2.1.free 2
        have y3 := GG.out.2.1.free 3
        clear e0 e1 e2 e3
        go_wp2_with fail
        have E := (((GG.out.2.1.set 0 (.float .f64 p0)).set 1 (.float .f64 p1)).set 2 (.float .f64 p2)).set 3 (.float .f64 p3)
        have r0 := E.cell 0 (v := .float .f64 p0) rfl
        have r1 := E.cell 1 (v := .float .f64 p1) rfl
        have r2 := E.cell 2 (v := .float .f64 p2) rfl
        have r3 := E.cell 3 (v := .float .f64 p3) rfl
        refine bodyPost_ret (by simp [results, Try.results101, go_sem, r0, r1, r2, r3]; try rfl) rfl ?_
        refine ⟨rfl, ?_⟩
        exact (((GG.out.1.setCell (by first | omega | (simp; omega)) _).setCell (by first | omega | (simp; omega)) _).setCell (by first | omega | (simp; omega)) _).setCell (by first | omega | (simp; omega)) _
  have HQ := Lib.hid hQ
  clear hQ
  have HP0 := Lib.hid (show Par w.heap.size (w.heap.size + 1) a b c d w0 from ⟨b0, b1, b2, b3⟩)
  have n0 := World.new_ne w0 _ b0
  have n2 := World.new_ne w0 _ b2
  go_region_held (fun w' => w'.cell? ⟨w.heap.size, 0, none⟩ = some (.float .f32 a) ∧ w'.cell? ⟨w.heap.size, 1, none⟩ = some (.float .f32 b) ∧ w'.cell? ⟨w.heap.size + 1, 0, none⟩ = some (.float .f32 c) ∧ w'.cell? ⟨w.heap.size + 1, 1, none⟩ = some (.float .f32 d)) ((refine Par.out ?_; (repeat (first | (with_reducible refine Par.alloc ?_ _) | (with_reducible refine Par.drew ?_) | (with_reducible refine Par.setCell ?_ ?_ ?_ _))); all_goals first | exact HP0.out | omega | (simp; omega))) (first | (go_at_call 113; (with_reducible refine (h1 _).mono ?_); rintro e w' ⟨rfl, rfl⟩) | (go_at_call 113; (with_reducible refine (h2 _).mono ?_); rintro e w' ⟨rfl, rfl⟩))
  all_goals
    refine HQ.out _ _ _ ⟨?_, ?_, ?_, ?_, ?_, ?_⟩
    · go_grown
    · (repeat (first | (with_reducible refine Blk.drew ?_) | (refine Blk.new ?_; (first | (simp; done) | (simp; omega) | omega)) | (with_reducible refine Blk.alloc ?_ _)))
    · (repeat (first | (with_reducible refine Blk.drew ?_) | (refine Blk.new ?_; (first | (simp; done) | (simp; omega) | omega)) | (with_reducible refine Blk.alloc ?_ _)))
    all_goals (first | omega | (simp; done) | (simp; omega))
end Go.Proofs.Ytjmmcpeknaaaiaa.Spn
