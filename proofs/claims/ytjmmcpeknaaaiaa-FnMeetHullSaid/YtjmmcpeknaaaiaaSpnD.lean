/- The model's draw of two spans and a number of each. -/
import Derived.Test.YtjmmcpeknaaaiaaSpnK
import Derived.Test.YtjmmcpeknaaaiaaAvgL
import Derived.Test.YtjmmcpeknaaaiaaSpnE
namespace Go.Proofs.Ytjmmcpeknaaaiaa.Spn
open Go.ChangeShapes Go.WideShapes Go.ChangeAt Go.RowKit Go.Deep Go.Proofs.Ytjmmcpeknaaaiaa Go.Proofs.Ytjmmcpeknaaaiaa.Flt Go.Proofs.Ytjmmcpeknaaaiaa.Mth Go.Proofs.Ytjmmcpeknaaaiaa.Drw
open Go.Proofs.Ytjmmcpeknaaaiaa.Avg (meanN meanB spec_mean mean_facts)
open Ieee (single double)
set_option linter.unusedVariables false
set_option linter.unusedSimpArgs false
set_option maxRecDepth 20000
theorem row_lt {w : World} {a : Option Addr} {len cap : Nat} {zs : List Int} (h : IsRow .u8 w a len cap zs) : ∀ x, a = some x → 0 < cap → x.block < w.heap.size := by
  rintro x rfl hc
  rcases h with ⟨e, _⟩ | ⟨y, e, h1, h2, h3, h4, _⟩
  · cases e
  · cases e
    have := World.block_lt_of_cell? w _ (h4 0 (by omega))
    unfold Addr.add at this
    split at this <;> exact this
theorem mean_num {n : Nat} {X : Nat → Nat} (h : meanB n X = true) : isNaN single (meanN n X) = false ∧ meanN n X < 4294967296 := by
  obtain ⟨_, _, h1, h2⟩ := mean_facts h
  exact ⟨narrow_nan h2, floatToFloat_lt h2 (floatBits_wf h1)⟩
theorem Blk.pair {w : World} {A C x y u v : Nat} {T : TypeId} (h1 : Blk w A #[.float .f32 x, .float .f32 y] T) (h2 : Blk w C #[.float .f32 u, .float .f32 v] T) (hne : A ≠ C) (x' y' u' v' : Nat) :
    ((((w.setCell ⟨A, 0, none⟩ (.float .f32 x')).setCell ⟨A, 1, none⟩ (.float .f32 y')).setCell ⟨C, 0, none⟩ (.float .f32 u')).setCell ⟨C, 1, none⟩ (.float .f32 v')).cell? ⟨A, 0, none⟩ = some (.float .f32 x') ∧
    ((((w.setCell ⟨A, 0, none⟩ (.float .f32 x')).setCell ⟨A, 1, none⟩ (.float .f32 y')).setCell ⟨C, 0, none⟩ (.float .f32 u')).setCell ⟨C, 1, none⟩ (.float .f32 v')).cell? ⟨A, 1, none⟩ = some (.float .f32 y') ∧
    ((((w.setCell ⟨A, 0, none⟩ (.float .f32 x')).setCell ⟨A, 1, none⟩ (.float .f32 y')).setCell ⟨C, 0, none⟩ (.float .f32 u')).setCell ⟨C, 1, none⟩ (.float .f32 v')).cell? ⟨C, 0, none⟩ = some (.float .f32 u') ∧
    ((((w.setCell ⟨A, 0, none⟩ (.float .f32 x')).setCell ⟨A, 1, none⟩ (.float .f32 y')).setCell ⟨C, 0, none⟩ (.float .f32 u')).setCell ⟨C, 1, none⟩ (.float .f32 v')).cell? ⟨C, 1, none⟩ = some (.float .f32 v') := by
  have a := (h1.two x' y').2.2
  have c := Blk.other (a := ⟨A, 1, none⟩) (Blk.other (a := ⟨A, 0, none⟩) h2 (Ne.symm hne) (.float .f32 x')) (Ne.symm hne) (.float .f32 y')
  have c2 := (c.two u' v').2.2
  have a2 := Blk.other (a := ⟨C, 1, none⟩) (Blk.other (a := ⟨C, 0, none⟩) a hne (.float .f32 u')) hne (.float .f32 v')
  exact ⟨a2.cell 0 rfl, a2.cell 1 rfl, c2.cell 0 rfl, c2.cell 1 rfl⟩
/-- two valid spans of small ends and two numbers have been drawn -/
def SpansD (w : World) (e : Ending) (w' : World) : Prop := ∃ a b c d x y : Nat, (Sm a ∧ Sm b ∧ vW a ≤ vW b) ∧ (Sm c ∧ Sm d ∧ vW c ≤ vW d) ∧ (isNaN single x = false ∧ x < 4294967296) ∧ (isNaN single y = false ∧ y < 4294967296) ∧
  e = .returned (.tuple #[pv a b, pv c d, .float .f32 x, .float .f32 y]) ∧ Below w.heap.size w w'
set_option maxHeartbeats 4000000 in
theorem spans_any (a : Option Addr) (len cap : Nat) (zs : List Int) (w : World) (hr : IsRow .u8 w a len cap zs) :
    Calls Try.prog 29 #[.slice a len cap] w (SpansD w) := by
  have hrl := row_lt hr
  go_enter Try.func29, Try.ntmps29
  go_wp2_with fail
  obtain ⟨w0, hw0⟩ : ∃ w0, w0 = (w.alloc (.cells #[.float .f32 0, .float .f32 0] 32)).alloc (.cells #[.float .f32 0, .float .f32 0] 32) := ⟨_, rfl⟩
  have Hb0 := Lib.hid (show Below w.heap.size w w0 by rw [hw0]; go_grown)
  have HA0 := Lib.hid (show Blk w0 w.heap.size #[.float .f32 0, .float .f32 0] 32 ∧ Blk w0 (w.heap.size + 1) #[.float .f32 0, .float .f32 0] 32 by rw [hw0]; exact ⟨Blk.alloc (Blk.new rfl) _, Blk.new (by simp)⟩)
  have hr0 : IsRow .u8 w0 a len cap zs := Go.Proofs.Ytjmmcpeknaaaiaa.Drw.IsRow.below hr hrl Hb0.out
  rw [← hw0]
  clear hw0 hr hrl
  refine (new_any a len cap zs _ hr0).mono ?_
  rintro e w1 ⟨rfl, hc1, hb1⟩
  have HC1 := Lib.hid hc1
  have HB1 := Lib.hid (Hb0.out.trans (hb1.mono Hb0.out.size))
  have HA1 := Lib.hid (And.intro (HA0.out.1.keep hb1) (HA0.out.2.keep hb1))
  have Hz := Lib.hid (HA0.out.2.lt)
  clear hc1 hb1 hr0
  generalize w0.heap.size = B at *
  go_wp2_with fail
  refine (span_any _ _ _ HC1.out).mono ?_
  rintro e w2 ⟨a1, a2, s1, s2, s3, rfl, hc2, ho2⟩
  have HS1 := Lib.hid (And.intro s1 (And.intro s2 s3))
  have HC2 := Lib.hid hc2
  have HB2 := Lib.hid (HB1.out.trans (ho2.below (by have := Hz.out; omega) HB1.out.size))
  have HA2 := Lib.hid (And.intro (HA1.out.1.only ho2 (by have := Hz.out; omega)) (HA1.out.2.only ho2 (by have := Hz.out; omega)))
  clear s1 s2 s3 hc2 ho2
  unfold pv
  go_wp2_with fail
  refine (span_any _ _ _ (HC2.out.alloc _)).mono ?_
  rintro e w3 ⟨b1, b2, s1, s2, s3, rfl, hc3, ho3⟩
  have HS2 := Lib.hid (And.intro s1 (And.intro s2 s3))
  have HC3 := Lib.hid hc3
  have hl2 := HC2.out.lt
  have HB3 := Lib.hid ((Below.alloc HB2.out HB2.out.size _).trans (ho3.below (by have := Hz.out; omega) (Below.alloc HB2.out HB2.out.size _).size))
  have HA3 := Lib.hid (And.intro ((HA2.out.1.alloc _).only ho3 (by have := Hz.out; omega)) (And.intro ((HA2.out.2.alloc _).only ho3 (by have := Hz.out; omega)) (Blk.only (R := w2.heap.size) (vs := #[.float .f32 a1, .float .f32 a2]) (T := 32) (Blk.new rfl) ho3 (by omega))))
  clear s1 s2 s3 hc3 ho3 hl2
  unfold pv
  have t0 := HA3.out.2.2.cell 0 rfl
  have t1 := HA3.out.2.2.cell 1 rfl
  have tl := HA3.out.2.2.lt
  go_wp2_with fail
  have hlB : B < w2.heap.size := HC2.out.lt
  have hlB3 := HC3.out.lt
  have htl : w2.heap.size < w3.heap.size := HA3.out.2.2.lt
  refine (below_any _ _ 4 _ (HC3.out.alloc _) (by omega)).mono ?_
  rintro e w4 ⟨r, r0, r1, rfl, hc4, ho4⟩
  have r2 : r < 4 := r1 (by omega)
  have HB4 := Lib.hid ((Below.alloc HB3.out HB3.out.size _).trans (ho4.below (by have := Hz.out; omega) (Below.alloc HB3.out HB3.out.size _).size))
  have HA4 := Lib.hid (show Blk w4 w.heap.size #[.float .f32 0, .float .f32 0] 32 ∧ Blk w4 (w.heap.size + 1) #[.float .f32 0, .float .f32 0] 32 ∧ Blk w4 w2.heap.size #[.float .f32 a1, .float .f32 a2] 32 ∧ Blk w4 w3.heap.size #[.float .f32 b1, .float .f32 b2] 32 from
    ⟨(HA3.out.1.alloc _).only ho4 (by have := Hz.out; omega), (HA3.out.2.1.alloc _).only ho4 (by have := Hz.out; omega), (HA3.out.2.2.alloc _).only ho4 (by omega), Blk.only (Blk.new rfl) ho4 (by omega)⟩)
  have hA7 : w.heap.size + 1 < w2.heap.size := by have := Hz.out; omega
  clear hc4 ho4 r1 t0 t1 tl hlB hlB3
  generalize w2.heap.size = P7 at *
  generalize w3.heap.size = P8 at *
  have t0 := HA4.out.2.2.1.cell 0 rfl
  have t1 := HA4.out.2.2.1.cell 1 rfl
  have v0 := HA4.out.2.2.2.cell 0 rfl
  have v1 := HA4.out.2.2.2.cell 1 rfl
  have hrc : r = 0 ∨ r = 1 ∨ r = 2 ∨ r = 3 := by omega
  clear r0 r2
  have Hx := Lib.hid (And.intro (And.intro (fn_num HS1.out.1.fn) HS1.out.1.1) (And.intro (fn_num HS1.out.2.1.fn) HS1.out.2.1.1))
  have Hy := Lib.hid (And.intro (And.intro (fn_num HS2.out.1.fn) HS2.out.1.1) (And.intro (fn_num HS2.out.2.1.fn) HS2.out.2.1.1))
  clear t0 t1 v0 v1
  rcases hrc with rfl | rfl | rfl | rfl
  · have f0 := HA4.out.1.cell 0 rfl
    have f1 := HA4.out.1.cell 1 rfl
    have f2 := HA4.out.1.free 0
    have f3 := HA4.out.1.free 1
    have g0 := HA4.out.2.1.cell 0 rfl
    have g1 := HA4.out.2.1.cell 1 rfl
    have g2 := HA4.out.2.1.free 0
    have g3 := HA4.out.2.1.free 1
    have t0 := HA4.out.2.2.1.cell 0 rfl
    have t1 := HA4.out.2.2.1.cell 1 rfl
    have v0 := HA4.out.2.2.2.cell 0 rfl
    have v1 := HA4.out.2.2.2.cell 1 rfl
    go_wp2_with fail
    go_big_region
    go_wp2_with fail
    obtain ⟨d0, d1, d2, d3⟩ := Blk.pair HA4.out.1 HA4.out.2.1 (by omega) a1 a2 b1 b2
    refine bodyPost_ret (by simp [results, Try.results29, go_sem, d0, d1, d2, d3]; try rfl) rfl ?_
    refine ⟨a1, a2, b1, b2, a2, b2, HS1.out, HS2.out, Hx.out.2, Hy.out.2, rfl, ?_⟩
    (repeat' (first | exact HB4.out | refine Below.setCell ?_ ?_ _ | refine Below.drew ?_))
    all_goals (simp; try omega)
  · have f0 := HA4.out.1.cell 0 rfl
    have f1 := HA4.out.1.cell 1 rfl
    have f2 := HA4.out.1.free 0
    have f3 := HA4.out.1.free 1
    have g0 := HA4.out.2.1.cell 0 rfl
    have g1 := HA4.out.2.1.cell 1 rfl
    have g2 := HA4.out.2.1.free 0
    have g3 := HA4.out.2.1.free 1
    have t0 := HA4.out.2.2.1.cell 0 rfl
    have t1 := HA4.out.2.2.1.cell 1 rfl
    have v0 := HA4.out.2.2.2.cell 0 rfl
    have v1 := HA4.out.2.2.2.cell 1 rfl
    go_wp2_with fail
    go_big_region
    go_wp2_with fail
    obtain ⟨d0, d1, d2, d3⟩ := Blk.pair HA4.out.1 HA4.out.2.1 (by omega) a1 a2 b1 b2
    refine bodyPost_ret (by simp [results, Try.results29, go_sem, d0, d1, d2, d3]; try rfl) rfl ?_
    refine ⟨a1, a2, b1, b2, a1, b1, HS1.out, HS2.out, Hx.out.1, Hy.out.1, rfl, ?_⟩
    (repeat' (first | exact HB4.out | refine Below.setCell ?_ ?_ _ | refine Below.drew ?_))
    all_goals (simp; try omega)
  · have f0 := HA4.out.1.cell 0 rfl
    have f1 := HA4.out.1.cell 1 rfl
    have f2 := HA4.out.1.free 0
    have f3 := HA4.out.1.free 1
    have g0 := HA4.out.2.1.cell 0 rfl
    have g1 := HA4.out.2.1.cell 1 rfl
    have g2 := HA4.out.2.1.free 0
    have g3 := HA4.out.2.1.free 1
    have t0 := HA4.out.2.2.1.cell 0 rfl
    have t1 := HA4.out.2.2.1.cell 1 rfl
    have v0 := HA4.out.2.2.2.cell 0 rfl
    have v1 := HA4.out.2.2.2.cell 1 rfl
    have hlst := fun W (h : Blk W w4.heap.size #[.float .f32 a1, .float .f32 a2] 24) => spec_mean (some ⟨w4.heap.size, 0, none⟩) 2 2 (two a1 a2) W (by omega) (two_lst h (wf_single HS1.out.1.1) (wf_single HS1.out.2.1.1))
    have Hm := Lib.hid (fun h => mean_num (n := 2) (X := two a1 a2) h)
    generalize meanN 2 (two a1 a2) = m at *
    generalize meanB 2 (two a1 a2) = ok at *
    have Hl := Lib.hid hlst
    clear hlst
    go_wp2_with fail
    refine (Hl.out _ (Blk.new rfl)).mono ?_
    rintro e w5 ⟨rfl, nn, hw5⟩
    have HB5 := Lib.hid (show Below w.heap.size w w5 by rw [hw5]; exact below_drewN (Below.alloc HB4.out HB4.out.size _) _)
    have HA5 := Lib.hid (show Blk w5 w.heap.size #[.float .f32 0, .float .f32 0] 32 ∧ Blk w5 (w.heap.size + 1) #[.float .f32 0, .float .f32 0] 32 ∧ Blk w5 P7 #[.float .f32 a1, .float .f32 a2] 32 ∧ Blk w5 P8 #[.float .f32 b1, .float .f32 b2] 32 by
      rw [hw5]; exact ⟨(HA4.out.1.alloc _).drewN _, (HA4.out.2.1.alloc _).drewN _, (HA4.out.2.2.1.alloc _).drewN _, (HA4.out.2.2.2.alloc _).drewN _⟩)
    clear hw5 f0 f1 f2 f3 g0 g1 g2 g3 t0 t1 v0 v1
    have f0 := HA5.out.1.cell 0 rfl
    have f1 := HA5.out.1.cell 1 rfl
    have f2 := HA5.out.1.free 0
    have f3 := HA5.out.1.free 1
    have g0 := HA5.out.2.1.cell 0 rfl
    have g1 := HA5.out.2.1.cell 1 rfl
    have g2 := HA5.out.2.1.free 0
    have g3 := HA5.out.2.1.free 1
    have t0 := HA5.out.2.2.1.cell 0 rfl
    have t1 := HA5.out.2.2.1.cell 1 rfl
    have v0 := HA5.out.2.2.2.cell 0 rfl
    have v1 := HA5.out.2.2.2.cell 1 rfl
    cases ok
    · go_wp2_with fail
      go_big_region
      go_wp2_with fail
      obtain ⟨d0, d1, d2, d3⟩ := Blk.pair HA5.out.1 HA5.out.2.1 (by omega) a1 a2 b1 b2
      refine bodyPost_ret (by simp [results, Try.results29, go_sem, d0, d1, d2, d3]; try rfl) rfl ?_
      refine ⟨a1, a2, b1, b2, a1, b2, HS1.out, HS2.out, Hx.out.1, Hy.out.2, rfl, ?_⟩
      (repeat' (first | exact HB5.out | refine Below.setCell ?_ ?_ _ | refine Below.drew ?_))
      all_goals (simp; try omega)
    · have hm := Lib.hid (Hm.out (by first | rfl | trivial))
      go_wp2_with fail
      go_big_region
      go_wp2_with fail
      obtain ⟨d0, d1, d2, d3⟩ := Blk.pair HA5.out.1 HA5.out.2.1 (by omega) a1 a2 b1 b2
      refine bodyPost_ret (by simp [results, Try.results29, go_sem, d0, d1, d2, d3]; try rfl) rfl ?_
      refine ⟨a1, a2, b1, b2, m, b2, HS1.out, HS2.out, hm.out, Hy.out.2, rfl, ?_⟩
      (repeat' (first | exact HB5.out | refine Below.setCell ?_ ?_ _ | refine Below.drew ?_))
      all_goals (simp; try omega)
  · have f0 := HA4.out.1.cell 0 rfl
    have f1 := HA4.out.1.cell 1 rfl
    have f2 := HA4.out.1.free 0
    have f3 := HA4.out.1.free 1
    have g0 := HA4.out.2.1.cell 0 rfl
    have g1 := HA4.out.2.1.cell 1 rfl
    have g2 := HA4.out.2.1.free 0
    have g3 := HA4.out.2.1.free 1
    have t0 := HA4.out.2.2.1.cell 0 rfl
    have t1 := HA4.out.2.2.1.cell 1 rfl
    have v0 := HA4.out.2.2.2.cell 0 rfl
    have v1 := HA4.out.2.2.2.cell 1 rfl
    go_wp2_with fail
    go_big_region
    go_wp2_with fail
    obtain ⟨d0, d1, d2, d3⟩ := Blk.pair HA4.out.1 HA4.out.2.1 (by omega) a1 a2 b1 b2
    refine bodyPost_ret (by simp [results, Try.results29, go_sem, d0, d1, d2, d3]; try rfl) rfl ?_
    refine ⟨a1, a2, b1, b2, a1, b2, HS1.out, HS2.out, Hx.out.1, Hy.out.2, rfl, ?_⟩
    (repeat' (first | exact HB4.out | refine Below.setCell ?_ ?_ _ | refine Below.drew ?_))
    all_goals (simp; try omega)
end Go.Proofs.Ytjmmcpeknaaaiaa.Spn
