/- Contracts of the laws' helpers on lists of spans: the size, the copy, the comparison. -/
import Derived.Test.YtjmmcpeknaaaiaaSame
import Derived.Test.YtjmmcpeknaaaiaaFltX
import Derived.Deep.OwnRows
import Derived.Deep.RegionWith
namespace Go.Proofs.Ytjmmcpeknaaaiaa.Spn
open Go.ChangeShapes Go.WideShapes Go.ChangeAt Go.RowKit Go.Proofs.Ytjmmcpeknaaaiaa Go.Proofs.Ytjmmcpeknaaaiaa.Flt Go.Proofs.Ytjmmcpeknaaaiaa.Mth
set_option linter.unusedVariables false
theorem sz_any (a : Option Addr) (len cap : Nat) (left : Nat) (w : World) (hf : left ≤ 1048576) (h : len ≤ left) :
    Calls Try.prog 58 #[.slice a len cap, .int .i64 (left : Int)] w fun e w' => e = .returned (.int .i64 ((left - len : Nat) : Int)) ∧ w' = w := by
  have hn : ¬ (left : Int) < len := by omega
  go_enter Try.func58, Try.ntmps58
  go_wp2
  go_ret
  exact ⟨ret_int (by omega), rfl⟩
theorem sz_big (a : Option Addr) (len cap : Nat) (left : Nat) (w : World) (hl : (len : Int) ≤ 9223372036854775807) (hf : left ≤ 1048576) (h : left < len) :
    Calls Try.prog 58 #[.slice a len cap, .int .i64 (left : Int)] w fun e w' => e = .returned (.int .i64 (-1)) ∧ w' = w := by
  have hn : (left : Int) < len := by omega
  go_enter Try.func58, Try.ntmps58
  go_wp2
  go_ret
  exact ⟨rfl, rfl⟩
theorem sz_alloc (w : World) (o : Obj) : (w.alloc o).heap.size = w.heap.size + 1 := by
  show (w.heap.push o).size = _
  simp
/-- a span as a value -/
def pv (x y : Nat) : Value := .agg #[.float .f32 x, .float .f32 y]
theorem toSpan_any (x y : Nat) (w : World) :
    Calls Try.prog 40 #[.agg #[.float .f32 x, .float .f32 y]] w fun e w' => e = .returned (.agg #[.float .f32 x, .float .f32 y]) ∧ Below w.heap.size w w' := by
  go_enter Try.func40, Try.ntmps40
  go_wp2
  refine bodyPost_ret (results_cell_row rfl _ _ (w.heap.size + 1) 32 #[.float .f32 x, .float .f32 y] (0, 0) _ rfl (by rw [heap_alloc_old _ _ (by rw [sz_alloc, sz_alloc]; omega)]; exact heap_alloc2_new _ _ _) Try.underlying32 rfl (by kernel_rfl)) rfl ?_
  exact ⟨rfl, (((Below.refl _ _).alloc (Nat.le_refl _) _).alloc (by rw [sz_alloc]; omega) _).alloc (by rw [sz_alloc, sz_alloc]; omega) _⟩
theorem infoP : (Try.prog.info? 32).map (fun i => (i.zero, i.size, i.bytes)) = some (some (pv 0 0), 2, 8) := by kernel_rfl
theorem make_any (len : Nat) (hl : len ≤ 1048576) (w : World) :
    (Instr.makeSlice 43 (.int .i64 (len : Int)) (.int .i64 (len : Int))).run Try.prog w = .ok (.slice (some ⟨w.heap.size, 0, none⟩) len len) (w.alloc (.cells (madeCells #[.float .f32 0, .float .f32 0] (len * 2)) 32)) := by
  obtain ⟨i, hi, hzz⟩ := Option.map_eq_some_iff.1 infoP
  simp only [Prod.mk.injEq] at hzz
  obtain ⟨hz, hs, hb⟩ := hzz
  have h := run_make (P := Try.prog) w 43 32 i _ Try.underlying43 hi hz .i64 .i64 len len (by omega) (by omega) (by rw [hb]; omega) (by omega)
  rw [hs] at h
  rw [show (pv 0 0).cells = #[.float .f32 0, .float .f32 0] from rfl] at h
  simpa using h
/-- the cells while the copy is made: those below 'm' are there -/
def part (X : Nat → Nat) (m : Nat) : Nat → Value := fun j => if j < m then .float .f32 (X j) else .float .f32 0
theorem made_row (len : Nat) (w : World) : (w.alloc (.cells (madeCells #[.float .f32 0, .float .f32 0] (len * 2)) 32)).rowIs w.heap.size 32 (2 * len) (part (fun _ => 0) 0) := by
  refine ⟨_, Go.Deep.blk_alloc_new _ _, by rw [size_madeCells]; omega, fun i hi => ?_⟩
  have h3 : i % 2 = 0 ∨ i % 2 = 1 := by omega
  have hi' : i < len * 2 := by omega
  rcases h3 with h3 | h3 <;> simp [madeCells, hi', h3, part]
theorem part_step {X : Nat → Nat} {w : World} {B T n k : Nat} (hk : k * 2 + 2 ≤ n) (h : w.rowIs B T n (part X (k * 2))) :
    ((w.setCell ⟨B, k * 2, none⟩ (.float .f32 (X (k * 2)))).setCell ⟨B, k * 2 + 1, none⟩ (.float .f32 (X (k * 2 + 1)))).rowIs B T n (part X ((k + 1) * 2)) := by
  refine ((h.set (k * 2) _).set (k * 2 + 1) _).congr fun j hj => ?_
  unfold part
  by_cases h1 : j = k * 2 + 1
  · subst h1; rw [if_pos rfl, if_pos (by omega)]
  · rw [if_neg h1]
    by_cases h0 : j = k * 2
    · subst h0; rw [if_pos rfl, if_pos (by omega)]
    · rw [if_neg h0]
      by_cases hj' : j < k * 2
      · rw [if_pos hj', if_pos (by omega)]
      · rw [if_neg hj', if_neg (by omega)]
/-- the cells of 'n' points, by twos -/
def Cells (w : World) (b off n : Nat) (X : Nat → Nat) : Prop := ∀ i, i < n → w.cell? ⟨b, off + i * 2, none⟩ = some (.float .f32 (X (i * 2))) ∧ w.cell? ⟨b, off + i * 2 + 1, none⟩ = some (.float .f32 (X (i * 2 + 1)))
theorem Cells.keep {w w' : World} {b off n B : Nat} {X : Nat → Nat} (h : Cells w b off n X) (hb : b < B) (hbel : Below B w w') : Cells w' b off n X := fun i hi => by
  obtain ⟨h0, h1⟩ := h i hi
  refine ⟨?_, ?_⟩
  · rw [hbel.cell (by exact hb)]; exact h0
  · rw [hbel.cell (by exact hb)]; exact h1
theorem Cells.drewN {w : World} {b off n : Nat} {X : Nat → Nat} (h : Cells w b off n X) (m : Nat) : Cells (w.drewN m) b off n X := h
theorem cells_of_row {w : World} {B T n : Nat} {X : Nat → Nat} (h : w.rowIs B T (2 * n) (part X (n * 2))) : Cells w B 0 n X := fun i hi => by
  have e : ∀ j, j < n * 2 → w.cell? ⟨B, j, none⟩ = some (.float .f32 (X j)) := fun j hj => by
    rw [h.cell (by omega)]; unfold part; rw [if_pos hj]
  rw [Nat.zero_add]
  exact ⟨e _ (by omega), e _ (by omega)⟩
set_option maxHeartbeats 400000 in
theorem toSpanS_any (b off len cap : Nat) (X : Nat → Nat) (w : World) (hl : len ≤ 1048576) (hb : b < w.heap.size) (hcells : Cells w b off len X) :
    Calls Try.prog 60 #[.slice (some ⟨b, off, none⟩) len cap] w fun e w' => e = .returned (.slice (some ⟨w.heap.size, 0, none⟩) len len) ∧ Below w.heap.size w w' ∧ w'.rowIs w.heap.size 32 (2 * len) (part X (len * 2)) := by
  have hmk := make_any len hl
  have Hc := Lib.hid hcells
  have Hst := Lib.hid (And.intro ((Below.refl w.heap.size w).alloc (Nat.le_refl _) (.cells (madeCells #[.float .f32 0, .float .f32 0] (len * 2)) 32)) (made_row len w))
  clear hcells
  generalize hB : w.heap.size = B at *
  go_enter Try.func60, Try.ntmps60
  go_wp2
  go_loopw [4] (fun i wr => ∃ k : Nat, i = .int .i64 k ∧ k ≤ len ∧ Below B w wr ∧ wr.rowIs B 32 (2 * len) (part X (k * 2)))
    (fun i _ => len - (intOf i).toNat)
  case atStart => exact ⟨0, rfl, Nat.zero_le _, Hst.out.1, Hst.out.2.congr fun j _ => by simp [part]⟩
  case round =>
    obtain ⟨k, rfl, hk, hbel, hrow⟩ := hrel
    by_cases hkl : k < len
    · obtain ⟨hc0, hc1⟩ := (Hc.out.keep hb hbel) k hkl
      have Hbel := Lib.hid hbel
      have Hrow := Lib.hid hrow
      clear hbel hrow
      go_wp2_with (first | (go_at_call 40; refine (toSpan_any _ _ _).mono ?_; rintro e w1 ⟨rfl, hb1⟩; have hr1 := Hrow.out.of_block (hb1.block B Hrow.out.lt); have d0 := hr1.cell (i := k * 2) (by omega); have d1 := hr1.cell (i := k * 2 + 1) (by omega); have f0 := hr1.frozen (k * 2); have f1 := hr1.frozen (k * 2 + 1); have Hr1 := Lib.hid hr1; have Hb1 := Lib.hid (Hbel.out.trans (hb1.mono (Nat.le_of_lt Hrow.out.lt))); clear hr1 hb1))
      go_roundw
      case rel => exact ⟨k + 1, by go_num, by omega, (Hb1.out.setCell (Nat.le_refl _) _).setCell (Nat.le_refl _) _, part_step (by omega) Hr1.out⟩
      case measure => simp [intOf]; omega
    · obtain rfl : k = len := by omega
      have Hbel := Lib.hid hbel
      have Hrow := Lib.hid hrow
      clear hbel hrow
      go_wp2
      go_ret
      exact ⟨rfl, Hbel.out, Hrow.out⟩
theorem toSpanS_none (a : Option Addr) (cap : Nat) (w : World) :
    Calls Try.prog 60 #[.slice a 0 cap] w fun e w' => e = .returned (.slice (some ⟨w.heap.size, 0, none⟩) 0 0) ∧ Below w.heap.size w w' ∧ w'.rowIs w.heap.size 32 0 (part (fun _ => 0) 0) := by
  have hmk : ∀ w : World, (Instr.makeSlice 43 (.int .i64 0) (.int .i64 0)).run Try.prog w = _ := make_any 0 (by omega)
  have Hst := Lib.hid (And.intro ((Below.refl w.heap.size w).alloc (Nat.le_refl _) (.cells (madeCells #[.float .f32 0, .float .f32 0] (0 * 2)) 32)) (made_row 0 w))
  go_enter Try.func60, Try.ntmps60
  go_wp2
  refine wp_loop_rounds 1 ?_
  rw [rounds_succ]
  go_wp2
  go_ret
  exact ⟨rfl, Hst.out.1, Hst.out.2⟩
theorem same_wid {x r s : Nat} (wx : (Lit.float .f32 x).wf = true) (hr : Wid x r) (hs' : Wid x s) (w : World) :
    Calls Try.prog 42 #[.float .f64 r, .float .f64 s] w fun e w' => e = .returned (.bool true) ∧ w' = w := by
  refine (sameFloat_any r s w hr.1 hs'.1).mono ?_
  rintro e w' ⟨rfl, rfl⟩
  rw [sameW_wid wx wx hr hs', sameW_refl]
  exact ⟨rfl, rfl⟩
theorem eqSpan_any (x y : Nat) (w : World) (wx : (Lit.float .f32 x).wf = true) (wy : (Lit.float .f32 y).wf = true) :
    Calls Try.prog 48 #[.agg #[.float .f32 x, .float .f32 y], .agg #[.float .f32 x, .float .f32 y]] w fun e w' => e = .returned (.bool true) ∧ Below w.heap.size w w' := by
  have h25 : (Try.prog.underlying 24).isSome = true := by rw [Try.underlying24]; rfl
  have k1 := fun w => run_widX (P := Try.prog) 24 28 x h25 Try.underlying28 w
  have k2 := fun w => run_widX (P := Try.prog) 24 28 y h25 Try.underlying28 w
  have HB := Lib.hid (((Below.refl w.heap.size w).alloc (Nat.le_refl _) (.cells #[.float .f32 x, .float .f32 y] 32)).alloc (by rw [sz_alloc]; omega) (.cells #[.float .f32 x, .float .f32 y] 32))
  clear h25
  go_enter Try.func48, Try.ntmps48
  go_wp2_with fail
  refine (same_wid wx (widX_wid _ _) (widX_wid _ _) _).mono ?_
  rintro e w' ⟨rfl, rfl⟩
  go_wp2_with fail
  refine (same_wid wy (widX_wid _ _) (widX_wid _ _) _).mono ?_
  rintro e w' ⟨rfl, rfl⟩
  go_wp2_with fail
  go_ret
  exact ⟨rfl, below_drewN HB.out _⟩
def Wf (n : Nat) (X : Nat → Nat) : Prop := ∀ i, i < n → (Lit.float .f32 (X (i * 2))).wf = true ∧ (Lit.float .f32 (X (i * 2 + 1))).wf = true
set_option maxHeartbeats 400000 in
theorem eqSpanS_any (b off c off' len cap cap' : Nat) (X : Nat → Nat) (w : World) (hl : len ≤ 1048576) (hb : b < w.heap.size) (hc : c < w.heap.size) (h1 : Cells w b off len X) (h2 : Cells w c off' len X) (hw : Wf len X) :
    Calls Try.prog 61 #[.slice (some ⟨b, off, none⟩) len cap, .slice (some ⟨c, off', none⟩) len cap'] w fun e w' => e = .returned (.bool true) ∧ Below w.heap.size w w' := by
  have H1 := Lib.hid h1
  have H2 := Lib.hid h2
  have HW := Lib.hid hw
  clear h1 h2 hw
  have Hst := Lib.hid (Below.refl w.heap.size w)
  generalize hB : w.heap.size = B at *
  go_enter Try.func61, Try.ntmps61
  go_wp2
  go_loopw [5] (fun i wr => ∃ k : Nat, i = .int .i64 k ∧ k ≤ len ∧ Below B w wr)
    (fun i _ => len - (intOf i).toNat)
  case atStart => exact ⟨0, rfl, Nat.zero_le _, Hst.out⟩
  case round =>
    obtain ⟨k, rfl, hk, hbel⟩ := hrel
    by_cases hkl : k < len
    · obtain ⟨a0, a1⟩ := (H1.out.keep hb hbel) k hkl
      obtain ⟨c0, c1⟩ := (H2.out.keep hc hbel) k hkl
      obtain ⟨v0, v1⟩ := HW.out k hkl
      have Hbel := Lib.hid hbel
      have hsz : B ≤ wr.heap.size := by rw [← hB]; exact hbel.size
      clear hbel
      go_wp2_with fail
      go_region_with (go_at_call 48; refine (eqSpan_any _ _ _ v0 v1).mono ?_; rintro e w1 ⟨rfl, hb1⟩; have Hb1 := Lib.hid (Hbel.out.drew.trans (hb1.mono hsz)); clear hb1)
      all_goals
        go_wp2
        go_roundw
        case rel => exact ⟨k + 1, by go_num, by omega, Hb1.out⟩
        case measure => simp [intOf]; omega
    · obtain rfl : k = len := by omega
      have Hbel := Lib.hid hbel
      clear hbel
      go_wp2
      go_ret
      exact ⟨rfl, Hbel.out⟩
theorem eqSpanS_none (a a' : Option Addr) (cap cap' : Nat) (w : World) :
    Calls Try.prog 61 #[.slice a 0 cap, .slice a' 0 cap'] w fun e w' => e = .returned (.bool true) ∧ w' = w := by
  go_enter Try.func61, Try.ntmps61
  go_wp2
  refine wp_loop_rounds 1 ?_
  rw [rounds_succ]
  go_wp2
  go_ret
  exact ⟨rfl, rfl⟩
end Go.Proofs.Ytjmmcpeknaaaiaa.Spn
