/- The laws' helpers on lists of singles: toFloat32S, eqFloat32S. -/
import Derived.Test.YtmnpmbliikalhaaRng
import Derived.Test.YtmnpmbliikalhaaQuiS
namespace Go.Proofs.Ytmnpmbliikalhaa.Sgl
open Go.ChangeShapes Go.WideShapes Go.ChangeAt Go.RowKit Go.Proofs.Ytmnpmbliikalhaa Go.Proofs.Ytmnpmbliikalhaa.Flt Go.Proofs.Ytmnpmbliikalhaa.Mth Go.Proofs.Ytmnpmbliikalhaa.Rng
set_option linter.unusedVariables false
theorem infoF : (Try.prog.info? 25).map (fun i => (i.zero, i.size, i.bytes)) = some (some (.float .f32 0), 1, 4) := by kernel_rfl
theorem makeF_any (len : Nat) (hl : len ≤ 1048576) (w : World) :
    (Instr.makeSlice 45 (.int .i64 (len : Int)) (.int .i64 (len : Int))).run Try.prog w = .ok (.slice (some ⟨w.heap.size, 0, none⟩) len len) (w.alloc (.cells (madeCells #[.float .f32 0] len) 25)) := by
  obtain ⟨i, hi, hzz⟩ := Option.map_eq_some_iff.1 infoF
  simp only [Prod.mk.injEq] at hzz
  obtain ⟨hz, hs, hb⟩ := hzz
  have h := run_make (P := Try.prog) w 45 25 i _ Try.underlying45 hi hz .i64 .i64 len len (by omega) (by omega) (by rw [hb]; omega) (by omega)
  rw [hs] at h
  rw [show (Value.float .f32 0).cells = #[.float .f32 0] from rfl] at h
  simpa [Nat.mul_one] using h
/-- the cells while the copy is made -/
def partF (X : Nat → Nat) (m : Nat) : Nat → Value := fun j => if j < m then .float .f32 (X j) else .float .f32 0
/-- the cells of 'n' singles -/
def CellsF (w : World) (b off n : Nat) (X : Nat → Nat) : Prop := ∀ i, i < n → w.cell? ⟨b, off + i, none⟩ = some (.float .f32 (X i))
theorem CellsF.keep {w w' : World} {b off n B : Nat} {X : Nat → Nat} (h : CellsF w b off n X) (hb : b < B) (hbel : Below B w w') : CellsF w' b off n X := fun i hi => by
  rw [hbel.cell (by exact hb)]; exact h i hi
theorem cellsF_of_row {w : World} {B T n : Nat} {X : Nat → Nat} (h : w.rowIs B T n (partF X n)) : CellsF w B 0 n X := fun i hi => by
  rw [Nat.zero_add, h.cell hi]; unfold partF; rw [if_pos hi]
theorem madeF_row (len : Nat) (w : World) : (w.alloc (.cells (madeCells #[.float .f32 0] len) 25)).rowIs w.heap.size 25 len (partF (fun _ => 0) 0) := by
  refine ⟨_, Go.Deep.blk_alloc_new _ _, by rw [size_madeCells], fun i hi => ?_⟩
  have hi' : i < len := hi
  have h3 : i % 1 = 0 := by omega
  simp [madeCells, hi, h3, partF]
theorem partF_step {X : Nat → Nat} {w : World} {B T n k : Nat} (hk : k < n) (h : w.rowIs B T n (partF X k)) :
    (w.setCell ⟨B, k, none⟩ (.float .f32 (X k))).rowIs B T n (partF X (k + 1)) := by
  refine (h.set k _).congr fun j hj => ?_
  unfold partF
  by_cases h0 : j = k
  · subst h0; rw [if_pos rfl, if_pos (by omega)]
  · rw [if_neg h0]
    by_cases hj' : j < k
    · rw [if_pos hj', if_pos (by omega)]
    · rw [if_neg hj', if_neg (by omega)]
set_option maxHeartbeats 400000 in
theorem toF_any (b off len cap : Nat) (X : Nat → Nat) (w : World) (hl : len ≤ 1048576) (hb : b < w.heap.size) (hcells : CellsF w b off len X) :
    Calls Try.prog 32 #[.slice (some ⟨b, off, none⟩) len cap] w fun e w' => e = .returned (.slice (some ⟨w.heap.size, 0, none⟩) len len) ∧ Below w.heap.size w w' ∧ w'.rowIs w.heap.size 25 len (partF X len) := by
  have hmk := makeF_any len hl
  have Hc := Lib.hid hcells
  have Hst := Lib.hid (And.intro ((Below.refl w.heap.size w).alloc (Nat.le_refl _) (.cells (madeCells #[.float .f32 0] len) 25)) (madeF_row len w))
  clear hcells
  generalize hB : w.heap.size = B at *
  go_enter Try.func32, Try.ntmps32
  go_wp2
  go_loopw [4] (fun i wr => ∃ k : Nat, i = .int .i64 k ∧ k ≤ len ∧ Below B w wr ∧ wr.rowIs B 25 len (partF X k))
    (fun i _ => len - (intOf i).toNat)
  case atStart => exact ⟨0, rfl, Nat.zero_le _, Hst.out.1, Hst.out.2.congr fun j _ => by simp [partF]⟩
  case round =>
    obtain ⟨k, rfl, hk, hbel, hrow⟩ := hrel
    by_cases hkl : k < len
    · have hc0 := (Hc.out.keep hb hbel) k hkl
      have Hbel := Lib.hid hbel
      have d0 := hrow.cell (i := k) hkl
      have f0 := hrow.frozen k
      have Hrow := Lib.hid hrow
      clear hbel hrow
      go_wp2_with fail
      go_roundw
      case rel => exact ⟨k + 1, by go_num, by omega, Hbel.out.setCell (Nat.le_refl _) _, partF_step hkl Hrow.out⟩
      case measure => simp [intOf]; omega
    · obtain rfl : k = len := by omega
      have Hbel := Lib.hid hbel
      have Hrow := Lib.hid hrow
      clear hbel hrow
      go_wp2
      go_ret
      exact ⟨rfl, Hbel.out, Hrow.out⟩
theorem toF_none (a : Option Addr) (cap : Nat) (w : World) :
    Calls Try.prog 32 #[.slice a 0 cap] w fun e w' => e = .returned (.slice (some ⟨w.heap.size, 0, none⟩) 0 0) ∧ Below w.heap.size w w' ∧ w'.rowIs w.heap.size 25 0 (partF (fun _ => 0) 0) := by
  have hmk : ∀ w : World, (Instr.makeSlice 45 (.int .i64 0) (.int .i64 0)).run Try.prog w = _ := makeF_any 0 (by omega)
  have Hst := Lib.hid (And.intro ((Below.refl w.heap.size w).alloc (Nat.le_refl _) (.cells (madeCells #[.float .f32 0] 0) 25)) (madeF_row 0 w))
  go_enter Try.func32, Try.ntmps32
  go_wp2
  refine wp_loop_rounds 1 ?_
  rw [rounds_succ]
  go_wp2
  go_ret
  exact ⟨rfl, Hst.out.1, Hst.out.2⟩
def WfF (n : Nat) (X : Nat → Nat) : Prop := ∀ i, i < n → (Lit.float .f32 (X i)).wf = true
set_option maxHeartbeats 400000 in
theorem eqF_any (b off c off' len cap cap' : Nat) (X : Nat → Nat) (w : World) (hl : len ≤ 1048576) (hb : b < w.heap.size) (hc : c < w.heap.size) (h1 : CellsF w b off len X) (h2 : CellsF w c off' len X) (hw : WfF len X) :
    Calls Try.prog 35 #[.slice (some ⟨b, off, none⟩) len cap, .slice (some ⟨c, off', none⟩) len cap'] w fun e w' => e = .returned (.bool true) ∧ Below w.heap.size w w' := by
  have H1 := Lib.hid h1
  have H2 := Lib.hid h2
  have HW := Lib.hid hw
  clear h1 h2 hw
  have h25 : (Try.prog.underlying 25).isSome = true := by rw [Try.underlying25]; rfl
  have kw := fun b w => run_widX (P := Try.prog) 25 35 b h25 Try.underlying35 w
  clear h25
  go_enter Try.func35, Try.ntmps35
  go_wp2
  go_loopw [5] (fun i wr => ∃ k m : Nat, i = .int .i64 k ∧ k ≤ len ∧ wr = w.drewN m)
    (fun i _ => len - (intOf i).toNat)
  case atStart => exact ⟨0, 0, rfl, Nat.zero_le _, rfl⟩
  case round =>
    obtain ⟨k, m, rfl, hk, hwr⟩ := hrel
    subst hwr
    by_cases hkl : k < len
    · have a0 := H1.out k hkl
      have c0 := H2.out k hkl
      have v0 := HW.out k hkl
      generalize X k = x at *
      go_wp2_with fail
      refine wp_region_S_drew (by kernel_rfl) (by kernel_rfl) ?_
      repeat (refine wpS_want (by kernel_rfl) ?_; intro K hK; refine quietS_of (by kernel_rfl) ?_; go_big_quiet_op; go_big_quiet_on)
      refine wpS_want (by kernel_rfl) ?_
      intro K hK
      refine quietS_conv (fun v => ∃ r, v = .float .f64 r ∧ Wid x r) (fun w' hw' => ?_) ⟨0, rfl⟩ ?_
      · obtain ⟨n, rfl⟩ := hw'
        exact ⟨_, _, kw x _, ⟨n + ndr x, World.drewN_drewN _ _ _⟩, _, rfl, widX_wid x _⟩
      rintro v ⟨r1, rfl, hr1⟩
      go_big_quiet_op
      go_big_quiet_on
      repeat (refine wpS_want (by kernel_rfl) ?_; intro K hK; refine quietS_of (by kernel_rfl) ?_; go_big_quiet_op; go_big_quiet_on)
      refine wpS_want (by kernel_rfl) ?_
      intro K hK
      refine quietS_conv (fun v => ∃ r, v = .float .f64 r ∧ Wid x r) (fun w' hw' => ?_) ⟨0, rfl⟩ ?_
      · obtain ⟨n, rfl⟩ := hw'
        exact ⟨_, _, kw x _, ⟨n + ndr x, World.drewN_drewN _ _ _⟩, _, rfl, widX_wid x _⟩
      rintro v ⟨r2, rfl, hr2⟩
      go_big_quiet_op
      go_big_quiet_on
      refine wpS_want (by kernel_rfl) ?_
      intro K hK
      refine quietS_call (.bool true) 43 #[.float .f64 r1, .float .f64 r2] (by kernel_rfl) (fun w' => ?_) (fun w' hw' => ?_) ⟨0, rfl⟩ ?_
      · simp [go_sem]
      · obtain ⟨n, rfl⟩ := hw'
        exact (same_wid v0 hr1 hr2 _).mono fun e w2 ⟨he, hw2⟩ => ⟨he, n, hw2⟩
      go_big_quiet_op
      go_big_quiet_on
      repeat (refine wpS_want (by kernel_rfl) ?_; intro K hK; refine quietS_of (by kernel_rfl) ?_; go_big_quiet_op; go_big_quiet_on)
      refine wpQuietS_nil ?_
      rintro _ ⟨n, rfl⟩
      go_wp2_with fail
      go_roundw
      case rel => exact ⟨k + 1, _, by go_num, by omega, rfl⟩
      case measure => simp [intOf]; omega
    · obtain rfl : k = len := by omega
      go_wp2
      go_ret
      exact ⟨rfl, ⟨rfl, rfl, rfl, Nat.le_refl _, fun _ _ => rfl⟩⟩
theorem eqF_none (a a' : Option Addr) (cap cap' : Nat) (w : World) :
    Calls Try.prog 35 #[.slice a 0 cap, .slice a' 0 cap'] w fun e w' => e = .returned (.bool true) ∧ w' = w := by
  go_enter Try.func35, Try.ntmps35
  go_wp2
  refine wp_loop_rounds 1 ?_
  rw [rounds_succ]
  go_wp2
  go_ret
  exact ⟨rfl, rfl⟩
end Go.Proofs.Ytmnpmbliikalhaa.Sgl
