/- Lists of singles at a seat whose laws mark no such list: made by program out of XFls (all but the marks). -/
import Derived.Test.YtjmmcpeknaaaiaaSame
import Derived.Test.YtjmmcpeknaaaiaaFltX
import Derived.Test.YtjmmcpeknaaaiaaFltV
import Derived.Test.YtjmmcpeknaaaiaaFltG
import Derived.Test.YtjmmcpeknaaaiaaFltM
import Derived.Test.YtjmmcpeknaaaiaaOnly
import Derived.Test.YtjmmcpeknaaaiaaQuiS
import Derived.Deep.OwnRows
import Derived.Deep.RegionWith
import Derived.Deep.Slices
import Derived.Deep.Fields
import Derived.ChangeSame
import Derived.BigQuiet
import Derived.Deep.QuietTactic
namespace Go.Proofs.Ytjmmcpeknaaaiaa.Sgl
open Go.ChangeShapes Go.WideShapes Go.ChangeAt Go.RowKit Go.Deep Go.Proofs.Ytjmmcpeknaaaiaa Go.Proofs.Ytjmmcpeknaaaiaa.Flt Go.Proofs.Ytjmmcpeknaaaiaa.Mth
open Ieee (single double)
set_option linter.unusedVariables false
theorem sz_alloc (w : World) (o : Obj) : (w.alloc o).heap.size = w.heap.size + 1 := by
  show (w.heap.push o).size = _
  simp
theorem same_wid {x r s : Nat} (wx : (Lit.float .f32 x).wf = true) (hr : Wid x r) (hs' : Wid x s) (w : World) :
    Calls Try.prog 42 #[.float .f64 r, .float .f64 s] w fun e w' => e = .returned (.bool true) ∧ w' = w := by
  refine (sameFloat_any r s w hr.1 hs'.1).mono ?_
  rintro e w' ⟨rfl, rfl⟩
  rw [sameW_wid wx wx hr hs', sameW_refl]
  exact ⟨rfl, rfl⟩
theorem trod_f32 {H : Type} {enc : TypeId × Value → H} {P : Program} {w : World} {base : Nat} {spare : Nat → Bool} {held : Bool} {t : TypeId} {n : Nat} {v : Value} {y : DataW H × List MemPlace} (ht : P.underlying t = some (.float .f32))
    (h : DataW.trod enc P w base spare held n t [v] = some y) : ∃ b, v = .float .f32 b ∧ (Lit.float .f32 b).wf = true := by
  cases n with
  | zero => simp [DataW.trod] at h
  | succ n =>
    cases v <;> simp only [DataW.trod, ht] at h <;> try cases h
    rename_i k b
    by_cases hw : k = .f32 ∧ (Lit.float .f32 b).wf = true
    · obtain ⟨rfl, hw⟩ := hw
      exact ⟨b, rfl, hw⟩
    · cases k
      · simp_all
      · simp_all
def bitsAt (w : World) (b off k : Nat) : Nat := match w.cell? ⟨b, off + k, none⟩ with
  | some (.float .f32 x) => x
  | _ => 0
theorem bitsAt_eq {w : World} {b off k x : Nat} (h : w.cell? ⟨b, off + k, none⟩ = some (.float .f32 x)) : bitsAt w b off k = x := by
  unfold bitsAt; rw [h]
theorem cells_f32 : Try.prog.cellsOf 24 = 1 := by kernel_rfl
/-- what a mark writes -/
def fl (k : Int) : Nat := floatOfInt .f32 k
theorem run_fl (k : Int) (w : World) : (convert 3 24 (.int .i64 k)).run Try.prog w = .ok (.float .f32 (fl k)) w := by
  unfold fl
  rw [run_convert_int_float w 3 24 .i64 .f32 k (by rw [Try.underlying3]; rfl) Try.underlying24]
def gtB (x y : Nat) : Bool := FloatKind.f32.format.order x y == some .gt
def ltB (x y : Nat) : Bool := FloatKind.f32.format.order x y == some .lt
def geB (x y : Nat) : Bool := FloatKind.f32.format.order x y == some .gt || FloatKind.f32.format.order x y == some .eq
def leB (x y : Nat) : Bool := FloatKind.f32.format.order x y == some .lt || FloatKind.f32.format.order x y == some .eq
def eqB (x y : Nat) : Bool := FloatKind.f32.format.order x y == some .eq
def finB (x : Nat) : Bool := decide (rung single x < single.infRung)
theorem fin_num {x : Nat} (h : finB x = true) : isNaN single x = false := by
  have := of_decide_eq_true h
  exact decide_eq_false (by omega)
theorem isFin_wid {x r : Nat} (h : Wid x r) : isFinD r = finB x := by
  unfold finB
  cases nx : isNaN single x
  · rw [h.2.2 nx, isFin_widen]
  · rw [isFin_nan (by rw [h.2.1, nx])]
    have := of_decide_eq_true nx
    exact (decide_eq_false (by omega)).symm
/-- the difference of two singles; 0 if there is none -/
def subB (a b : Nat) : Nat := (floatBits .sub .f32 a b).getD 0
theorem sub_fin {a b : Nat} (ha : finB a = true) (hb : finB b = true) : floatBits .sub .f32 a b = some (subB a b) := by
  have h : ∃ r, floatBits .sub .f32 a b = some r := by
    show ∃ r, Ieee.Format.sub single a b = some r
    unfold Ieee.Format.sub
    rw [reads_fin single (of_decide_eq_true ha), reads_fin single (of_decide_eq_true hb)]
    exact ⟨_, rfl⟩
  obtain ⟨r, hr⟩ := h
  unfold subB
  rw [hr]; rfl
theorem subB_num {a b : Nat} (ha : finB a = true) (hb : finB b = true) : isNaN single (subB a b) = false := bits_num (k := .f32) (sub_fin ha hb)
theorem subB_wf {a b : Nat} (ha : finB a = true) (hb : finB b = true) : (Lit.float .f32 (subB a b)).wf = true := floatBits_wf (sub_fin ha hb)
theorem fineS_any (a : Nat) (w : World) :
    Calls Try.prog 105 #[.float .f64 a] w fun e w' => e = .returned (.bool (isFinD a)) ∧ ∃ n, w' = w.drewN n := by
  obtain ⟨r, n, wr, hr, kr⟩ := run_float_any (P := Try.prog) .sub (.inr (.inl rfl)) 28 .f64 a a w
  have heq := eq64 r 0
  have hf : eqW Ieee.double r 0 = isFinD a := by
    cases h : isFinD a
    · rw [sub_nofin h] at hr
      rcases hr with hr | ⟨_, hr⟩
      · cases hr
      · exact eqW_nan _ (by rw [show isNaN Ieee.double r = true from hr]; rfl)
    · rw [sub_self h] at hr
      rcases hr with hr | ⟨hr, _⟩
      · cases hr; decide
      · cases hr
  rw [hf] at heq
  clear hf hr wr
  go_enter Try.func105, Try.ntmps105
  go_wp2
  go_ret
  exact ⟨rfl, n, rfl⟩
theorem infoF : (Try.prog.info? 24).map (fun i => (i.zero, i.size, i.bytes)) = some (some (.float .f32 0), 1, 4) := by kernel_rfl
theorem info_partsF : ∃ i, Try.prog.info? 24 = some i ∧ i.zero = some (.float .f32 0) ∧ i.size = 1 ∧ i.bytes = 4 := by
  have h := infoF
  cases hi : Try.prog.info? 24 with
  | none => rw [hi] at h; cases h
  | some i =>
    rw [hi] at h
    simp only [Option.map_some, Option.some.injEq, Prod.mk.injEq] at h
    exact ⟨i, rfl, h.1, h.2.1, h.2.2⟩
theorem makeF_any (len : Nat) (hl : len ≤ 1048576) (w : World) :
    (Instr.makeSlice 53 (.int .i64 (len : Int)) (.int .i64 (len : Int))).run Try.prog w = .ok (.slice (some ⟨w.heap.size, 0, none⟩) len len) (w.alloc (.cells (madeCells #[.float .f32 0] len) 24)) := by
  obtain ⟨i, hi, hzz⟩ := Option.map_eq_some_iff.1 infoF
  simp only [Prod.mk.injEq] at hzz
  obtain ⟨hz, hs, hb⟩ := hzz
  have h := run_make (P := Try.prog) w 53 24 i _ Try.underlying53 hi hz .i64 .i64 len len (by omega) (by omega) (by rw [hb]; omega) (by omega)
  rw [hs] at h
  rw [show (Value.float .f32 0).cells = #[.float .f32 0] from rfl] at h
  simpa [Nat.mul_one] using h
/-- the cells while the copy is made -/
def partF (X : Nat → Nat) (m : Nat) : Nat → Value := fun j => if j < m then .float .f32 (X j) else .float .f32 0
/-- the cells of 'n' singles -/
def CellsF (w : World) (b off n : Nat) (X : Nat → Nat) : Prop := ∀ i, i < n → w.cell? ⟨b, off + i, none⟩ = some (.float .f32 (X i))
theorem CellsF.keep {w w' : World} {b off n B : Nat} {X : Nat → Nat} (h : CellsF w b off n X) (hb : b < B) (hbel : Below B w w') : CellsF w' b off n X := fun i hi => by
  rw [hbel.cell (by exact hb)]; exact h i hi
theorem cellsF_of_row {w : World} {B T n : Nat} {X : Nat → Nat} (h : w.rowIs B T n (partF X n)) : CellsF w B 0 n X := fun i hi => by
  rw [Nat.zero_add, h.cell hi]; unfold partF; rw [if_pos hi]
theorem madeF_row (len : Nat) (w : World) : (w.alloc (.cells (madeCells #[.float .f32 0] len) 24)).rowIs w.heap.size 24 len (partF (fun _ => 0) 0) := by
  refine ⟨_, Go.Deep.blk_alloc_new _ _, by rw [size_madeCells], fun i hi => ?_⟩
  have hi' : i < len := hi
  have h3 : i % 1 = 0 := by omega
  simp [madeCells, hi, h3, partF]
theorem partF_step {X : Nat → Nat} {w : World} {B T n k : Nat} (hk : k < n) (h : w.rowIs B T n (partF X k)) :
    (w.setCell ⟨B, k, none⟩ (.float .f32 (X k))).rowIs B T n (partF X (k + 1)) := by
  refine (h.set k _).congr fun j hj => ?_
  unfold partF
  by_cases h0 : j = k
  · subst h0; rw [if_pos rfl, if_pos (by omega)]
  · rw [if_neg h0]
    by_cases hj' : j < k
    · rw [if_pos hj', if_pos (by omega)]
    · rw [if_neg hj', if_neg (by omega)]
set_option maxHeartbeats 400000 in
theorem toF_any (b off len cap : Nat) (X : Nat → Nat) (w : World) (hl : len ≤ 1048576) (hb : b < w.heap.size) (hcells : CellsF w b off len X) :
    Calls Try.prog 55 #[.slice (some ⟨b, off, none⟩) len cap] w fun e w' => e = .returned (.slice (some ⟨w.heap.size, 0, none⟩) len len) ∧ Below w.heap.size w w' ∧ w'.rowIs w.heap.size 24 len (partF X len) := by
  have hmk := makeF_any len hl
  have Hc := Lib.hid hcells
  have Hst := Lib.hid (And.intro ((Below.refl w.heap.size w).alloc (Nat.le_refl _) (.cells (madeCells #[.float .f32 0] len) 24)) (madeF_row len w))
  clear hcells
  generalize hB : w.heap.size = B at *
  go_enter Try.func55, Try.ntmps55
  go_wp2
  go_loopw [4] (fun i wr => ∃ k : Nat, i = .int .i64 k ∧ k ≤ len ∧ Below B w wr ∧ wr.rowIs B 24 len (partF X k))
    (fun i _ => len - (intOf i).toNat)
  case atStart => exact ⟨0, rfl, Nat.zero_le _, Hst.out.1, Hst.out.2.congr fun j _ => by simp [partF]⟩
  case round =>
    obtain ⟨k, rfl, hk, hbel, hrow⟩ := hrel
    by_cases hkl : k < len
    · have hc0 := (Hc.out.keep hb hbel) k hkl
      have Hbel := Lib.hid hbel
      have d0 := hrow.cell (i := k) hkl
      have f0 := hrow.frozen k
      have Hrow := Lib.hid hrow
      clear hbel hrow
      go_wp2_with fail
      go_roundw
      case rel => exact ⟨k + 1, by go_num, by omega, Hbel.out.setCell (Nat.le_refl _) _, partF_step hkl Hrow.out⟩
      case measure => simp [intOf]; omega
    · obtain rfl : k = len := by omega
      have Hbel := Lib.hid hbel
      have Hrow := Lib.hid hrow
      clear hbel hrow
      go_wp2
      go_ret
      exact ⟨rfl, Hbel.out, Hrow.out⟩
theorem toF_none (a : Option Addr) (cap : Nat) (w : World) :
    Calls Try.prog 55 #[.slice a 0 cap] w fun e w' => e = .returned (.slice (some ⟨w.heap.size, 0, none⟩) 0 0) ∧ Below w.heap.size w w' ∧ w'.rowIs w.heap.size 24 0 (partF (fun _ => 0) 0) := by
  have hmk : ∀ w : World, (Instr.makeSlice 53 (.int .i64 0) (.int .i64 0)).run Try.prog w = _ := makeF_any 0 (by omega)
  have Hst := Lib.hid (And.intro ((Below.refl w.heap.size w).alloc (Nat.le_refl _) (.cells (madeCells #[.float .f32 0] 0) 24)) (madeF_row 0 w))
  go_enter Try.func55, Try.ntmps55
  go_wp2
  refine wp_loop_rounds 1 ?_
  rw [rounds_succ]
  go_wp2
  go_ret
  exact ⟨rfl, Hst.out.1, Hst.out.2⟩
def WfF (n : Nat) (X : Nat → Nat) : Prop := ∀ i, i < n → (Lit.float .f32 (X i)).wf = true
set_option maxHeartbeats 400000 in
theorem eqF_any (b off c off' len cap cap' : Nat) (X : Nat → Nat) (w : World) (hl : len ≤ 1048576) (hb : b < w.heap.size) (hc : c < w.heap.size) (h1 : CellsF w b off len X) (h2 : CellsF w c off' len X) (hw : WfF len X) :
    Calls Try.prog 57 #[.slice (some ⟨b, off, none⟩) len cap, .slice (some ⟨c, off', none⟩) len cap'] w fun e w' => e = .returned (.bool true) ∧ Below w.heap.size w w' := by
  have H1 := Lib.hid h1
  have H2 := Lib.hid h2
  have HW := Lib.hid hw
  clear h1 h2 hw
  have h25 : (Try.prog.underlying 24).isSome = true := by rw [Try.underlying24]; rfl
  have kw := fun b w => run_widX (P := Try.prog) 24 28 b h25 Try.underlying28 w
  clear h25
  go_enter Try.func57, Try.ntmps57
  go_wp2
  go_loopw [5] (fun i wr => ∃ k m : Nat, i = .int .i64 k ∧ k ≤ len ∧ wr = w.drewN m)
    (fun i _ => len - (intOf i).toNat)
  case atStart => exact ⟨0, 0, rfl, Nat.zero_le _, rfl⟩
  case round =>
    obtain ⟨k, m, rfl, hk, hwr⟩ := hrel
    subst hwr
    by_cases hkl : k < len
    · have a0 := H1.out k hkl
      have c0 := H2.out k hkl
      have v0 := HW.out k hkl
      generalize X k = x at *
      go_wp2_with fail
      refine wp_region_S_drew (by kernel_rfl) (by kernel_rfl) ?_
      repeat (refine wpS_want (by kernel_rfl) ?_; intro K hK; refine quietS_of (by kernel_rfl) ?_; go_big_quiet_op; go_big_quiet_on)
      refine wpS_want (by kernel_rfl) ?_
      intro K hK
      refine quietS_conv (fun v => ∃ r, v = .float .f64 r ∧ Wid x r) (fun w' hw' => ?_) ⟨0, rfl⟩ ?_
      · obtain ⟨n, rfl⟩ := hw'
        exact ⟨_, _, kw x _, ⟨n + ndr x, World.drewN_drewN _ _ _⟩, _, rfl, widX_wid x _⟩
      rintro v ⟨r1, rfl, hr1⟩
      go_big_quiet_op
      go_big_quiet_on
      repeat (refine wpS_want (by kernel_rfl) ?_; intro K hK; refine quietS_of (by kernel_rfl) ?_; go_big_quiet_op; go_big_quiet_on)
      refine wpS_want (by kernel_rfl) ?_
      intro K hK
      refine quietS_conv (fun v => ∃ r, v = .float .f64 r ∧ Wid x r) (fun w' hw' => ?_) ⟨0, rfl⟩ ?_
      · obtain ⟨n, rfl⟩ := hw'
        exact ⟨_, _, kw x _, ⟨n + ndr x, World.drewN_drewN _ _ _⟩, _, rfl, widX_wid x _⟩
      rintro v ⟨r2, rfl, hr2⟩
      go_big_quiet_op
      go_big_quiet_on
      refine wpS_want (by kernel_rfl) ?_
      intro K hK
      refine quietS_call (.bool true) 42 #[.float .f64 r1, .float .f64 r2] (by kernel_rfl) (fun w' => ?_) (fun w' hw' => ?_) ⟨0, rfl⟩ ?_
      · simp [go_sem]
      · obtain ⟨n, rfl⟩ := hw'
        exact (same_wid v0 hr1 hr2 _).mono fun e w2 ⟨he, hw2⟩ => ⟨he, n, hw2⟩
      go_big_quiet_op
      go_big_quiet_on
      repeat (refine wpS_want (by kernel_rfl) ?_; intro K hK; refine quietS_of (by kernel_rfl) ?_; go_big_quiet_op; go_big_quiet_on)
      refine wpQuietS_nil ?_
      rintro _ ⟨n, rfl⟩
      go_wp2_with fail
      go_roundw
      case rel => exact ⟨k + 1, _, by go_num, by omega, rfl⟩
      case measure => simp [intOf]; omega
    · obtain rfl : k = len := by omega
      go_wp2
      go_ret
      exact ⟨rfl, ⟨rfl, rfl, rfl, Nat.le_refl _, fun _ _ => rfl⟩⟩
theorem eqF_none (a a' : Option Addr) (cap cap' : Nat) (w : World) :
    Calls Try.prog 57 #[.slice a 0 cap, .slice a' 0 cap'] w fun e w' => e = .returned (.bool true) ∧ w' = w := by
  go_enter Try.func57, Try.ntmps57
  go_wp2
  refine wp_loop_rounds 1 ?_
  rw [rounds_succ]
  go_wp2
  go_ret
  exact ⟨rfl, rfl⟩
/-- a list of 'len' singles behind a slice's address -/
def LstF (w : World) (a : Option Addr) (len : Nat) (X : Nat → Nat) : Prop := WfF len X ∧ (len = 0 ∨ ∃ b off, a = some ⟨b, off, none⟩ ∧ b < w.heap.size ∧ CellsF w b off len X)
theorem LstF.keep {w w' : World} {a : Option Addr} {len : Nat} {X : Nat → Nat} (h : LstF w a len X) (hb : Below w.heap.size w w') : LstF w' a len X := by
  obtain ⟨h1, h2⟩ := h
  refine ⟨h1, ?_⟩
  rcases h2 with h2 | ⟨b, off, rfl, hlt, hc⟩
  · exact .inl h2
  · exact .inr ⟨b, off, rfl, Nat.lt_of_lt_of_le hlt hb.size, hc.keep hlt hb⟩
theorem open_floats {H : Type} {enc : TypeId × Value → H} {w : World} {base : Nat} {held : Bool} {fuel : Nat} {cs : List Value} {x : DataW H × List MemPlace}
    (h : DataW.trod enc Try.prog w base (fun _ => true) held fuel 53 cs = some x) :
    ∃ (a : Option Addr) (len cap : Nat) (X : Nat → Nat), cs = [.slice a len cap] ∧ len ≤ maxLen ∧ LstF w a len X := by
  rcases open_slice Try.underlying53 h with ⟨h0, _⟩ | ⟨a, len, cap, m, n, D, Pl, hcs, hb, hl, hm, hmm, hx, hi⟩
  · exact ⟨none, 0, 0, fun _ => 0, h0, Nat.zero_le _, fun i hi => absurd hi (Nat.not_lt_zero _), .inl rfl⟩
  · have key : ∀ i, i < len → ∃ x0 : Nat, w.cell? (a.add i) = some (.float .f32 x0) ∧ (Lit.float .f32 x0).wf = true := by
      intro i hil
      obtain ⟨cs', hc, ht'⟩ := hi i (by simp at hmm; omega)
      rw [cells_f32, Nat.mul_one] at hc
      obtain ⟨_, hcl, hat⟩ := World.cells?_some hc
      match cs', hcl with
      | [c0], _ =>
        obtain ⟨x0, rfl, w0⟩ := trod_f32 Try.underlying24 ht'
        exact ⟨x0, by simpa [Addr.add] using hat 0 (by omega), w0⟩
    have hlm : len ≤ maxLen := Nat.le_trans hl hm
    by_cases h0 : len = 0
    · subst h0
      exact ⟨some a, 0, cap, fun _ => 0, hcs, Nat.zero_le _, fun i hi => absurd hi (Nat.not_lt_zero _), .inl rfl⟩
    · obtain ⟨b, off, spot⟩ := a
      have hspot : spot = none := by
        obtain ⟨x0, hc0, _⟩ := key 0 (by omega)
        have := World.cell?_spot hc0
        simpa [Addr.add] using this
      subst hspot
      have e : ∀ k, (⟨b, off, none⟩ : Addr).add k = ⟨b, off + k, none⟩ := fun k => by unfold Addr.add; split <;> simp_all
      have hc : CellsF w b off len (bitsAt w b off) := by
        intro i hi
        obtain ⟨x0, c0, _⟩ := key i hi
        rw [e] at c0
        rw [c0, bitsAt_eq c0]
      have hlt : b < w.heap.size := lt_of_cell (hc 0 (by omega))
      refine ⟨some ⟨b, off, none⟩, len, cap, bitsAt w b off, hcs, hlm, fun i hi => ?_, .inr ⟨b, off, rfl, hlt, hc⟩⟩
      obtain ⟨x0, c0, w0⟩ := key i hi
      have d0 := hc i hi
      rw [e] at c0
      rw [c0] at d0
      simp only [Option.some.injEq, Value.float.injEq, true_and] at d0
      rw [← d0]
      exact w0
theorem toFL_any (a : Option Addr) (len cap : Nat) (X : Nat → Nat) (w : World) (hl : len ≤ 1048576) (h : LstF w a len X) :
    Calls Try.prog 55 #[.slice a len cap] w fun e w' => e = .returned (.slice (some ⟨w.heap.size, 0, none⟩) len len) ∧ Below w.heap.size w w' ∧ LstF w' (some ⟨w.heap.size, 0, none⟩) len X ∧ w'.rowIs w.heap.size 24 len (partF X len) := by
  obtain ⟨h1, h2⟩ := h
  rcases h2 with rfl | ⟨b, off, rfl, hlt, hc⟩
  · refine (toF_none a cap w).mono ?_
    rintro e w' ⟨rfl, hb, hr⟩
    exact ⟨rfl, hb, ⟨h1, .inl rfl⟩, hr.congr fun j hj => absurd hj (Nat.not_lt_zero _)⟩
  · refine (toF_any b off len cap X w hl hlt hc).mono ?_
    rintro e w' ⟨rfl, hb, hr⟩
    exact ⟨rfl, hb, ⟨h1, .inr ⟨_, 0, rfl, hr.lt, cellsF_of_row hr⟩⟩, hr⟩
theorem eqFL_any (a a' : Option Addr) (len cap cap' : Nat) (X : Nat → Nat) (w : World) (hl : len ≤ 1048576) (h : LstF w a len X) (h' : LstF w a' len X) :
    Calls Try.prog 57 #[.slice a len cap, .slice a' len cap'] w fun e w' => e = .returned (.bool true) ∧ Below w.heap.size w w' := by
  obtain ⟨h1, h2⟩ := h
  obtain ⟨_, h2'⟩ := h'
  by_cases h0 : len = 0
  · subst h0
    refine (eqF_none a a' cap cap' w).mono ?_
    rintro e w ⟨rfl, rfl⟩
    exact ⟨rfl, Below.refl _ _⟩
  · rcases h2 with rfl | ⟨b, off, rfl, hlt, hc⟩
    · exact absurd rfl h0
    rcases h2' with rfl | ⟨b', off', rfl, hlt', hc'⟩
    · exact absurd rfl h0
    exact eqF_any b off b' off' len cap cap' X w hl hlt hlt' hc hc' h1
end Go.Proofs.Ytjmmcpeknaaaiaa.Sgl
