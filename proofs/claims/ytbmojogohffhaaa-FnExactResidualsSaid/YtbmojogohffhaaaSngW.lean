/- Lists of singles of a call's own: comparison but for the bits of NaNs, marks, held marks. -/
import Derived.Test.YtbmojogohffhaaaSngQ
import Derived.Test.YtbmojogohffhaaaSclP
import Derived.Test.YtbmojogohffhaaaPtsT
namespace Go.Proofs.Ytbmojogohffhaaa.Sgl
open Go.ChangeShapes Go.WideShapes Go.ChangeAt Go.RowKit Go.Deep Go.Proofs.Ytbmojogohffhaaa Go.Proofs.Ytbmojogohffhaaa.Flt Go.Proofs.Ytbmojogohffhaaa.Mth Go.Proofs.Ytbmojogohffhaaa.Pnt
open Ieee (single double)
set_option linter.unusedVariables false
theorem sameW_sim {a b : Nat} (h : Sim a b) : sameW single a b = true := by
  rcases h with rfl | ⟨p, q⟩
  · exact sameW_refl _ _
  · unfold sameW
    rw [p, q]; rfl
theorem same_simw {x x' r s : Nat} (wx : (Lit.float .f32 x).wf = true) (wx' : (Lit.float .f32 x').wf = true) (h : Sim x x') (hr : Wid x r) (hs' : Wid x' s) (w : World) :
    Calls Try.prog 31 #[.float .f64 r, .float .f64 s] w fun e w' => e = .returned (.bool true) ∧ w' = w := by
  refine (sameFloat_any r s w hr.1 hs'.1).mono ?_
  rintro e w' ⟨rfl, rfl⟩
  rw [sameW_wid wx wx' hr hs', sameW_sim h]
  exact ⟨rfl, rfl⟩
set_option maxHeartbeats 400000 in
theorem eqFS_any (b off c off' len cap cap' : Nat) (X X' : Nat → Nat) (w : World) (hl : len ≤ 1048576) (hb : b < w.heap.size) (hc : c < w.heap.size) (h1 : CellsF w b off len X) (h2 : CellsF w c off' len X') (hw : WfF len X) (hw' : WfF len X') (hsim : ∀ i, i < len → Sim (X i) (X' i)) :
    Calls Try.prog 36 #[.slice (some ⟨b, off, none⟩) len cap, .slice (some ⟨c, off', none⟩) len cap'] w fun e w' => e = .returned (.bool true) ∧ Below w.heap.size w w' := by
  have H1 := Lib.hid h1
  have H2 := Lib.hid h2
  have HW := Lib.hid (And.intro hw (And.intro hw' hsim))
  clear h1 h2 hw hw' hsim
  have h25 : (Try.prog.underlying 25).isSome = true := by rw [Try.underlying25]; rfl
  have kw := fun b w => run_widX (P := Try.prog) 25 47 b h25 Try.underlying47 w
  clear h25
  go_enter Try.func36, Try.ntmps36
  go_wp2
  go_loopw [5] (fun i wr => ∃ k m : Nat, i = .int .i64 k ∧ k ≤ len ∧ wr = w.drewN m)
    (fun i _ => len - (intOf i).toNat)
  case atStart => exact ⟨0, 0, rfl, Nat.zero_le _, rfl⟩
  case round =>
    obtain ⟨k, m, rfl, hk, hwr⟩ := hrel
    subst hwr
    by_cases hkl : k < len
    · have a0 := H1.out k hkl
      have c0 := H2.out k hkl
      have v0 := HW.out.1 k hkl
      have v0' := HW.out.2.1 k hkl
      have hs0 := HW.out.2.2 k hkl
      generalize X k = x at *
      generalize X' k = x' at *
      go_wp2_with fail
      refine wp_region_S_drew (by kernel_rfl) (by kernel_rfl) ?_
      repeat (refine wpS_want (by kernel_rfl) ?_; intro K hK; refine quietS_of (by kernel_rfl) ?_; go_big_quiet_op; go_big_quiet_on)
      refine wpS_want (by kernel_rfl) ?_
      intro K hK
      refine quietS_conv (fun v => ∃ r, v = .float .f64 r ∧ Wid x r) (fun w' hw' => ?_) ⟨0, rfl⟩ ?_
      · obtain ⟨n, rfl⟩ := hw'
        exact ⟨_, _, kw x _, ⟨n + ndr x, World.drewN_drewN _ _ _⟩, _, rfl, widX_wid x _⟩
      rintro v ⟨r1, rfl, hr1⟩
      go_big_quiet_op
      go_big_quiet_on
      repeat (refine wpS_want (by kernel_rfl) ?_; intro K hK; refine quietS_of (by kernel_rfl) ?_; go_big_quiet_op; go_big_quiet_on)
      refine wpS_want (by kernel_rfl) ?_
      intro K hK
      refine quietS_conv (fun v => ∃ r, v = .float .f64 r ∧ Wid x' r) (fun w' hw' => ?_) ⟨0, rfl⟩ ?_
      · obtain ⟨n, rfl⟩ := hw'
        exact ⟨_, _, kw x' _, ⟨n + ndr x', World.drewN_drewN _ _ _⟩, _, rfl, widX_wid x' _⟩
      rintro v ⟨r2, rfl, hr2⟩
      go_big_quiet_op
      go_big_quiet_on
      refine wpS_want (by kernel_rfl) ?_
      intro K hK
      refine quietS_call (.bool true) 31 #[.float .f64 r1, .float .f64 r2] (by kernel_rfl) (fun w' => ?_) (fun w' hw' => ?_) ⟨0, rfl⟩ ?_
      · simp [go_sem]
      · obtain ⟨n, rfl⟩ := hw'
        exact (same_simw v0 v0' hs0 hr1 hr2 _).mono fun e w2 ⟨he, hw2⟩ => ⟨he, n, hw2⟩
      go_big_quiet_op
      go_big_quiet_on
      repeat (refine wpS_want (by kernel_rfl) ?_; intro K hK; refine quietS_of (by kernel_rfl) ?_; go_big_quiet_op; go_big_quiet_on)
      refine wpQuietS_nil ?_
      rintro _ ⟨n, rfl⟩
      go_wp2_with fail
      go_roundw
      case rel => exact ⟨k + 1, _, by go_num, by omega, rfl⟩
      case measure => simp [intOf]; omega
    · obtain rfl : k = len := by omega
      go_wp2
      go_ret
      exact ⟨rfl, ⟨rfl, rfl, rfl, Nat.le_refl _, fun _ _ => rfl⟩⟩
theorem ownF_form {base : Nat} {w : World} {v : Value} {n : Nat} {X : Nat → Nat} (h : OwnF base w v n X) : ∃ a cap, v = .slice a n cap ∧ (n = 0 ∨ ∃ g, a = some ⟨g, 0, none⟩ ∧ base ≤ g ∧ g < w.heap.size ∧ CellsF w g 0 n X) := by
  have h' := h
  rcases h.2 with ⟨rfl, rfl⟩ | ⟨g, cap, cur, rfl, hb, hg, rest⟩
  · exact ⟨_, _, rfl, .inl rfl⟩
  · refine ⟨_, _, rfl, .inr ⟨g, rfl, hb, lt_of_block hg, fun i hi => ?_⟩⟩
    rw [Nat.zero_add, World.ownsRow.cellAt h' i (by omega), flat_at hi]
theorem ownF_congr {base : Nat} {w : World} {v : Value} {n : Nat} {X Y : Nat → Nat} (h : OwnF base w v n X) (e : ∀ j, j < n → X j = Y j) : OwnF base w v n Y := by
  unfold OwnF at h ⊢
  rw [← flat_congr e]; exact h
theorem eqFF_any {b1 b2 n : Nat} {v v' : Value} {X X' : Nat → Nat} (w : World) (h1 : OwnF b1 w v n X) (h2 : OwnF b2 w v' n X') (hw : WfF n X) (hw' : WfF n X') (hsim : ∀ i, i < n → Sim (X i) (X' i)) (hl : n ≤ 1048576) :
    Calls Try.prog 36 #[v, v'] w fun e w' => e = .returned (.bool true) ∧ Below w.heap.size w w' := by
  obtain ⟨a, cap, rfl, h0 | ⟨g, rfl, _, hg, hc⟩⟩ := ownF_form h1
  · subst h0
    obtain ⟨a', cap', rfl, _⟩ := ownF_form h2
    refine (eqF_none a a' cap cap' w).mono ?_
    rintro e w ⟨rfl, rfl⟩
    exact ⟨rfl, Below.refl _ _⟩
  · obtain ⟨a', cap', rfl, h0 | ⟨g', rfl, _, hg', hc'⟩⟩ := ownF_form h2
    · subst h0
      refine (eqF_none _ a' cap cap' w).mono ?_
      rintro e w ⟨rfl, rfl⟩
      exact ⟨rfl, Below.refl _ _⟩
    · exact eqFS_any g 0 g' 0 n cap cap' X X' w hl hg hg' hc hc' hw hw' hsim
set_option maxRecDepth 20000 in
set_option maxHeartbeats 1600000 in
theorem markFF_any {base n : Nat} {v : Value} {X : Nat → Nat} (w : World) (hb : base ≤ w.heap.size) (h1 : OwnF base w v n X) (hn : n ≤ 1000) :
    Calls Try.prog 38 #[v, .int .i64 1] w fun e w' => e = .returned (.int .i64 ((n + 1 : Nat) : Int)) ∧ OwnF base w' v n mkF ∧ Below base w w' := by
  have hc := run_fl
  obtain ⟨a, cap, rfl, h0 | ⟨g, rfl, hbg, hlt, _⟩⟩ := ownF_form h1
  · subst h0
    have Hm := Lib.hid (show OwnF base w (.slice a 0 cap) 0 mkF from ownF_congr h1 (fun j hj => absurd hj (by omega)))
    clear h1
    go_enter Try.func38, Try.ntmps38
    go_wp2_with fail
    go_rounds 1
    go_ret
    exact ⟨rfl, Hm.out, Below.refl _ _⟩
  · have H1 := Lib.hid h1
    clear h1
    go_enter Try.func38, Try.ntmps38
    go_wp2_with fail
    go_loopw [1, 5] (fun kv iv wr => ∃ (i k : Nat) (Z : Nat → Nat), i ≤ n ∧ k = 1 + i ∧ Hid (∀ j, j < i → Z j = mkF j) ∧ kv = .int .i64 (k : Int) ∧ iv = .int .i64 (i : Int) ∧ OwnF base wr (.slice (some ⟨g, 0, none⟩) n cap) n Z ∧ Below base w wr) (fun _ iv _ => n - (intOf iv).toNat)
    case atStart => exact ⟨0, 1, X, Nat.zero_le _, rfl, Lib.hid (fun j hj => absurd hj (by omega)), rfl, rfl, H1.out, Below.refl _ _⟩
    case round =>
      obtain ⟨i, k, Z, hi, hki, hmk, rfl, rfl, hown, hbel⟩ := hrel
      have Hk := Lib.hid hki
      have hkb : k ≤ 7000000 := by omega
      by_cases hin : i < n
      · have hin' : (i : Int) < n := by omega
        have d0 : wr.cell? ⟨g, i, none⟩ = some (.float .f32 (Z i)) := by rw [World.ownsRow.cellAt hown i (by omega), flat_at (by omega)]
        have f0 := World.ownsRow.frozenAt hown i
        have s1 := (World.ownsRow.stored hown i (.float .f32 (fl (k : Int)))).1
        rw [flat_set] at s1
        have Hs := Lib.hid (And.intro (show OwnF base _ (.slice (some ⟨g, 0, none⟩) n cap) n (upd Z i (fl (k : Int))) from s1) (hbel.setCell (p := ⟨g, i, none⟩) hbg (.float .f32 (fl (k : Int)))))
        have Hm2 := Lib.hid (show ∀ j, j < i + 1 → upd Z i (fl (k : Int)) j = mkF j from fun j hj => by
          unfold upd
          by_cases e0 : j = i
          · rw [if_pos e0, e0]; unfold mkF; congr 1; omega
          · rw [if_neg e0]; exact hmk.out j (by omega))
        clear hown hbel hki s1
        generalize Z i = g0 at d0
        go_wp2_with fail
        go_roundw
        case rel => exact ⟨i + 1, k + 1, _, hin, by rw [Hk.out]; omega, Lib.hid Hm2.out, by go_num, by go_num, Hs.out.1, Hs.out.2⟩
        case measure => simp [intOf]; omega
      · have hin' : ¬ (i : Int) < n := by omega
        obtain rfl : i = n := by omega
        have Hf := Lib.hid (show (k : Int) = ((i + 1 : Nat) : Int) by omega)
        have Hb := Lib.hid (And.intro (show OwnF base wr _ i mkF from ownF_congr hown hmk.out) hbel)
        clear hown hbel hki hc
        go_wp2_with fail
        go_ret
        exact ⟨ret_int Hf.out, Hb.out.1, Hb.out.2⟩
set_option maxRecDepth 20000 in
set_option maxHeartbeats 1600000 in
theorem heldFF_any {base n : Nat} {v : Value} (w : World) (h1 : OwnF base w v n mkF) (hn : n ≤ 1000) :
    Calls Try.prog 46 #[v, .int .i64 1] w fun e w' => e = .returned (.int .i64 ((n + 1 : Nat) : Int)) ∧ Below w.heap.size w w' := by
  have hc := run_fl
  have Hst := Lib.hid (Below.refl w.heap.size w)
  obtain ⟨a, cap, rfl, h0 | ⟨g, rfl, hbg, hlt, hcell⟩⟩ := ownF_form h1
  · subst h0
    clear h1
    go_enter Try.func46, Try.ntmps46
    go_wp2_with fail
    go_rounds 1
    go_ret
    exact ⟨rfl, Hst.out⟩
  · have Hc := Lib.hid hcell
    clear h1 hcell
    go_enter Try.func46, Try.ntmps46
    go_wp2_with fail
    go_loopw [1, 5] (fun kv iv wr => ∃ (i k m : Nat), i ≤ n ∧ k = 1 + i ∧ kv = .int .i64 (k : Int) ∧ iv = .int .i64 (i : Int) ∧ wr = w.drewN m) (fun _ iv _ => n - (intOf iv).toNat)
    case atStart => exact ⟨0, 1, 0, Nat.zero_le _, rfl, rfl, rfl, rfl⟩
    case round =>
      obtain ⟨i, k, m, hi, hki, rfl, rfl, rfl⟩ := hrel
      have Hk := Lib.hid hki
      have hkb : k ≤ 7000000 := by omega
      by_cases hin : i < n
      · have hin' : (i : Int) < n := by omega
        have a0 := Hc.out i hin
        rw [Nat.zero_add] at a0
        have e0 : mkF i = fl (k : Int) := by unfold mkF; congr 1; omega
        rw [e0] at a0
        have o0 := fl_eq (k : Int) (fl_num _)
        clear hki e0
        go_wp2_with fail
        go_roundw
        case rel => exact ⟨i + 1, k + 1, _, hin, by rw [Hk.out]; omega, by go_num, by go_num, by first | rfl | trivial⟩
        case measure => simp [intOf]; omega
      · have hin' : ¬ (i : Int) < n := by omega
        obtain rfl : i = n := by omega
        have Hf := Lib.hid (show (k : Int) = ((i + 1 : Nat) : Int) by omega)
        clear hki hc
        go_wp2_with fail
        go_ret
        exact ⟨ret_int Hf.out, below_drewN Hst.out m⟩
/-- between two marks of the heap -/
def OwnU (base top : Nat) (w : World) (v : Value) (n : Nat) (X : Nat → Nat) : Prop := OwnF base w v n X ∧ ∀ g, v.ownBlock = some g → g < top
theorem OwnU.of {base : Nat} {w : World} {v : Value} {n : Nat} {X : Nat → Nat} (h : OwnF base w v n X) : OwnU base w.heap.size w v n X := ⟨h, fun g hg => (World.ownsRow.lt h g hg).2⟩
theorem OwnU.keep {base top : Nat} {w w' : World} {v : Value} {n : Nat} {X : Nat → Nat} (h : OwnU base top w v n X) (hb : ∀ j, base ≤ j → j < top → w'.heap[j]? = w.heap[j]?) : OwnU base top w' v n X := by
  refine ⟨⟨h.1.1, ?_⟩, h.2⟩
  rcases h.1.2 with hn | ⟨g, cap, cur, rfl, hbg, hg, rest⟩
  · exact .inl hn
  · exact .inr ⟨g, cap, cur, rfl, hbg, (hb g hbg (h.2 g rfl)).trans hg, rest⟩
theorem OwnU.below {base top B : Nat} {w w' : World} {v : Value} {n : Nat} {X : Nat → Nat} (h : OwnU base top w v n X) (hB : top ≤ B) (hb : Below B w w') : OwnU base top w' v n X :=
  h.keep fun j _ hj => hb.block j (by omega)
theorem OwnU.only {base top B : Nat} {w w' : World} {v : Value} {n : Nat} {X : Nat → Nat} (h : OwnU base top w v n X) (ht : top ≤ w.heap.size) (hB : B < base ∨ top ≤ B) (hb : Only B w w') : OwnU base top w' v n X :=
  h.keep fun j hj hj2 => hb.block j (by omega) (by omega)
end Go.Proofs.Ytbmojogohffhaaa.Sgl
