/- MovingMeans in the model. -/
import Derived.Test.YtlbapogmcnpmeaaAvgR
namespace Go.Proofs.Ytlbapogmcnpmeaa.Avg
open Go.ChangeShapes Go.WideShapes Go.ChangeAt Go.RowKit Go.Deep Go.Proofs.Ytlbapogmcnpmeaa Go.Proofs.Ytlbapogmcnpmeaa.Flt Go.Proofs.Ytlbapogmcnpmeaa.Mth Go.Proofs.Ytlbapogmcnpmeaa.Sgl
open Ieee (single double)
set_option linter.unusedVariables false
theorem inW_any (x lo hi : Int) (w : World) :
    Calls Try.prog 52 #[.int .i64 x, .int .i64 lo, .int .i64 hi] w fun e w' => e = .returned (.bool (decide (lo ≤ x ∧ x ≤ hi))) ∧ w' = w := by
  by_cases h : lo ≤ x
  · go_enter Try.func52, Try.ntmps52
    go_wp2
    go_ret
    exact ⟨ret_bool (by simp [h]), rfl⟩
  · go_enter Try.func52, Try.ntmps52
    go_wp2
    go_ret
    exact ⟨ret_bool (by rw [show decide (lo ≤ x) = false from decide_eq_false (by omega)]; rfl), rfl⟩
theorem run_mid (b off n cap lo hi : Nat) (w : World) (h : lo < hi) (hc : hi ≤ cap) :
    (Instr.slice 22 (.slice (some ⟨b, off, none⟩) n cap) (some (.int .i64 (lo : Int))) (some (.int .i64 (hi : Int))) none).run Try.prog w = .ok (.slice (some ⟨b, off + lo, none⟩) (hi - lo) (cap - lo)) w := by
  obtain ⟨i0, hi', hz0, hz1, hz2⟩ := info_partsF
  have h0 : (0 : Int) ≤ lo := by omega
  have h1 : (lo : Int) ≤ hi := by omega
  have h2 : (hi : Int) ≤ cap := by omega
  have h3 : (0 : Int) ≤ hi := by omega
  simp only [Instr.slice, Instr.sliceBounds]
  simp [run_underlying Try.underlying22, run_sliceBound, sizeOf, typeInfo, hi', h0, h1, h2, h3, Addr.add, hz1]
  try rw [if_neg (by omega)]
  by_cases h4 : lo = 0
  · subst h4; simp
  · first | (rw [if_neg h4]) | skip
/-- what MovingMeans answers -/
def mvB (n : Nat) (X : Nat → Nat) (wd : Int) : Bool := goodB n X && decide (1 ≤ wd ∧ wd ≤ (n : Int))
def mvX (X : Nat → Nat) (wd : Nat) : Nat → Nat := fun i => meanN wd (fun j => X (i + j))
theorem sub_mean {n wd i : Nat} {X : Nat → Nat} (h : goodB n X = true) (h1 : 1 ≤ wd) (h2 : i + wd ≤ n) : meanB wd (fun j => X (i + j)) = true := by
  obtain ⟨h64, hf⟩ := good_iff.1 h
  exact meanB_iff.2 ⟨good_iff.2 ⟨by omega, fun j hj => hf (i + j) (by omega)⟩, h1⟩
theorem LstF.sub {w : World} {b off n wd i : Nat} {X : Nat → Nat} (h : LstF w (some ⟨b, off, none⟩) n X) (hn : i + wd ≤ n) (h1 : 1 ≤ wd) : LstF w (some ⟨b, off + i, none⟩) wd (fun j => X (i + j)) := by
  obtain ⟨hw, hc⟩ := h
  refine ⟨fun j hj => hw (i + j) (by omega), .inr ⟨b, off + i, rfl, ?_⟩⟩
  rcases hc with e | ⟨b', off', e, hlt, hc⟩
  · omega
  · cases e
    exact ⟨hlt, fun j hj => by rw [Nat.add_assoc]; exact hc (i + j) (by omega)⟩
set_option maxHeartbeats 400000 in
theorem spec_moving_no (a : Option Addr) (len cap : Nat) (X : Nat → Nat) (wd : Int) (w : World) (hl : len ≤ 1048576) (h : LstF w a len X) (hno : mvB len X wd = false) :
    Calls Try.prog 29 #[.slice a len cap, .int .i64 wd] w fun e w' => e = .returned (.tuple #[.slice (some ⟨w.heap.size, 0, none⟩) 0 0, .bool false]) ∧ OwnF w.heap.size w' (.slice (some ⟨w.heap.size, 0, none⟩) 0 0) 0 (fun _ => 0) ∧ Below w.heap.size w w' := by
  have Hst := Lib.hid (And.intro (litF w) ((Below.refl w.heap.size w).alloc (Nat.le_refl _) (.cells #[] 30)))
  have H := Lib.hid (h.keep Hst.out.2)
  clear h
  have hdrew : ∀ n, OwnF w.heap.size ((w.alloc (.cells #[] 30)).drewN n) (.slice (some ⟨w.heap.size, 0, none⟩) 0 0) 0 (fun _ => 0) := fun _ => Hst.out.1
  have Hd := Lib.hid hdrew
  clear hdrew
  unfold mvB at hno
  cases hq : goodB len X
  · clear hno
    go_enter Try.func29, Try.ntmps29
    go_wp2_with fail
    refine (good_any _ _ _ X _ hl H.out).mono ?_
    rintro e w1 ⟨rfl, n, rfl⟩
    rw [hq]
    go_wp2_with fail
    go_ret2
    exact ⟨rfl, Hd.out _, below_drewN Hst.out.2 _⟩
  · rw [hq, Bool.true_and] at hno
    go_enter Try.func29, Try.ntmps29
    go_wp2_with fail
    refine (good_any _ _ _ X _ hl H.out).mono ?_
    rintro e w1 ⟨rfl, n, rfl⟩
    rw [hq]
    go_wp2_with fail
    refine (inW_any _ _ _ _).mono ?_
    rintro e w1 ⟨rfl, rfl⟩
    rw [hno]
    go_wp2_with fail
    go_ret2
    exact ⟨rfl, Hd.out _, below_drewN Hst.out.2 _⟩
set_option maxHeartbeats 800000 in
theorem spec_moving_yes (b off len cap : Nat) (X : Nat → Nat) (wd : Nat) (w : World) (hlc : len ≤ cap) (h : LstF w (some ⟨b, off, none⟩) len X) (hyes : mvB len X wd = true) :
    Calls Try.prog 29 #[.slice (some ⟨b, off, none⟩) len cap, .int .i64 (wd : Int)] w fun e w' => ∃ g cp, e = .returned (.tuple #[.slice (some ⟨g, 0, none⟩) (len + 1 - wd) cp, .bool true]) ∧ OwnF w.heap.size w' (.slice (some ⟨g, 0, none⟩) (len + 1 - wd) cp) (len + 1 - wd) (mvX X wd) ∧ Below w.heap.size w w' := by
  obtain ⟨hq, hin⟩ : goodB len X = true ∧ ((1 : Int) ≤ (wd : Int) ∧ (wd : Int) ≤ (len : Int)) := by
    unfold mvB at hyes
    rw [Bool.and_eq_true, decide_eq_true_iff] at hyes
    exact hyes
  have h64 := (good_iff.1 hq).1
  have h1 : 1 ≤ wd := by omega
  have h2 : wd ≤ len := by omega
  have hd : decide ((1 : Int) ≤ (wd : Int) ∧ (wd : Int) ≤ (len : Int)) = true := decide_eq_true hin
  have Hst := Lib.hid (And.intro (litF w) ((Below.refl w.heap.size w).alloc (Nat.le_refl _) (.cells #[] 30)))
  have H0 := Lib.hid h
  have H := Lib.hid (h.keep Hst.out.2)
  have Hq := Lib.hid hq
  clear h hyes hin
  go_enter Try.func29, Try.ntmps29
  go_wp2_with fail
  refine (good_any _ _ _ X _ (by omega) H.out).mono ?_
  rintro e w1 ⟨rfl, n, rfl⟩
  rw [hq]
  clear hq
  go_wp2_with fail
  refine (inW_any _ _ _ _).mono ?_
  rintro e w1 ⟨rfl, rfl⟩
  rw [hd]
  have Hb := Lib.hid (show OwnF w.heap.size ((w.alloc (.cells #[] 30)).drewN n) (.slice (some ⟨w.heap.size, 0, none⟩) 0 0) 0 (mvX X wd) ∧ Below w.heap.size w ((w.alloc (.cells #[] 30)).drewN n) from ⟨ownF_congr Hst.out.1 (fun j hj => absurd hj (Nat.not_lt_zero _)), below_drewN Hst.out.2 _⟩)
  obtain ⟨w2, hw2⟩ : ∃ w2, (w.alloc (.cells #[] 30)).drewN n = w2 := ⟨_, rfl⟩
  rw [hw2] at Hb ⊢
  clear hw2 hd
  go_wp2_with fail
  go_loopw [6, 7] (fun v iv wr => ∃ (r g cp : Nat), v = .slice (some ⟨g, 0, none⟩) r cp ∧ iv = .int .i64 (r : Int) ∧ r ≤ len + 1 - wd ∧ OwnF w.heap.size wr (.slice (some ⟨g, 0, none⟩) r cp) r (mvX X wd) ∧ Below w.heap.size w wr)
    (fun _ iv _ => len + 1 - wd - (intOf iv).toNat)
  case atStart => exact ⟨0, w.heap.size, 0, rfl, rfl, Nat.zero_le _, Hb.out.1, Hb.out.2⟩
  case round =>
    obtain ⟨r, g, cp, rfl, rfl, hr, hown, hbel⟩ := hrel
    have hw0 : IntKind.i64.wrap ((r : Int) + (wd : Int)) = ((r + wd : Nat) : Int) := by rw [IntKind.wrap_i64]; omega
    by_cases hrl : r + wd ≤ len
    · have hrl' : (r : Int) + (wd : Int) ≤ (len : Int) := by omega
      have hL : LstF wr (some ⟨b, off, none⟩) len X := H0.out.keep hbel
      have hL2 := LstF.sub hL (i := r) (wd := wd) hrl h1
      have hsl := fun wx => run_mid b off len cap r (r + wd) wx (by omega) (by omega)
      rw [Nat.add_sub_cancel_left] at hsl
      have hmb := sub_mean Hq.out h1 hrl
      have hsm := spec_mean (some ⟨b, off + r, none⟩) wd (cap - r) (fun j => X (r + j)) wr (by omega) hL2
      have Hs := Lib.hid hsm
      have Hmb := Lib.hid hmb
      have Hr := Lib.hid (And.intro hown hbel)
      have hsz := hbel.size
      obtain ⟨mm, hmm⟩ : ∃ mm, meanN wd (fun j => X (r + j)) = mm := ⟨_, rfl⟩
      have Hmm := Lib.hid (show mvX X wd r = mm from hmm)
      rw [hmm] at Hs
      rw [hmb] at Hs
      clear hown hbel hL hL2 hsm hmb hmm
      go_wp2_with fail
      refine Hs.out.mono ?_
      rintro e w3 ⟨rfl, n3, rfl⟩
      obtain ⟨w5, hw5⟩ : ∃ w5, wr.drewN n3 = w5 := ⟨_, rfl⟩
      have H5 := Lib.hid (show OwnF w.heap.size w5 (.slice (some ⟨g, 0, none⟩) r cp) r (mvX X wd) ∧ Below w.heap.size w w5 from by rw [← hw5]; exact ⟨Hr.out.1, below_drewN Hr.out.2 n3⟩)
      rw [hw5]
      have hba := H5.out.2.alloc H5.out.2.size (.cells #[.float .f32 mm] 30)
      obtain ⟨gC, cC, wC, krunC, hownC, hbelC⟩ := appF (base := w.heap.size) (w := w5.alloc (.cells #[.float .f32 mm] 30)) (n := r) (cap := cp) (m := 1) (c := 1) (g := g) (ad := ⟨w5.heap.size, 0, none⟩) (Y := fun _ => mm) (World.ownsRow.alloc H5.out.1 _) (fun j hj => by
        have hn : (w5.alloc (.cells #[.float .f32 mm] 30)).heap[w5.heap.size]? = some (.cells #[.float .f32 mm] 30 (0, 0)) := block_new w5 _
        rw [addr_add, Nat.zero_add, cell_of_row _ w5.heap.size j _ _ _ hn]
        obtain rfl : j = 0 := by omega
        rfl) (by omega) hba.size
      have H9 := Lib.hid (show OwnF w.heap.size wC (.slice (some ⟨gC, 0, none⟩) (r + 1) cC) (r + 1) (mvX X wd) ∧ Below w.heap.size w wC from ⟨ownF_congr hownC (fun j hj => by
        by_cases e : j < r
        · rw [spl_eq, if_neg (by omega)]
        · obtain rfl : j = r := by omega
          rw [spl_eq, if_pos (by omega), Hmm.out]), hba.trans hbelC⟩)
      clear hba hownC hbelC hw5
      go_wp2_with (at_builtin; go_loud (refine wpList_append_run rfl (.tmp 40) (.tmp 42) _ rfl rfl rfl krunC ?_))
      go_roundw
      case rel => exact ⟨r + 1, gC, cC, rfl, by go_num, by omega, H9.out.1, H9.out.2⟩
      case measure => simp [intOf]; omega
    · obtain rfl : r = len + 1 - wd := by omega
      have hrl' : ¬ ((len + 1 - wd : Nat) : Int) + (wd : Int) ≤ (len : Int) := by omega
      have Hr := Lib.hid (And.intro hown hbel)
      clear hown hbel
      go_wp2_with fail
      go_ret2
      exact ⟨g, cp, rfl, Hr.out.1, Hr.out.2⟩
end Go.Proofs.Ytlbapogmcnpmeaa.Avg
