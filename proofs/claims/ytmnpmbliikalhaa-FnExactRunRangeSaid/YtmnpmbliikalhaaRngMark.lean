/- markRangeS: the ranges of the call's own memory are marked. -/
import Derived.Test.YtmnpmbliikalhaaSngO
namespace Go.Proofs.Ytmnpmbliikalhaa.Rng
open Go.ChangeShapes Go.WideShapes Go.ChangeAt Go.RowKit Go.Deep Go.Proofs.Ytmnpmbliikalhaa Go.Proofs.Ytmnpmbliikalhaa.Flt Go.Proofs.Ytmnpmbliikalhaa.Mth Go.Proofs.Ytmnpmbliikalhaa.Sgl
set_option linter.unusedVariables false
/-- the copy, with its row -/
theorem toRR_any (a : Option Addr) (len cap : Nat) (X : Nat → Nat) (w : World) (hl : len ≤ 1048576) (h : Lst w a len X) :
    Calls Try.prog 27 #[.slice a len cap] w fun e w' => e = .returned (.slice (some ⟨w.heap.size, 0, none⟩) len len) ∧ Below w.heap.size w w' ∧ Lst w' (some ⟨w.heap.size, 0, none⟩) len X ∧ ∃ f, w'.rowIs w.heap.size 37 (3 * len) f := by
  obtain ⟨h1, h2⟩ := h
  rcases h2 with rfl | ⟨b, off, rfl, hlt, hc⟩
  · have hmk : ∀ w : World, (Instr.makeSlice 24 (.int .i64 0) (.int .i64 0)).run Try.prog w = _ := make_any 0 (by omega)
    have Hst := Lib.hid (And.intro ((Below.refl w.heap.size w).alloc (Nat.le_refl _) (.cells (madeCells #[.float .f32 0, .float .f32 0, .float .f32 0] (0 * 3)) 37)) (And.intro (made_row 0 w) h1))
    clear h1
    go_enter Try.func27, Try.ntmps27
    go_wp2
    refine wp_loop_rounds 1 ?_
    rw [rounds_succ]
    go_wp2
    go_ret
    exact ⟨rfl, Hst.out.1, ⟨Hst.out.2.2, .inl rfl⟩, _, Hst.out.2.1⟩
  · refine (toRangeS_any b off len cap X w hl hlt hc).mono ?_
    rintro e w' ⟨rfl, hb, hr⟩
    exact ⟨rfl, hb, ⟨h1, .inr ⟨_, 0, rfl, hr.lt, cells_of_row hr⟩⟩, _, hr⟩
set_option maxHeartbeats 400000 in
theorem markR_any (B len cap k0 : Nat) (f : Nat → Value) (w : World) (hl : len ≤ 1048576) (hk0 : k0 ≤ 10) (hr : w.rowIs B 37 (3 * len) f) :
    Calls Try.prog 36 #[.slice (some ⟨B, 0, none⟩) len cap, .int .i64 (k0 : Int)] w fun e w' => e = .returned (.int .i64 ((k0 + 3 * len : Nat) : Int)) ∧ Only B w w' := by
  have Hr := Lib.hid hr
  have hc := run_fl
  clear hr
  go_enter Try.func36, Try.ntmps36
  go_wp2_with fail
  go_loopw [1, 5] (fun kv iv wr => ∃ (i k : Nat) (f : Nat → Value), i ≤ len ∧ k = k0 + 3 * i ∧ kv = .int .i64 (k : Int) ∧ iv = .int .i64 (i : Int) ∧ wr.rowIs B 37 (3 * len) f ∧ Only B w wr) (fun _ iv _ => len - (intOf iv).toNat)
  case atStart => exact ⟨0, k0, f, Nat.zero_le _, rfl, rfl, rfl, Hr.out, Only.refl _ _⟩
  case round =>
    obtain ⟨i, k, g, hi, hki, rfl, rfl, hrow, hbel⟩ := hrel
    have Hk := Lib.hid hki
    have hkb : k ≤ 6000000 := by omega
    by_cases hin : i < len
    · have hin' : (i : Int) < len := by omega
      have d0 := hrow.cell (i := i * 3) (by omega)
      have d1 := hrow.cell (i := i * 3 + 1) (by omega)
      have d2 := hrow.cell (i := i * 3 + 2) (by omega)
      have f0 := hrow.frozen (i * 3)
      have f1 := hrow.frozen (i * 3 + 1)
      have f2 := hrow.frozen (i * 3 + 2)
      have Hs := Lib.hid (And.intro (((hrow.set (i * 3) (.float .f32 (fl (k : Int)))).set (i * 3 + 1) (.float .f32 (fl ((k : Int) + 1)))).set (i * 3 + 2) (.float .f32 (fl ((k : Int) + 1 + 1)))) (((hbel.setCell (i * 3) (.float .f32 (fl (k : Int)))).setCell (i * 3 + 1) (.float .f32 (fl ((k : Int) + 1)))).setCell (i * 3 + 2) (.float .f32 (fl ((k : Int) + 1 + 1)))))
      clear hrow hbel hki
      generalize g (i * 3) = g0 at *
      generalize g (i * 3 + 1) = g1 at *
      generalize g (i * 3 + 2) = g2 at *
      go_wp2_with fail
      go_roundw
      case rel => exact ⟨i + 1, k + 3, _, hin, by rw [Hk.out]; omega, by go_num, by go_num, Hs.out.1, Hs.out.2⟩
      case measure => simp [intOf]; omega
    · have hin' : ¬ (i : Int) < len := by omega
      have Hf := Lib.hid (show (k : Int) = ((k0 + 3 * len : Nat) : Int) by omega)
      have Hb := Lib.hid hbel
      clear hrow hbel hki hc
      go_wp2_with fail
      go_ret
      exact ⟨ret_int Hf.out, Hb.out⟩
end Go.Proofs.Ytmnpmbliikalhaa.Rng
