/- BestRange, in the model and in the program. -/
import Derived.Test.YtmnpmbliikalhaaRngOver
namespace Go.Proofs.Ytmnpmbliikalhaa.Rng
open Go.ChangeShapes Go.WideShapes Go.ChangeAt Go.RowKit Go.Proofs.Ytmnpmbliikalhaa Go.Proofs.Ytmnpmbliikalhaa.Flt Go.Proofs.Ytmnpmbliikalhaa.Mth
set_option linter.unusedVariables false
/-- the first range that shows a reading -/
def bestF (len : Nat) (X : Nat → Nat) (x : Nat) : Int := match (List.range len).find? fun i => leA x (X (i * 3)) with
  | some i => (i : Int)
  | none => -1
theorem best_hit {len : Nat} {X : Nat → Nat} {x k : Nat} (hk : k < len) (h : leA x (X (k * 3)) = true) (hall : ∀ j, j < k → leA x (X (j * 3)) = false) : (k : Int) = bestF len X x := by
  have e : (List.range len).find? (fun i => leA x (X (i * 3))) = some k := by
    rw [List.find?_range_eq_some]
    refine ⟨h, by simpa using hk, fun j hj => by rw [hall j hj]; rfl⟩
  unfold bestF
  rw [e]
theorem best_none {len : Nat} {X : Nat → Nat} {x : Nat} (hall : ∀ j, j < len → leA x (X (j * 3)) = false) : (-1 : Int) = bestF len X x := by
  have e : (List.range len).find? (fun i => leA x (X (i * 3))) = none := by
    rw [List.find?_eq_none]
    intro j hj
    rw [hall j (by simpa using hj)]; simp
  unfold bestF
  rw [e]
def bestV (len : Nat) (X : Nat → Nat) (x : Nat) : Int := if okB len X = true then bestF len X x else -1
theorem best_no {len : Nat} {X : Nat → Nat} {x : Nat} (h : okB len X = false) : (-1 : Int) = bestV len X x := by unfold bestV; rw [h]; rfl
theorem best_yes {len : Nat} {X : Nat → Nat} {x : Nat} (h : okB len X = true) : bestF len X x = bestV len X x := by unfold bestV; rw [if_pos h]
theorem specBest_no (a : Option Addr) (len cap : Nat) (X : Nat → Nat) (x : Nat) (w : World) (hl : len ≤ 1048576) (h : Lst w a len X) (hc : okB len X = false) :
    Calls Try.prog 41 #[.slice a len cap, .float .f32 x] w fun e w' => e = .returned (.int .i64 (-1)) ∧ Below w.heap.size w w' := by
  have H := Lib.hid h
  clear h
  by_cases h0 : 0 < len
  · go_enter Try.func41, Try.ntmps41
    go_wp2_with fail
    refine wp_loop_rounds 1 ?_
    rw [rounds_succ]
    go_wp2_with fail
    refine (specOk _ _ _ X _ hl H.out).mono ?_
    rintro e w1 ⟨rfl, hb⟩
    have Hb := Lib.hid hb
    clear hb
    rw [hc]
    go_wp2_with fail
    go_ret
    exact ⟨rfl, Hb.out⟩
  · obtain rfl : len = 0 := by omega
    go_enter Try.func41, Try.ntmps41
    go_wp2_with fail
    refine wp_loop_rounds 1 ?_
    rw [rounds_succ]
    go_wp2_with fail
    go_ret
    exact ⟨rfl, Below.refl _ _⟩
set_option maxHeartbeats 800000 in
theorem specBest_yes (b off len cap : Nat) (X : Nat → Nat) (x : Nat) (w : World) (hb : b < w.heap.size) (h : Cells w b off len X) (hL : Lst w (some ⟨b, off, none⟩) len X) (ho : okB len X = true) :
    Calls Try.prog 41 #[.slice (some ⟨b, off, none⟩) len cap, .float .f32 x] w fun e w' => e = .returned (.int .i64 (bestF len X x)) ∧ Below w.heap.size w w' := by
  have H := Lib.hid h
  have HL := Lib.hid hL
  have hl := (okB_bounds ho).2
  clear h hL
  have Hst := Lib.hid (Below.refl w.heap.size w)
  generalize hB : w.heap.size = B at *
  go_enter Try.func41, Try.ntmps41
  go_wp2_with fail
  go_loopw [5] (fun i wr => ∃ k : Nat, i = .int .i64 k ∧ k ≤ len ∧ Below B w wr ∧ ∀ j, j < k → leA x (X (j * 3)) = false)
    (fun i _ => len - (intOf i).toNat)
  case atStart => exact ⟨0, rfl, Nat.zero_le _, Hst.out, fun j hj => absurd hj (Nat.not_lt_zero _)⟩
  case round =>
    obtain ⟨k, rfl, hk, hbel, hall⟩ := hrel
    have Hall := Lib.hid hall
    have Hbel := Lib.hid hbel
    have hsz : B ≤ wr.heap.size := by rw [← hB]; exact hbel.size
    clear hall hbel
    by_cases hkl : k < len
    · obtain ⟨c, hc⟩ : ∃ c, leA x (X (k * 3)) = c := ⟨_, rfl⟩
      go_wp2_with fail
      refine (specOk _ _ _ X _ (by omega) (HL.out.keep (by rw [hB]; exact Hbel.out))).mono ?_
      rintro e w1 ⟨rfl, hb1⟩
      have Hb := Lib.hid (Hbel.out.trans (hb1.mono hsz))
      clear hb1
      rw [ho]
      obtain ⟨q0, q1, q2⟩ := (H.out.keep hb Hb.out) k hkl
      cases c
      · have Hno := Lib.hid hc
        unfold leA leB at hc
        go_wp2_with fail
        refine wp_region_old (by kernel_rfl) (by kernel_rfl) ?_
        have q0' := fun n : Old w1 => (old_cell n (lt_of_cell q0)).trans q0
        repeat (go_big_quiet_step ((go_at_call 56; exact old_same (amtS_any _ _))))
        refine wpQuiet_nil ?_
        rintro _ ⟨n, rfl⟩
        go_wp2_with fail
        go_roundw
        case rel => exact ⟨k + 1, by go_num, by omega, Hb.out.trans (n.h.mono (by rw [← hB]; exact Hb.out.size)), fun j hj => by
          by_cases e : j = k
          · rw [e]; exact Hno.out
          · exact Hall.out j (by omega)⟩
        case measure => simp [intOf]; omega
      · have Hyes := Lib.hid hc
        unfold leA leB at hc
        go_wp2_with fail
        refine wp_region_old (by kernel_rfl) (by kernel_rfl) ?_
        have q0' := fun n : Old w1 => (old_cell n (lt_of_cell q0)).trans q0
        repeat (go_big_quiet_step ((go_at_call 56; exact old_same (amtS_any _ _))))
        refine wpQuiet_nil ?_
        rintro _ ⟨n, rfl⟩
        go_wp2_with fail
        go_ret
        exact ⟨ret_int (best_hit hkl Hyes.out Hall.out), Hb.out.trans (n.h.mono (by rw [← hB]; exact Hb.out.size))⟩
    · obtain rfl : k = len := by omega
      go_wp2_with fail
      go_ret
      exact ⟨ret_int (best_none Hall.out), Hbel.out⟩
theorem specBest (a : Option Addr) (len cap : Nat) (X : Nat → Nat) (x : Nat) (w : World) (hl : len ≤ 1048576) (h : Lst w a len X) :
    Calls Try.prog 41 #[.slice a len cap, .float .f32 x] w fun e w' => e = .returned (.int .i64 (bestV len X x)) ∧ Below w.heap.size w w' := by
  cases hc : okB len X
  · rw [← best_no hc]
    exact specBest_no a len cap X x w hl h hc
  · rw [← best_yes hc]
    obtain ⟨b, off, rfl, hlt, hcells⟩ := h.cells (okB_bounds hc).1
    exact specBest_yes b off len cap X x w hlt hcells h hc
theorem okI_any (a : Option Addr) (len cap : Nat) (X : Nat → Nat) (w : World) (hl : len ≤ 1048576) (h : Lst w a len X) :
    Calls Try.prog 17 #[.slice a len cap] w fun e w' => e = .returned (.bool (okB len X)) ∧ Below w.heap.size w w' := by
  have H := Lib.hid h
  clear h
  go_enter Try.func17, Try.ntmps17
  go_wp2_with fail
  refine (implOk _ _ _ X _ hl H.out).mono ?_
  rintro e w1 ⟨rfl, hb⟩
  have Hb := Lib.hid hb
  clear hb
  go_wp2_with fail
  go_ret
  exact ⟨rfl, Hb.out⟩
set_option maxHeartbeats 800000 in
theorem implBest_yes (b off len cap : Nat) (X : Nat → Nat) (x : Nat) (wx : (Lit.float .f32 x).wf = true) (w : World) (hb : b < w.heap.size) (h : Cells w b off len X) (hL : Lst w (some ⟨b, off, none⟩) len X) (ho : okB len X = true) :
    Calls Try.prog 24 #[.slice (some ⟨b, off, none⟩) len cap, .float .f32 x] w fun e w' => e = .returned (.int .i64 (bestF len X x)) ∧ Below w.heap.size w w' := by
  have H := Lib.hid h
  have HL := Lib.hid hL
  have hl := (okB_bounds ho).2
  clear h hL
  generalize hB : w.heap.size = B at *
  go_enter Try.func24, Try.ntmps24
  go_wp2_with fail
  refine (okI_any _ _ _ X _ (by omega) HL.out).mono ?_
  rintro e w1 ⟨rfl, hb1⟩
  have Hst := Lib.hid (show Below B w w1 by rw [← hB]; exact hb1)
  clear hb1
  rw [ho]
  go_wp2_with fail
  go_loopw [12] (fun i wr => ∃ k : Nat, i = .int .i64 k ∧ k ≤ len ∧ Below B w wr ∧ ∀ j, j < k → leA x (X (j * 3)) = false)
    (fun i _ => len - (intOf i).toNat)
  case atStart => exact ⟨0, rfl, Nat.zero_le _, Hst.out, fun j hj => absurd hj (Nat.not_lt_zero _)⟩
  case round =>
    obtain ⟨k, rfl, hk, hbel, hall⟩ := hrel
    have Hall := Lib.hid hall
    have Hbel := Lib.hid hbel
    have hsz : B ≤ wr.heap.size := by rw [← hB]; exact hbel.size
    clear hall hbel
    by_cases hkl : k < len
    · obtain ⟨c, hc⟩ : ∃ c, leA x (X (k * 3)) = c := ⟨_, rfl⟩
      obtain ⟨q0, q1, q2⟩ := (H.out.keep hb Hbel.out) k hkl
      go_wp2_with fail
      refine (shows_any _ _ _ x wx _).mono ?_
      rintro e w2 ⟨rfl, hb2⟩
      have Hb := Lib.hid ((Hbel.out.alloc hsz _).trans (hb2.mono (by rw [sz_alloc]; omega)))
      clear hb2
      rw [hc]
      cases c
      · go_wp2_with fail
        go_roundw
        case rel => exact ⟨k + 1, by go_num, by omega, Hb.out, fun j hj => by
          by_cases e : j = k
          · rw [e]; exact hc
          · exact Hall.out j (by omega)⟩
        case measure => simp [intOf]; omega
      · go_wp2_with fail
        go_ret
        exact ⟨ret_int (best_hit hkl hc Hall.out), Hb.out⟩
    · obtain rfl : k = len := by omega
      go_wp2_with fail
      go_ret
      exact ⟨ret_int (best_none Hall.out), Hbel.out⟩
theorem implBest (a : Option Addr) (len cap : Nat) (X : Nat → Nat) (x : Nat) (wx : (Lit.float .f32 x).wf = true) (w : World) (hl : len ≤ 1048576) (h : Lst w a len X) :
    Calls Try.prog 24 #[.slice a len cap, .float .f32 x] w fun e w' => e = .returned (.int .i64 (bestV len X x)) ∧ Below w.heap.size w w' := by
  cases hc : okB len X
  · rw [← best_no hc]
    have H := Lib.hid h
    clear h
    go_enter Try.func24, Try.ntmps24
    go_wp2_with fail
    refine (okI_any _ _ _ X _ hl H.out).mono ?_
    rintro e w1 ⟨rfl, hb1⟩
    have Hb := Lib.hid hb1
    clear hb1
    rw [hc]
    go_wp2_with fail
    go_ret
    exact ⟨rfl, Hb.out⟩
  · rw [← best_yes hc]
    obtain ⟨b, off, rfl, hlt, hcells⟩ := h.cells (okB_bounds hc).1
    exact implBest_yes b off len cap X x wx w hlt hcells h hc
end Go.Proofs.Ytmnpmbliikalhaa.Rng
