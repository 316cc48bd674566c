/- StepRange in the model and in the program. -/
import Derived.Test.YtmnpmbliikalhaaRngAmt
namespace Go.Proofs.Ytmnpmbliikalhaa.Rng
open Go.ChangeShapes Go.WideShapes Go.ChangeAt Go.RowKit Go.Proofs.Ytmnpmbliikalhaa Go.Proofs.Ytmnpmbliikalhaa.Flt Go.Proofs.Ytmnpmbliikalhaa.Mth
set_option linter.unusedVariables false
theorem stepV_no {len : Nat} {X : Nat → Nat} {k : Int} {x : Nat} (h : hasB len X k = false) : -1 = stepV len X k x := by unfold stepV; rw [h]; rfl
theorem stepV_yes {len : Nat} {X : Nat → Nat} {k x : Nat} (h : hasB len X (k : Int) = true) : stepB len X k x = stepV len X (k : Int) x := by unfold stepV; rw [if_pos h]; rfl
theorem Lst.cells {w : World} {a : Option Addr} {len : Nat} {X : Nat → Nat} (h : Lst w a len X) (h0 : 0 < len) : ∃ b off, a = some ⟨b, off, none⟩ ∧ b < w.heap.size ∧ Cells w b off len X := by
  rcases h.2 with e | e
  · omega
  · exact e
theorem implStep (a : Option Addr) (len cap : Nat) (X : Nat → Nat) (k : Int) (x : Nat) (wx : (Lit.float .f32 x).wf = true) (w : World) (hl : len ≤ 1048576) (h : Lst w a len X) :
    Calls Try.prog 19 #[.slice a len cap, .int .i64 k, .float .f32 x] w fun e w' => e = .returned (.int .i64 (stepV len X k x)) ∧ Below w.heap.size w w' := by
  have H := Lib.hid h
  clear h
  obtain ⟨c, hc⟩ : ∃ c, hasB len X k = c := ⟨_, rfl⟩
  cases c
  · have Hf := Lib.hid (stepV_no (x := x) hc)
    go_enter Try.func19, Try.ntmps19
    go_wp2_with fail
    refine (has_any _ _ _ X _ _ hl H.out).mono ?_
    rintro e w1 ⟨rfl, hb⟩
    have Hb := Lib.hid hb
    clear hb
    rw [hc]
    go_wp2_with fail
    go_ret
    exact ⟨ret_int Hf.out, Hb.out⟩
  · obtain ⟨ho, m, rfl, hm⟩ := hasB_at hc
    have hb12 := okB_bounds ho
    have Hf := Lib.hid (stepV_yes (x := x) hc)
    obtain ⟨b, off, rfl, hlt, hcells⟩ := H.out.cells (by omega)
    have Hc := Lib.hid hcells
    clear hcells ho
    go_enter Try.func19, Try.ntmps19
    go_wp2_with fail
    refine (has_any _ _ _ X _ _ hl H.out).mono ?_
    rintro e w1 ⟨rfl, hb⟩
    have Hb := Lib.hid hb
    clear hb
    rw [hc]
    go_wp2_with fail
    refine (stepI_any b off len cap X m x wx _ hb12.2 hm (Nat.lt_of_lt_of_le hlt Hb.out.size) (Hc.out.keep hlt Hb.out)).mono ?_
    rintro e w2 ⟨rfl, hb⟩
    have Hb2 := Lib.hid (Hb.out.trans (hb.mono Hb.out.size))
    clear hb
    go_wp2_with fail
    go_ret
    exact ⟨ret_int Hf.out, Hb2.out⟩
/-- the head of the model's functions: the list is not valid or has no range 'k' -/
theorem in_dec (k : Int) (len : Nat) : decide ((0 : Int) ≤ k ∧ k ≤ (len : Int) - 1) = decide (0 ≤ k ∧ k < (len : Int)) := by
  apply decide_eq_decide.2
  omega
theorem specStep_no (a : Option Addr) (len cap : Nat) (X : Nat → Nat) (k : Int) (x : Nat) (w : World) (hl : len ≤ 1048576) (h : Lst w a len X) (hc : hasB len X k = false) :
    Calls Try.prog 29 #[.slice a len cap, .int .i64 k, .float .f32 x] w fun e w' => e = .returned (.int .i64 (-1)) ∧ Below w.heap.size w w' := by
  have H := Lib.hid h
  clear h
  obtain ⟨c, hok⟩ : ∃ c, okB len X = c := ⟨_, rfl⟩
  unfold hasB at hc
  cases c
  · clear hc
    go_enter Try.func29, Try.ntmps29
    go_wp2_with fail
    refine (specOk _ _ _ X _ hl H.out).mono ?_
    rintro e w1 ⟨rfl, hb⟩
    have Hb := Lib.hid hb
    clear hb
    rw [hok]
    go_wp2_with fail
    go_ret
    exact ⟨rfl, Hb.out⟩
  · rw [hok, Bool.true_and, ← in_dec] at hc
    go_enter Try.func29, Try.ntmps29
    go_wp2_with fail
    refine (specOk _ _ _ X _ hl H.out).mono ?_
    rintro e w1 ⟨rfl, hb⟩
    have Hb := Lib.hid hb
    clear hb
    rw [hok]
    go_wp2_with fail
    refine (in_any _ _ _ _).mono ?_
    rintro e w1 ⟨rfl, rfl⟩
    rw [hc]
    go_wp2_with fail
    go_ret
    exact ⟨rfl, Hb.out⟩
theorem amtS_q (x k n : Nat) (w : World) : Calls Try.prog 56 #[.float .f32 x] (w.drewN (k + n)) fun e w'' => e = .returned (.float .f32 (amtS x)) ∧ ∃ m, w'' = w.drewN (k + m) := by
  refine (amtS_any x _).mono ?_
  rintro e w2 ⟨rfl, rfl⟩
  exact ⟨rfl, n, rfl⟩
set_option maxHeartbeats 1600000 in
theorem specStep_yes (b off len cap : Nat) (X : Nat → Nat) (k x : Nat) (w : World) (hl : len ≤ 12) (hk : k < len) (hb : b < w.heap.size) (h : Cells w b off len X) (hL : Lst w (some ⟨b, off, none⟩) len X) (hok : okB len X = true) :
    Calls Try.prog 29 #[.slice (some ⟨b, off, none⟩) len cap, .int .i64 (k : Int), .float .f32 x] w fun e w' => e = .returned (.int .i64 (stepB len X k x)) ∧ Below w.heap.size w w' := by
  have H := Lib.hid h
  have HL := Lib.hid hL
  clear h hL
  obtain ⟨c1, h1⟩ : ∃ c, gtA x (X (k * 3 + 2)) = c := ⟨_, rfl⟩
  obtain ⟨c2, h2⟩ : ∃ c, ltA x (X (k * 3 + 1)) = c := ⟨_, rfl⟩
  have Hf := Lib.hid (show (if k + 1 < len ∧ c1 = true then (k : Int) + 1 else if 0 < k ∧ c2 = true then (k : Int) - 1 else k) = stepB len X k x by unfold stepB; rw [h1, h2])
  have hin : decide ((0 : Int) ≤ (k : Int) ∧ (k : Int) ≤ (len : Int) - 1) = true := decide_eq_true (by omega)
  go_enter Try.func29, Try.ntmps29
  go_wp2_with fail
  refine (specOk _ _ _ X _ (by omega) HL.out).mono ?_
  rintro e w1 ⟨rfl, hb1⟩
  obtain ⟨q0, q1, q2⟩ := (H.out.keep hb hb1) k hk
  have Hb := Lib.hid hb1
  clear hb1
  rw [hok]
  unfold gtA gtB at h1
  unfold ltA ltB at h2
  go_wp2_with fail
  refine (in_any _ _ _ _).mono ?_
  rintro e w1 ⟨rfl, rfl⟩
  rw [hin]
  by_cases g1 : k + 1 < len
  · have g1' : decide ((k : Int) + 1 < (len : Int)) = true := decide_eq_true (by omega)
    have hw1 : IntKind.i64.wrap ((k : Int) + 1) = (k : Int) + 1 := by rw [IntKind.wrap_i64]; omega
    cases c1
    · by_cases g2 : 0 < k
      · have g2' : decide ((0 : Int) < (k : Int)) = true := decide_eq_true (by omega)
        cases c2
        · go_wp2_with fail
          go_quiet ((go_at_call 56; exact Calls.quiet_of_same (amtS_any _ _)))
          go_wp2_with fail
          go_quiet ((go_at_call 56; first | exact amtS_q _ _ _ _ | exact Calls.quiet_of_same (amtS_any _ _)))
          go_wp2_with fail
          go_ret
          exact ⟨ret_int (by rw [← Hf.out]; simp [g1, g2]), by repeat (first | exact Hb.out | refine below_drewN ?_ _)⟩
        · go_wp2_with fail
          go_quiet ((go_at_call 56; exact Calls.quiet_of_same (amtS_any _ _)))
          go_wp2_with fail
          go_quiet ((go_at_call 56; first | exact amtS_q _ _ _ _ | exact Calls.quiet_of_same (amtS_any _ _)))
          go_wp2_with fail
          go_ret
          exact ⟨ret_int (by rw [← Hf.out]; simp [g1, g2]), by repeat (first | exact Hb.out | refine below_drewN ?_ _)⟩
      · have g2' : decide ((0 : Int) < (k : Int)) = false := decide_eq_false (by omega)
        go_wp2_with fail
        go_quiet ((go_at_call 56; exact Calls.quiet_of_same (amtS_any _ _)))
        go_wp2_with fail
        go_quiet ((go_at_call 56; first | exact amtS_q _ _ _ _ | exact Calls.quiet_of_same (amtS_any _ _)))
        go_wp2_with fail
        go_ret
        exact ⟨ret_int (by rw [← Hf.out]; simp [g1, g2]), by repeat (first | exact Hb.out | refine below_drewN ?_ _)⟩
    · go_wp2_with fail
      go_quiet ((go_at_call 56; exact Calls.quiet_of_same (amtS_any _ _)))
      go_wp2_with fail
      go_ret
      exact ⟨ret_int (by rw [← Hf.out]; simp [g1]), by repeat (first | exact Hb.out | refine below_drewN ?_ _)⟩
  · have g1' : decide ((k : Int) + 1 < (len : Int)) = false := decide_eq_false (by omega)
    have hw1 : IntKind.i64.wrap ((k : Int) + 1) = (k : Int) + 1 := by rw [IntKind.wrap_i64]; omega
    by_cases g2 : 0 < k
    · have g2' : decide ((0 : Int) < (k : Int)) = true := decide_eq_true (by omega)
      cases c2
      · go_wp2_with fail
        go_quiet ((go_at_call 56; exact Calls.quiet_of_same (amtS_any _ _)))
        go_wp2_with fail
        go_quiet ((go_at_call 56; first | exact amtS_q _ _ _ _ | exact Calls.quiet_of_same (amtS_any _ _)))
        go_wp2_with fail
        go_ret
        exact ⟨ret_int (by rw [← Hf.out]; simp [g1, g2]), by repeat (first | exact Hb.out | refine below_drewN ?_ _)⟩
      · go_wp2_with fail
        go_quiet ((go_at_call 56; exact Calls.quiet_of_same (amtS_any _ _)))
        go_wp2_with fail
        go_quiet ((go_at_call 56; first | exact amtS_q _ _ _ _ | exact Calls.quiet_of_same (amtS_any _ _)))
        go_wp2_with fail
        go_ret
        exact ⟨ret_int (by rw [← Hf.out]; simp [g1, g2]), by repeat (first | exact Hb.out | refine below_drewN ?_ _)⟩
    · have g2' : decide ((0 : Int) < (k : Int)) = false := decide_eq_false (by omega)
      go_wp2_with fail
      go_quiet ((go_at_call 56; exact Calls.quiet_of_same (amtS_any _ _)))
      go_wp2_with fail
      go_quiet ((go_at_call 56; first | exact amtS_q _ _ _ _ | exact Calls.quiet_of_same (amtS_any _ _)))
      go_wp2_with fail
      go_ret
      exact ⟨ret_int (by rw [← Hf.out]; simp [g1, g2]), by repeat (first | exact Hb.out | refine below_drewN ?_ _)⟩
theorem specStep (a : Option Addr) (len cap : Nat) (X : Nat → Nat) (k : Int) (x : Nat) (w : World) (hl : len ≤ 1048576) (h : Lst w a len X) :
    Calls Try.prog 29 #[.slice a len cap, .int .i64 k, .float .f32 x] w fun e w' => e = .returned (.int .i64 (stepV len X k x)) ∧ Below w.heap.size w w' := by
  cases hc : hasB len X k
  · rw [← stepV_no hc]
    exact specStep_no a len cap X k x w hl h hc
  · obtain ⟨ho, m, rfl, hm⟩ := hasB_at hc
    rw [← stepV_yes hc]
    obtain ⟨b, off, rfl, hlt, hcells⟩ := h.cells (by omega)
    exact specStep_yes b off len cap X m x w (okB_bounds ho).2 hm hlt hcells h ho
end Go.Proofs.Ytmnpmbliikalhaa.Rng
