/- ValueOf, in the model and in the program. -/
import Derived.Test.YtmnpmbliikalhaaRngOver
namespace Go.Proofs.Ytmnpmbliikalhaa.Rng
open Go.ChangeShapes Go.WideShapes Go.ChangeAt Go.RowKit Go.Proofs.Ytmnpmbliikalhaa Go.Proofs.Ytmnpmbliikalhaa.Flt Go.Proofs.Ytmnpmbliikalhaa.Mth
set_option linter.unusedVariables false
theorem ret_val {m n : Nat} {c d : Bool} (h1 : m = n) (h2 : c = d) : Ending.returned (.tuple #[.float .f32 m, .bool c]) = .returned (.tuple #[.float .f32 n, .bool d]) := by rw [h1, h2]
def valF (n : Int) (F : Nat) : Nat := (floatBits .mul .f32 ((floatBits .quo .f32 (floatOfInt .f32 n) 1191181824).getD 0) F).getD 0
def valB (len : Nat) (X : Nat → Nat) (k n : Int) : Bool := hasB len X k && decide (-32767 ≤ n ∧ n ≤ 32767)
def valV (len : Nat) (X : Nat → Nat) (k n : Int) : Nat := if valB len X k n = true then valF n (X (k.toNat * 3)) else 0
def ValOut (len : Nat) (X : Nat → Nat) (k n : Int) (w : World) (e : Ending) (w' : World) : Prop := e = .returned (.tuple #[.float .f32 (valV len X k n), .bool (valB len X k n)]) ∧ Below w.heap.size w w'
theorem ops_value {n : Int} {F : Nat} (hn : -32767 ≤ n ∧ n ≤ 32767) (hF : rung Ieee.single F < Ieee.single.infRung) :
    ∃ q v, v = valF n F ∧ (Lit.float .f32 v).wf = true ∧ (∀ w, (binOp .quo 25 (.float .f32 (floatOfInt .f32 n)) (.float .f32 1191181824)).run Try.prog w = .ok (.float .f32 q) w) ∧ (∀ w, (binOp .mul 25 (.float .f32 q) (.float .f32 F)).run Try.prog w = .ok (.float .f32 v) w) := by
  obtain ⟨q, v, h1, h2⟩ := value_steps (n := n) (by omega) hF
  exact ⟨q, v, by unfold valF; rw [h1, Option.getD_some, h2, Option.getD_some], floatBits_wf h2, fun w => run_float_arith w .quo _ _ _ _ _ h1, fun w => run_float_arith w .mul _ _ _ _ _ h2⟩
theorem valV_wf (len : Nat) (X : Nat → Nat) (k n : Int) : (Lit.float .f32 (valV len X k n)).wf = true := by
  unfold valV
  cases h : valB len X k n
  · exact wf_single (by simp)
  · rw [if_pos rfl]
    unfold valB at h
    rw [Bool.and_eq_true] at h
    obtain ⟨ho, m, rfl, hm⟩ := hasB_at h.1
    obtain ⟨q, v, hv, wv, _⟩ := ops_value (n := n) (of_decide_eq_true h.2) (full_at ho hm).1
    rw [Int.toNat_natCast, ← hv]; exact wv
theorem specVal_no (a : Option Addr) (len cap : Nat) (X : Nat → Nat) (k : Int) (n : Int) (w : World) (hl : len ≤ 1048576) (h : Lst w a len X) (hc : hasB len X k = false) :
    Calls Try.prog 42 #[.slice a len cap, .int .i64 k, .int .i64 n] w fun e w' => e = .returned (.tuple #[.float .f32 0, .bool false]) ∧ Below w.heap.size w w' := by
  have H := Lib.hid h
  clear h
  obtain ⟨c, hok⟩ : ∃ c, okB len X = c := ⟨_, rfl⟩
  unfold hasB at hc
  cases c
  · clear hc
    go_enter Try.func42, Try.ntmps42
    go_wp2_with fail
    refine (specOk _ _ _ X _ hl H.out).mono ?_
    rintro e w1 ⟨rfl, hb⟩
    have Hb := Lib.hid hb
    clear hb
    rw [hok]
    go_wp2_with fail
    go_ret2
    exact ⟨rfl, Hb.out⟩
  · rw [hok, Bool.true_and, ← in_dec] at hc
    go_enter Try.func42, Try.ntmps42
    go_wp2_with fail
    refine (specOk _ _ _ X _ hl H.out).mono ?_
    rintro e w1 ⟨rfl, hb⟩
    have Hb := Lib.hid hb
    clear hb
    rw [hok]
    go_wp2_with fail
    refine (in_any _ _ _ _).mono ?_
    rintro e w1 ⟨rfl, rfl⟩
    rw [hc]
    go_wp2_with fail
    go_ret2
    exact ⟨rfl, Hb.out⟩
theorem specVal_yes (b off len cap : Nat) (X : Nat → Nat) (k : Nat) (n : Int) (w : World) (hk : k < len) (hb : b < w.heap.size) (h : Cells w b off len X) (hL : Lst w (some ⟨b, off, none⟩) len X) (hok : okB len X = true) :
    Calls Try.prog 42 #[.slice (some ⟨b, off, none⟩) len cap, .int .i64 (k : Int), .int .i64 n] w (ValOut len X (k : Int) n w) := by
  have H := Lib.hid h
  have HL := Lib.hid hL
  have hl := (okB_bounds hok).2
  have hh : hasB len X (k : Int) = true := by unfold hasB; rw [hok, Bool.true_and]; exact decide_eq_true (by omega)
  have hF := full_at hok hk
  clear h hL
  have hin : decide ((0 : Int) ≤ (k : Int) ∧ (k : Int) ≤ (len : Int) - 1) = true := decide_eq_true (by omega)
  have hvb : valB len X (k : Int) n = decide (-32767 ≤ n ∧ n ≤ 32767) := by unfold valB; rw [hh]; rfl
  cases hn : decide (-32767 ≤ n ∧ n ≤ 32767)
  · rw [hn] at hvb
    have Hr := Lib.hid (And.intro (show valV len X (k : Int) n = 0 by unfold valV; rw [hvb]; rfl) hvb)
    clear hvb
    go_enter Try.func42, Try.ntmps42
    go_wp2_with fail
    refine (specOk _ _ _ X _ (by omega) HL.out).mono ?_
    rintro e w1 ⟨rfl, hb1⟩
    have Hb := Lib.hid hb1
    clear hb1
    rw [hok]
    go_wp2_with fail
    refine (in_any _ _ _ _).mono ?_
    rintro e w1 ⟨rfl, rfl⟩
    rw [hin]
    go_wp2_with fail
    refine (in_any _ _ _ _).mono ?_
    rintro e w1 ⟨rfl, rfl⟩
    rw [hn]
    go_wp2_with fail
    go_ret2
    exact ⟨ret_val Hr.out.1.symm Hr.out.2.symm, Hb.out⟩
  · rw [hn] at hvb
    obtain ⟨q, v, hv, wv, o1, o2⟩ := ops_value (of_decide_eq_true hn) hF.1
    have Hr := Lib.hid (And.intro (show valV len X (k : Int) n = v by unfold valV; rw [hvb, if_pos rfl, Int.toNat_natCast, hv]) hvb)
    clear hvb hv hF
    go_enter Try.func42, Try.ntmps42
    go_wp2_with fail
    refine (specOk _ _ _ X _ (by omega) HL.out).mono ?_
    rintro e w1 ⟨rfl, hb1⟩
    have Hb := Lib.hid hb1
    clear hb1
    rw [hok]
    go_wp2_with fail
    refine (in_any _ _ _ _).mono ?_
    rintro e w1 ⟨rfl, rfl⟩
    rw [hin]
    go_wp2_with fail
    refine (in_any _ _ _ _).mono ?_
    rintro e w1 ⟨rfl, rfl⟩
    rw [hn]
    obtain ⟨q0, q1, q2⟩ := (H.out.keep hb Hb.out) k hk
    go_wp2_with fail
    go_ret2
    exact ⟨ret_val Hr.out.1.symm Hr.out.2.symm, Hb.out⟩
theorem specVal (a : Option Addr) (len cap : Nat) (X : Nat → Nat) (k n : Int) (w : World) (hl : len ≤ 1048576) (h : Lst w a len X) :
    Calls Try.prog 42 #[.slice a len cap, .int .i64 k, .int .i64 n] w (ValOut len X k n w) := by
  cases hc : hasB len X k
  · have hb : valB len X k n = false := by unfold valB; rw [hc]; rfl
    refine (specVal_no a len cap X k n w hl h hc).mono ?_
    rintro e w' ⟨rfl, hb'⟩
    exact ⟨ret_val (by unfold valV; rw [hb]; rfl) hb.symm, hb'⟩
  · obtain ⟨ho, m, rfl, hm⟩ := hasB_at hc
    obtain ⟨b, off, rfl, hlt, hcells⟩ := h.cells (by omega)
    exact specVal_yes b off len cap X m n w hm hlt hcells h ho
theorem implVal (a : Option Addr) (len cap : Nat) (X : Nat → Nat) (k n : Int) (w : World) (hl : len ≤ 1048576) (h : Lst w a len X) :
    Calls Try.prog 22 #[.slice a len cap, .int .i64 k, .int .i64 n] w (ValOut len X k n w) := by
  have H := Lib.hid h
  clear h
  obtain ⟨c, hc⟩ : ∃ c, hasB len X k = c := ⟨_, rfl⟩
  cases c
  · have hb : valB len X k n = false := by unfold valB; rw [hc]; rfl
    have Hr := Lib.hid (And.intro (show valV len X k n = 0 by unfold valV; rw [hb]; rfl) hb)
    clear hb
    go_enter Try.func22, Try.ntmps22
    go_wp2_with fail
    refine (has_any _ _ _ X _ _ hl H.out).mono ?_
    rintro e w1 ⟨rfl, hb⟩
    have Hb := Lib.hid hb
    clear hb
    rw [hc]
    go_wp2_with fail
    go_ret2
    exact ⟨ret_val Hr.out.1.symm Hr.out.2.symm, Hb.out⟩
  · obtain ⟨ho, m, rfl, hm⟩ := hasB_at hc
    have hb12 := okB_bounds ho
    have hF := full_at ho hm
    obtain ⟨b, off, rfl, hlt, hcells⟩ := H.out.cells (by omega)
    have Hc := Lib.hid hcells
    have hvb : valB len X (m : Int) n = decide (-32767 ≤ n ∧ n ≤ 32767) := by unfold valB; rw [hc]; rfl
    clear hcells ho
    by_cases h1 : n < -32767
    · rw [decide_eq_false (by omega)] at hvb
      have Hr := Lib.hid (And.intro (show valV len X (m : Int) n = 0 by unfold valV; rw [hvb]; rfl) hvb)
      clear hvb
      go_enter Try.func22, Try.ntmps22
      go_wp2_with fail
      refine (has_any _ _ _ X _ _ hl H.out).mono ?_
      rintro e w1 ⟨rfl, hb⟩
      have Hb := Lib.hid hb
      clear hb
      rw [hc]
      go_wp2_with fail
      go_ret2
      exact ⟨ret_val Hr.out.1.symm Hr.out.2.symm, Hb.out⟩
    · by_cases h2 : 32767 < n
      · rw [decide_eq_false (by omega)] at hvb
        have Hr := Lib.hid (And.intro (show valV len X (m : Int) n = 0 by unfold valV; rw [hvb]; rfl) hvb)
        clear hvb
        go_enter Try.func22, Try.ntmps22
        go_wp2_with fail
        refine (has_any _ _ _ X _ _ hl H.out).mono ?_
        rintro e w1 ⟨rfl, hb⟩
        have Hb := Lib.hid hb
        clear hb
        rw [hc]
        go_wp2_with fail
        go_ret2
        exact ⟨ret_val Hr.out.1.symm Hr.out.2.symm, Hb.out⟩
      · have hn : -32767 ≤ n ∧ n ≤ 32767 := by omega
        rw [decide_eq_true hn] at hvb
        obtain ⟨q, v, hv, wv, o1, o2⟩ := ops_value hn hF.1
        have Hr := Lib.hid (And.intro (show valV len X (m : Int) n = v by unfold valV; rw [hvb, if_pos rfl, Int.toNat_natCast, hv]) hvb)
        clear hvb hv hF
        go_enter Try.func22, Try.ntmps22
        go_wp2_with fail
        refine (has_any _ _ _ X _ _ hl H.out).mono ?_
        rintro e w1 ⟨rfl, hb⟩
        have Hb := Lib.hid hb
        clear hb
        rw [hc]
        obtain ⟨q0, q1, q2⟩ := (Hc.out.keep hlt Hb.out) m hm
        go_wp2_with fail
        go_ret2
        exact ⟨ret_val Hr.out.1.symm Hr.out.2.symm, Hb.out⟩
end Go.Proofs.Ytmnpmbliikalhaa.Rng
