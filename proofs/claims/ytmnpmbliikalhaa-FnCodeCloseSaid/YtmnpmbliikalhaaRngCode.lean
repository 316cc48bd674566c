/- CodeOf, in the model and in the program. -/
import Derived.Test.YtmnpmbliikalhaaRngOver
namespace Go.Proofs.Ytmnpmbliikalhaa.Rng
open Go.ChangeShapes Go.WideShapes Go.ChangeAt Go.RowKit Go.Proofs.Ytmnpmbliikalhaa Go.Proofs.Ytmnpmbliikalhaa.Flt Go.Proofs.Ytmnpmbliikalhaa.Mth
set_option linter.unusedVariables false
theorem ret_code {m n : Int} {c d : Bool} (h1 : m = n) (h2 : c = d) : Ending.returned (.tuple #[.int .i64 m, .bool c]) = .returned (.tuple #[.int .i64 n, .bool d]) := by rw [h1, h2]
def codeB (len : Nat) (X : Nat → Nat) (k : Int) (x : Nat) : Bool := hasB len X k && leA x (X (k.toNat * 3))
def codeV (len : Nat) (X : Nat → Nat) (k : Int) (x : Nat) : Int := if codeB len X k x = true then codeI x (X (k.toNat * 3)) else 0
/-- what CodeOf gives: two values -/
def CodeOut (len : Nat) (X : Nat → Nat) (k : Int) (x : Nat) (w : World) (e : Ending) (w' : World) : Prop := e = .returned (.tuple #[.int .i64 (codeV len X k x), .bool (codeB len X k x)]) ∧ Below w.heap.size w w'
theorem specCode_no (a : Option Addr) (len cap : Nat) (X : Nat → Nat) (k : Int) (x : Nat) (w : World) (hl : len ≤ 1048576) (h : Lst w a len X) (hc : hasB len X k = false) :
    Calls Try.prog 23 #[.slice a len cap, .int .i64 k, .float .f32 x] w fun e w' => e = .returned (.tuple #[.int .i64 0, .bool false]) ∧ Below w.heap.size w w' := by
  have H := Lib.hid h
  clear h
  obtain ⟨c, hok⟩ : ∃ c, okB len X = c := ⟨_, rfl⟩
  unfold hasB at hc
  cases c
  · clear hc
    go_enter Try.func23, Try.ntmps23
    go_wp2_with fail
    refine (specOk _ _ _ X _ hl H.out).mono ?_
    rintro e w1 ⟨rfl, hb⟩
    have Hb := Lib.hid hb
    clear hb
    rw [hok]
    go_wp2_with fail
    go_ret2
    exact ⟨rfl, Hb.out⟩
  · rw [hok, Bool.true_and, ← in_dec] at hc
    go_enter Try.func23, Try.ntmps23
    go_wp2_with fail
    refine (specOk _ _ _ X _ hl H.out).mono ?_
    rintro e w1 ⟨rfl, hb⟩
    have Hb := Lib.hid hb
    clear hb
    rw [hok]
    go_wp2_with fail
    refine (in_any _ _ _ _).mono ?_
    rintro e w1 ⟨rfl, rfl⟩
    rw [hc]
    go_wp2_with fail
    go_ret2
    exact ⟨rfl, Hb.out⟩
theorem ops_code {x F : Nat} (hF : Full F) (h : rung Ieee.single x ≤ rung Ieee.single F) :
    ∃ q p n, n = codeI x F ∧ (∀ w, (binOp .quo 25 (.float .f32 x) (.float .f32 F)).run Try.prog w = .ok (.float .f32 q) w) ∧ (∀ w, (binOp .mul 25 (.float .f32 q) (.float .f32 1191181824)).run Try.prog w = .ok (.float .f32 p) w) ∧ (∀ w, (convert 25 3 (.float .f32 p)).run Try.prog w = .ok (.int .i64 n) w) := by
  obtain ⟨q, p, h1, h2, h3⟩ := code_steps hF.1 hF.2.1 h
  exact ⟨q, p, _, rfl, fun w => run_float_arith w .quo _ _ _ _ _ h1, fun w => run_float_arith w .mul _ _ _ _ _ h2, fun w => run_convert_float_int w _ _ _ _ _ _ under25 Try.underlying3 h3⟩
theorem specCode_yes (b off len cap : Nat) (X : Nat → Nat) (k x : Nat) (wx : (Lit.float .f32 x).wf = true) (w : World) (hk : k < len) (hb : b < w.heap.size) (h : Cells w b off len X) (hL : Lst w (some ⟨b, off, none⟩) len X) (hok : okB len X = true) :
    Calls Try.prog 23 #[.slice (some ⟨b, off, none⟩) len cap, .int .i64 (k : Int), .float .f32 x] w (CodeOut len X (k : Int) x w) := by
  have H := Lib.hid h
  have HL := Lib.hid hL
  have hl := (okB_bounds hok).2
  have hh : hasB len X (k : Int) = true := by unfold hasB; rw [hok, Bool.true_and]; exact decide_eq_true (by omega)
  have hF := full_at hok hk
  clear h hL
  have hin : decide ((0 : Int) ≤ (k : Int) ∧ (k : Int) ≤ (len : Int) - 1) = true := decide_eq_true (by omega)
  have hov : overB len X (k : Int) x = !leA x (X (k * 3)) := by unfold overB; rw [hh]; rfl
  have hcb : codeB len X (k : Int) x = leA x (X (k * 3)) := by unfold codeB; rw [hh]; rfl
  have hcv : codeV len X (k : Int) x = if leA x (X (k * 3)) = true then codeI x (X (k * 3)) else 0 := by unfold codeV; rw [hcb]; rfl
  cases h1 : leA x (X (k * 3))
  · rw [h1] at hov hcb hcv
    rw [if_neg Bool.false_ne_true] at hcv
    have Hr := Lib.hid (And.intro hcv hcb)
    clear hcv hcb
    go_enter Try.func23, Try.ntmps23
    go_wp2_with fail
    refine (specOk _ _ _ X _ (by omega) HL.out).mono ?_
    rintro e w1 ⟨rfl, hb1⟩
    have Hb := Lib.hid hb1
    clear hb1
    rw [hok]
    go_wp2_with fail
    refine (in_any _ _ _ _).mono ?_
    rintro e w1 ⟨rfl, rfl⟩
    rw [hin]
    go_wp2_with fail
    refine (specOver _ _ _ X _ x _ (by omega) (HL.out.keep Hb.out)).mono ?_
    rintro e w2 ⟨rfl, hb2⟩
    have Hb2 := Lib.hid (Hb.out.trans (hb2.mono Hb.out.size))
    clear hb2
    rw [hov]
    go_wp2_with fail
    go_ret2
    exact ⟨ret_code Hr.out.1.symm Hr.out.2.symm, Hb2.out⟩
  · rw [h1] at hov hcb hcv
    rw [if_pos rfl] at hcv
    rw [le_full wx hF] at h1
    obtain ⟨q, p, n, hn, o1, o2, o3⟩ := ops_code hF (of_decide_eq_true h1)
    rw [← hn] at hcv
    clear hn
    have Hr := Lib.hid (And.intro hcv hcb)
    clear hcv hcb
    clear h1 hF
    go_enter Try.func23, Try.ntmps23
    go_wp2_with fail
    refine (specOk _ _ _ X _ (by omega) HL.out).mono ?_
    rintro e w1 ⟨rfl, hb1⟩
    have Hb := Lib.hid hb1
    clear hb1
    rw [hok]
    go_wp2_with fail
    refine (in_any _ _ _ _).mono ?_
    rintro e w1 ⟨rfl, rfl⟩
    rw [hin]
    go_wp2_with fail
    refine (specOver _ _ _ X _ x _ (by omega) (HL.out.keep Hb.out)).mono ?_
    rintro e w2 ⟨rfl, hb2⟩
    have Hb2 := Lib.hid (Hb.out.trans (hb2.mono Hb.out.size))
    clear hb2
    rw [hov]
    obtain ⟨q0, q1, q2⟩ := (H.out.keep hb Hb2.out) k hk
    go_wp2_with fail
    go_ret2
    exact ⟨ret_code Hr.out.1.symm Hr.out.2.symm, Hb2.out⟩
theorem specCode (a : Option Addr) (len cap : Nat) (X : Nat → Nat) (k : Int) (x : Nat) (wx : (Lit.float .f32 x).wf = true) (w : World) (hl : len ≤ 1048576) (h : Lst w a len X) :
    Calls Try.prog 23 #[.slice a len cap, .int .i64 k, .float .f32 x] w (CodeOut len X k x w) := by
  cases hc : hasB len X k
  · have hb : codeB len X k x = false := by unfold codeB; rw [hc]; rfl
    refine (specCode_no a len cap X k x w hl h hc).mono ?_
    rintro e w' ⟨rfl, hb'⟩
    exact ⟨ret_code (by unfold codeV; rw [hb]; rfl) hb.symm, hb'⟩
  · obtain ⟨ho, m, rfl, hm⟩ := hasB_at hc
    obtain ⟨b, off, rfl, hlt, hcells⟩ := h.cells (by omega)
    exact specCode_yes b off len cap X m x wx w hm hlt hcells h ho
theorem implCode (a : Option Addr) (len cap : Nat) (X : Nat → Nat) (k : Int) (x : Nat) (wx : (Lit.float .f32 x).wf = true) (w : World) (hl : len ≤ 1048576) (h : Lst w a len X) :
    Calls Try.prog 20 #[.slice a len cap, .int .i64 k, .float .f32 x] w (CodeOut len X k x w) := by
  have H := Lib.hid h
  clear h
  obtain ⟨c, hc⟩ : ∃ c, hasB len X k = c := ⟨_, rfl⟩
  cases c
  · have hb : codeB len X k x = false := by unfold codeB; rw [hc]; rfl
    have Hr := Lib.hid (And.intro (show codeV len X k x = 0 by unfold codeV; rw [hb]; rfl) hb)
    clear hb
    go_enter Try.func20, Try.ntmps20
    go_wp2_with fail
    refine (has_any _ _ _ X _ _ hl H.out).mono ?_
    rintro e w1 ⟨rfl, hb⟩
    have Hb := Lib.hid hb
    clear hb
    rw [hc]
    go_wp2_with fail
    go_ret2
    exact ⟨ret_code Hr.out.1.symm Hr.out.2.symm, Hb.out⟩
  · obtain ⟨ho, m, rfl, hm⟩ := hasB_at hc
    have hb12 := okB_bounds ho
    have hF := full_at ho hm
    obtain ⟨b, off, rfl, hlt, hcells⟩ := H.out.cells (by omega)
    have Hc := Lib.hid hcells
    have hcb : codeB len X (m : Int) x = leA x (X (m * 3)) := by unfold codeB; rw [hc]; rfl
    have hcv : codeV len X (m : Int) x = if leA x (X (m * 3)) = true then codeI x (X (m * 3)) else 0 := by unfold codeV; rw [hcb]; rfl
    clear hcells ho
    cases h1 : leA x (X (m * 3))
    · rw [h1] at hcb hcv
      rw [if_neg Bool.false_ne_true] at hcv
      have Hr := Lib.hid (And.intro hcv hcb)
      clear hcv hcb
      go_enter Try.func20, Try.ntmps20
      go_wp2_with fail
      refine (has_any _ _ _ X _ _ hl H.out).mono ?_
      rintro e w1 ⟨rfl, hb⟩
      obtain ⟨q0, q1, q2⟩ := (Hc.out.keep hlt hb) m hm
      have Hb := Lib.hid hb
      clear hb
      rw [hc]
      go_wp2_with fail
      refine (shows_any _ _ _ x wx _).mono ?_
      rintro e w2 ⟨rfl, hb⟩
      have Hb2 := Lib.hid (Hb.out.trans (hb.mono Hb.out.size))
      clear hb
      rw [h1]
      go_wp2_with fail
      go_ret2
      exact ⟨ret_code Hr.out.1.symm Hr.out.2.symm, Hb2.out⟩
    · rw [h1] at hcb hcv
      rw [if_pos rfl] at hcv
      have h1' := h1
      rw [le_full wx hF] at h1'
      obtain ⟨q, p, n, hn, o1, o2, o3⟩ := ops_code hF (of_decide_eq_true h1')
      rw [← hn] at hcv
      clear hn
      have Hr := Lib.hid (And.intro hcv hcb)
      clear hcv hcb
      clear h1' hF
      go_enter Try.func20, Try.ntmps20
      go_wp2_with fail
      refine (has_any _ _ _ X _ _ hl H.out).mono ?_
      rintro e w1 ⟨rfl, hb⟩
      obtain ⟨q0, q1, q2⟩ := (Hc.out.keep hlt hb) m hm
      have Hb := Lib.hid hb
      clear hb
      rw [hc]
      go_wp2_with fail
      refine (shows_any _ _ _ x wx _).mono ?_
      rintro e w2 ⟨rfl, hb⟩
      have Hb2 := Lib.hid (Hb.out.trans (hb.mono Hb.out.size))
      clear hb
      rw [h1]
      obtain ⟨r0, r1, r2⟩ := (Hc.out.keep hlt Hb2.out) m hm
      go_wp2_with fail
      go_ret2
      exact ⟨ret_code Hr.out.1.symm Hr.out.2.symm, Hb2.out⟩
end Go.Proofs.Ytmnpmbliikalhaa.Rng
