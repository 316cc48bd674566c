/- The program's leaveUnless, and the function that recovers: reckoned, at each of its three result types. -/
import Derived.Test.YtlbapogmcnpmeaaFlw
import Derived.Test.YtlbapogmcnpmeaaMathC
import Derived.Test.YtlbapogmcnpmeaaAvgM
import Derived.Defers
import Derived.Recover
import Derived.Handy
namespace Go.Proofs.Ytlbapogmcnpmeaa.Avg
open Go.ChangeShapes Go.WideShapes Go.ChangeAt Go.RowKit Go.Deep Go.Proofs.Ytlbapogmcnpmeaa Go.Proofs.Ytlbapogmcnpmeaa.Flt Go.Proofs.Ytlbapogmcnpmeaa.Mth Go.Proofs.Ytlbapogmcnpmeaa.Sgl
open Ieee (single double)
set_option linter.unusedVariables false
set_option linter.unusedSimpArgs false
theorem run_enter {P : Program} {f : FuncId} (h : ∃ fn c, P.funcs[f]? = some fn ∧ (fn.name == "runtime.NumGoroutine") = false ∧ fn.body = some c) (args : Array Value) (w : World) : (callFunc f args).run P w = .ok (.enter f args) w := by
  obtain ⟨fn, c, h1, h2, h3⟩ := h
  simp only [beq_eq_false_iff_ne, ne_eq] at h2
  simp [callFunc, go_sem, h1, h2, h3]
/-- the panic with which a list leaves -/
def left : List PanicEntry := [{ v := .iface 61 (.agg #[]), recovered := false }]
theorem leave_no (w : World) : Calls Try.prog 55 #[.bool false] w fun e w' => e = .panicked left ∧ w' = w := by
  go_enter Try.func55, Try.ntmps55
  go_wp2
  exact ⟨rfl, rfl, rfl⟩
theorem leave_yes (w : World) : Calls Try.prog 55 #[.bool true] w fun e w' => e = .returned (.tuple #[]) ∧ w' = w := by
  go_enter Try.func55, Try.ntmps55
  go_wp2
  go_end0
  exact ⟨rfl, rfl⟩
theorem catch_left_D (p : Addr) (x : Bool) (w : World) (hc : w.cell? p = some (.bool x)) (hz : w.frozen? p = false) :
    CallsD Try.prog 62 #[.pointer (some p)] (.panicking left) w fun e u' w' =>
      e = .returned (.tuple #[]) ∧ settle u' = .returning ∧ w' = w.setCell p (.bool false) := by
  unfold left
  refine callsD_of_wpS Try.func62 rfl fun c₀ cs hu => ?_
  apply wpS_region
  simp [wpOpsS, go_sem, recoverD, hu, Try.ntmps62, hc, hz, bodyPostS, results, Try.results62, settle]
theorem catch_idle_D (p : Addr) (x : Bool) (w : World) (hc : w.cell? p = some (.bool x)) (hz : w.frozen? p = false) :
    CallsD Try.prog 62 #[.pointer (some p)] .returning w fun e u' w' =>
      e = .returned (.tuple #[]) ∧ settle u' = .returning ∧ w' = w.setCell p (.bool true) := by
  refine callsD_of_wpS Try.func62 rfl fun c₀ cs hu => ?_
  apply wpS_region
  simp [wpOpsS, go_sem, recoverD, hu, Try.ntmps62, hc, hz, bodyPostS, results, Try.results62]
  exact ⟨.returning, by cases c₀; simp_all, rfl⟩
theorem reck_few_D (a : Option Addr) (len cap least : Nat) (f : Value) (w : World) (hl : len ≤ 1048576) (hle : least ≤ 2) (h : len < least ∨ 64 < len) :
    Calls Try.prog 42 #[.slice a len cap, .int .i64 (least : Int), f] w fun e w' => e = .returned (.tuple #[.float .f64 0, .bool false]) ∧ Below w.heap.size w w' := by
  have hmf : ∀ (fn : Fn) (first cap : Array Value) (w : World), (Instr.makeFunc fn first cap).run Try.prog w = .ok (.func fn first cap) w := fun _ _ _ _ => rfl
  have hb := (Below.refl w.heap.size w).alloc (Nat.le_refl _) (.cells #[.bool false] 4)
  have f0 : (w.alloc (.cells #[.bool false] 4)).frozen? ⟨w.heap.size, 0, none⟩ = false := by simp [go_sem]
  have c0 : (w.alloc (.cells #[.bool false] 4)).cell? ⟨w.heap.size, 0, none⟩ = some (.bool false) := by simp [go_sem]
  have Hb := Lib.hid hb
  clear hb
  by_cases h1 : len < least
  · have h1' : ¬ ((least : Int) ≤ (len : Int)) := by omega
    go_enter_defers Try.func42, Try.ntmps42
    go_wp2_with fail
    refine (leave_no _).mono ?_
    rintro e w9 ⟨rfl, hw9⟩; subst w9
    go_wp2_with fail
    refine leaves_cons (f := 62) (args := #[.pointer (some ⟨w.heap.size, 0, none⟩)]) (by simp) (by simp [go_sem]) ?_
    refine (catch_left_D _ false _ c0 f0).mono ?_
    rintro e u' w'' ⟨rfl, hu', rfl⟩
    simp only [hu']
    exact ⟨_, by simp [results, Try.results42, go_sem], rfl, Hb.out.setCell (Nat.le_refl _) _⟩
  · have h1' : (least : Int) ≤ (len : Int) := by omega
    have h2 : decide ((len : Int) ≤ 64) = false := decide_eq_false (by omega)
    go_enter_defers Try.func42, Try.ntmps42
    go_wp2_with fail
    try rw [h2]
    refine (leave_no _).mono ?_
    rintro e w9 ⟨rfl, hw9⟩; subst w9
    go_wp2_with fail
    refine leaves_cons (f := 62) (args := #[.pointer (some ⟨w.heap.size, 0, none⟩)]) (by simp) (by simp [go_sem]) ?_
    refine (catch_left_D _ false _ c0 f0).mono ?_
    rintro e u' w'' ⟨rfl, hu', rfl⟩
    simp only [hu']
    exact ⟨_, by simp [results, Try.results42, go_sem], rfl, Hb.out.setCell (Nat.le_refl _) _⟩
set_option maxHeartbeats 800000 in
theorem reck_bad_D (a : Option Addr) (len cap least : Nat) (f : Value) (X : Nat → Nat) (w : World) (hle : least ≤ len) (h64 : len ≤ 64) (h : LstF w a len X) (hq : goodB len X = false) :
    Calls Try.prog 42 #[.slice a len cap, .int .i64 (least : Int), f] w fun e w' => e = .returned (.tuple #[.float .f64 0, .bool false]) ∧ Below w.heap.size w w' := by
  have hmf : ∀ (fn : Fn) (first cap : Array Value) (w : World), (Instr.makeFunc fn first cap).run Try.prog w = .ok (.func fn first cap) w := fun _ _ _ _ => rfl
  have hb := (Below.refl w.heap.size w).alloc (Nat.le_refl _) (.cells #[.bool false] 4)
  have f0 : (w.alloc (.cells #[.bool false] 4)).frozen? ⟨w.heap.size, 0, none⟩ = false := by simp [go_sem]
  have c0 : (w.alloc (.cells #[.bool false] 4)).cell? ⟨w.heap.size, 0, none⟩ = some (.bool false) := by simp [go_sem]
  have hs0 : w.heap.size < (w.alloc (.cells #[.bool false] 4)).heap.size := by rw [sz_alloc]; omega
  obtain ⟨ww, hW⟩ : ∃ ww, w.alloc (.cells #[.bool false] 4) = ww := ⟨_, rfl⟩
  have Hb := Lib.hid (show Below w.heap.size w ww from hW ▸ hb)
  have Hl := Lib.hid (show LstF ww a len X from h.keep Hb.out)
  have Hs := Lib.hid (show w.heap.size < ww.heap.size from hW ▸ hs0)
  have Hc := Lib.hid (show ∀ n, (ww.drewN n).cell? ⟨w.heap.size, 0, none⟩ = some (.bool false) from fun n => by subst hW; exact c0)
  have Hf := Lib.hid (show ∀ n, (ww.drewN n).frozen? ⟨w.heap.size, 0, none⟩ = false from fun n => by subst hW; exact f0)
  clear hb f0 c0 hs0 h
  have h1' : (least : Int) ≤ (len : Int) := by omega
  have h2 : decide ((len : Int) ≤ 64) = true := decide_eq_true (by omega)
  go_enter_defers Try.func42, Try.ntmps42
  go_wp2_with fail
  try rw [h2]
  refine (leave_yes _).mono ?_
  rintro e w9 ⟨rfl, hw9⟩; subst w9
  clear h2 h1'
  go_wp2_with fail
  go_loopw [23] (fun i wr => ∃ k m : Nat, i = .int .i64 k ∧ k ≤ len ∧ wr = ww.drewN m ∧ Hid (∀ j, j < k → finB (X j) = true))
    (fun i _ => len - (intOf i).toNat)
  case atStart => exact ⟨0, 0, rfl, Nat.zero_le _, rfl, Lib.hid fun j hj => absurd hj (Nat.not_lt_zero _)⟩
  case round =>
    obtain ⟨k, m, rfl, hk, hwr, hall⟩ := hrel
    subst hwr
    by_cases hkl : k < len
    · obtain ⟨b, off, ha, hlt, hc⟩ := LstF.cells Hl.out (by omega)
      subst ha
      have a0 := hc k hkl
      have k1 := fun w => run_widX (P := Try.prog) 30 23 (X k) (by rw [Try.underlying30]; rfl) Try.underlying23 w
      clear hc
      go_wp2_with fail
      refine (fin_any _ _ (widX_wid (X k) _).1).mono ?_
      rintro e w9 ⟨rfl, hw9⟩; subst w9
      rw [isFin_wid (widX_wid (X k) _)]
      cases c5 : finB (X k)
      · go_wp2_with fail
        refine (leave_no _).mono ?_
        rintro e w9 ⟨rfl, hw9⟩; subst w9
        go_wp2_with fail
        refine leaves_cons (f := 62) (args := #[.pointer (some ⟨w.heap.size, 0, none⟩)]) (by simp) (by simp [go_sem]) ?_
        refine (catch_left_D _ false _ (Hc.out _) (Hf.out _)).mono ?_
        rintro e u' w'' ⟨rfl, hu', rfl⟩
        simp only [hu']
        exact ⟨_, by simp [results, Try.results42, go_sem, World.cell?_setCell_same _ _ _ (Hc.out _)], rfl, (below_drewN Hb.out _).setCell (Nat.le_refl _) _⟩
      · have Hc5 := Lib.hid c5
        clear c5 k1
        go_wp2_with fail
        refine (leave_yes _).mono ?_
        rintro e w9 ⟨rfl, hw9⟩; subst w9
        go_wp2_with fail
        go_roundw
        case rel => exact ⟨k + 1, m + ndr (X k), by go_num, by omega, by first | rfl | rw [World.drewN_drewN], Lib.hid fun j hj => by
          by_cases e : j = k
          · rw [e]; exact Hc5.out
          · exact hall.out j (by omega)⟩
        case measure => simp [intOf]; omega
    · obtain rfl : k = len := by omega
      rw [← good_all h64 hall.out] at hq
      cases hq
set_option maxHeartbeats 800000 in
theorem reck_go_D (R : Value → World → Prop) (no : Prop) (g : FuncId) (caps : Array Value) (hcf : ∀ args w, (callFunc g args).run Try.prog w = .ok (.enter g args) w) (a : Option Addr) (len cap least : Nat) (X : Nat → Nat) (w : World) (hle : least ≤ len) (h64 : len ≤ 64) (h : LstF w a len X) (hq : goodB len X = true)
    (hcall : ∀ w1, LstF w1 a len X → Below w.heap.size w w1 → w.heap.size < w1.heap.size → Calls Try.prog g (#[.slice a len cap] ++ caps) w1 fun e wX => Below w1.heap.size w1 wX ∧ ((∃ v, e = .returned v ∧ R v wX) ∨ (e = .panicked left ∧ no))) :
    Calls Try.prog 42 #[.slice a len cap, .int .i64 (least : Int), .func (.func g) #[] caps] w fun e w' => Below w.heap.size w w' ∧
      ((∃ v wX, e = .returned (.tuple #[v, .bool true]) ∧ R v wX ∧ w.heap.size < wX.heap.size ∧ Below w.heap.size w wX ∧ w' = (wX.setCell ⟨w.heap.size, 0, none⟩ (.bool true)).setCell ⟨w.heap.size, 0, none⟩ (.bool true)) ∨
       (e = .returned (.tuple #[.float .f64 0, .bool false]) ∧ no)) := by
  have hmf : ∀ (fn : Fn) (first cap : Array Value) (w : World), (Instr.makeFunc fn first cap).run Try.prog w = .ok (.func fn first cap) w := fun _ _ _ _ => rfl
  have hb := (Below.refl w.heap.size w).alloc (Nat.le_refl _) (.cells #[.bool false] 4)
  have f0 : (w.alloc (.cells #[.bool false] 4)).frozen? ⟨w.heap.size, 0, none⟩ = false := by simp [go_sem]
  have c0 : (w.alloc (.cells #[.bool false] 4)).cell? ⟨w.heap.size, 0, none⟩ = some (.bool false) := by simp [go_sem]
  have hs0 : w.heap.size < (w.alloc (.cells #[.bool false] 4)).heap.size := by rw [sz_alloc]; omega
  obtain ⟨ww, hW⟩ : ∃ ww, w.alloc (.cells #[.bool false] 4) = ww := ⟨_, rfl⟩
  have Hb := Lib.hid (show Below w.heap.size w ww from hW ▸ hb)
  have Hl := Lib.hid (show LstF ww a len X from h.keep Hb.out)
  have Hs := Lib.hid (show w.heap.size < ww.heap.size from hW ▸ hs0)
  have Hc := Lib.hid (show ∀ n, (ww.drewN n).cell? ⟨w.heap.size, 0, none⟩ = some (.bool false) from fun n => by subst hW; exact c0)
  have Hf := Lib.hid (show ∀ n, (ww.drewN n).frozen? ⟨w.heap.size, 0, none⟩ = false from fun n => by subst hW; exact f0)
  clear hb f0 c0 hs0
  have H := Lib.hid h
  clear h
  have h1' : (least : Int) ≤ (len : Int) := by omega
  have h2 : decide ((len : Int) ≤ 64) = true := decide_eq_true (by omega)
  go_enter_defers Try.func42, Try.ntmps42
  go_wp2_with fail
  try rw [h2]
  refine (leave_yes _).mono ?_
  rintro e w9 ⟨rfl, hw9⟩; subst w9
  clear h2 h1'
  go_wp2_with fail
  go_loopw [23] (fun i wr => ∃ k m : Nat, i = .int .i64 k ∧ k ≤ len ∧ wr = ww.drewN m ∧ Hid (∀ j, j < k → finB (X j) = true))
    (fun i _ => len - (intOf i).toNat)
  case atStart => exact ⟨0, 0, rfl, Nat.zero_le _, rfl, Lib.hid fun j hj => absurd hj (Nat.not_lt_zero _)⟩
  case round =>
    obtain ⟨k, m, rfl, hk, hwr, hall⟩ := hrel
    subst hwr
    by_cases hkl : k < len
    · obtain ⟨b, off, ha, hlt, hc⟩ := LstF.cells Hl.out (by omega)
      subst ha
      have a0 := hc k hkl
      have k1 := fun w => run_widX (P := Try.prog) 30 23 (X k) (by rw [Try.underlying30]; rfl) Try.underlying23 w
      clear hc
      go_wp2_with fail
      refine (fin_any _ _ (widX_wid (X k) _).1).mono ?_
      rintro e w9 ⟨rfl, hw9⟩; subst w9
      rw [isFin_wid (widX_wid (X k) _)]
      cases c5 : finB (X k)
      · rw [(good_iff.1 hq).2 k hkl] at c5
        cases c5
      · have Hc5 := Lib.hid c5
        clear c5 k1
        go_wp2_with fail
        refine (leave_yes _).mono ?_
        rintro e w9 ⟨rfl, hw9⟩; subst w9
        go_wp2_with fail
        go_roundw
        case rel => exact ⟨k + 1, m + ndr (X k), by go_num, by omega, by first | rfl | rw [World.drewN_drewN], Lib.hid fun j hj => by
          by_cases e : j = k
          · rw [e]; exact Hc5.out
          · exact hall.out j (by omega)⟩
        case measure => simp [intOf]; omega
    · obtain rfl : k = len := by omega
      have hcr := hcf (#[.slice a k cap] ++ caps)
      have hB1 : Below w.heap.size w (ww.drewN m) := below_drewN Hb.out _
      have hS1 : w.heap.size < (ww.drewN m).heap.size := Hs.out
      have hcl := hcall (ww.drewN m) (H.out.keep hB1) hB1 hS1
      have hc1 := Hc.out m
      have hf1 := Hf.out m
      obtain ⟨w1, hw1⟩ : ∃ w1, ww.drewN m = w1 := ⟨_, rfl⟩
      rw [hw1] at hB1 hS1 hcl hc1 hf1 ⊢
      have Hcl := Lib.hid hcl
      have H1 := Lib.hid (And.intro hB1 (And.intro hS1 (And.intro hc1 hf1)))
      clear hcl hB1 hS1 hc1 hf1 hw1
      go_wp2_with fail
      refine Hcl.out.mono ?_
      rintro e wX ⟨hbX, hr⟩
      have cX : wX.cell? ⟨w.heap.size, 0, none⟩ = some (.bool false) := by rw [hbX.cell H1.out.2.1]; exact H1.out.2.2.1
      have fX : wX.frozen? ⟨w.heap.size, 0, none⟩ = false := by rw [hbX.frozen H1.out.2.1]; exact H1.out.2.2.2
      have BX : Below w.heap.size w wX := H1.out.1.trans (hbX.mono (Nat.le_of_lt H1.out.2.1))
      have SX : w.heap.size < wX.heap.size := Nat.lt_of_lt_of_le H1.out.2.1 hbX.size
      have HX := Lib.hid (And.intro BX SX)
      clear hbX BX SX
      rcases hr with ⟨v, rfl, hv⟩ | ⟨rfl, hno⟩
      · have Hv := Lib.hid hv
        clear hv
        have cY : (wX.setCell ⟨w.heap.size, 0, none⟩ (.bool true)).cell? ⟨w.heap.size, 0, none⟩ = some (.bool true) := World.cell?_setCell_same _ _ _ cX
        have fY : (wX.setCell ⟨w.heap.size, 0, none⟩ (.bool true)).frozen? ⟨w.heap.size, 0, none⟩ = false := (World.frozen?_setCell _ _ _ _).trans fX
        go_wp2_with fail
        refine leaves_cons (f := 62) (args := #[.pointer (some ⟨w.heap.size, 0, none⟩)]) (by simp) (by simp [go_sem]) ?_
        refine (catch_idle_D _ true _ cY fY).mono ?_
        rintro e u' w'' ⟨rfl, hu', rfl⟩
        simp only [hu']
        exact ⟨_, by simp [results, Try.results42, go_sem, World.cell?_setCell_same _ _ _ cY], (HX.out.1.setCell (Nat.le_refl _) _).setCell (Nat.le_refl _) _, .inl ⟨v, wX, rfl, Hv.out, HX.out.2, HX.out.1, rfl⟩⟩
      · go_wp2_with fail
        refine leaves_cons (f := 62) (args := #[.pointer (some ⟨w.heap.size, 0, none⟩)]) (by simp) (by simp [go_sem]) ?_
        refine (catch_left_D _ false _ cX fX).mono ?_
        rintro e u' w'' ⟨rfl, hu', rfl⟩
        simp only [hu']
        exact ⟨_, by simp [results, Try.results42, go_sem, World.cell?_setCell_same _ _ _ cX], HX.out.1.setCell (Nat.le_refl _) _, .inr ⟨rfl, hno⟩⟩
theorem catch_left_F (p : Addr) (x : Bool) (w : World) (hc : w.cell? p = some (.bool x)) (hz : w.frozen? p = false) :
    CallsD Try.prog 63 #[.pointer (some p)] (.panicking left) w fun e u' w' =>
      e = .returned (.tuple #[]) ∧ settle u' = .returning ∧ w' = w.setCell p (.bool false) := by
  unfold left
  refine callsD_of_wpS Try.func63 rfl fun c₀ cs hu => ?_
  apply wpS_region
  simp [wpOpsS, go_sem, recoverD, hu, Try.ntmps63, hc, hz, bodyPostS, results, Try.results63, settle]
theorem catch_idle_F (p : Addr) (x : Bool) (w : World) (hc : w.cell? p = some (.bool x)) (hz : w.frozen? p = false) :
    CallsD Try.prog 63 #[.pointer (some p)] .returning w fun e u' w' =>
      e = .returned (.tuple #[]) ∧ settle u' = .returning ∧ w' = w.setCell p (.bool true) := by
  refine callsD_of_wpS Try.func63 rfl fun c₀ cs hu => ?_
  apply wpS_region
  simp [wpOpsS, go_sem, recoverD, hu, Try.ntmps63, hc, hz, bodyPostS, results, Try.results63]
  exact ⟨.returning, by cases c₀; simp_all, rfl⟩
theorem reck_few_F (a : Option Addr) (len cap least : Nat) (f : Value) (w : World) (hl : len ≤ 1048576) (hle : least ≤ 2) (h : len < least ∨ 64 < len) :
    Calls Try.prog 46 #[.slice a len cap, .int .i64 (least : Int), f] w fun e w' => e = .returned (.tuple #[.float .f32 0, .bool false]) ∧ Below w.heap.size w w' := by
  have hmf : ∀ (fn : Fn) (first cap : Array Value) (w : World), (Instr.makeFunc fn first cap).run Try.prog w = .ok (.func fn first cap) w := fun _ _ _ _ => rfl
  have hb := (Below.refl w.heap.size w).alloc (Nat.le_refl _) (.cells #[.bool false] 4)
  have f0 : (w.alloc (.cells #[.bool false] 4)).frozen? ⟨w.heap.size, 0, none⟩ = false := by simp [go_sem]
  have c0 : (w.alloc (.cells #[.bool false] 4)).cell? ⟨w.heap.size, 0, none⟩ = some (.bool false) := by simp [go_sem]
  have Hb := Lib.hid hb
  clear hb
  by_cases h1 : len < least
  · have h1' : ¬ ((least : Int) ≤ (len : Int)) := by omega
    go_enter_defers Try.func46, Try.ntmps46
    go_wp2_with fail
    refine (leave_no _).mono ?_
    rintro e w9 ⟨rfl, hw9⟩; subst w9
    go_wp2_with fail
    refine leaves_cons (f := 63) (args := #[.pointer (some ⟨w.heap.size, 0, none⟩)]) (by simp) (by simp [go_sem]) ?_
    refine (catch_left_F _ false _ c0 f0).mono ?_
    rintro e u' w'' ⟨rfl, hu', rfl⟩
    simp only [hu']
    exact ⟨_, by simp [results, Try.results46, go_sem], rfl, Hb.out.setCell (Nat.le_refl _) _⟩
  · have h1' : (least : Int) ≤ (len : Int) := by omega
    have h2 : decide ((len : Int) ≤ 64) = false := decide_eq_false (by omega)
    go_enter_defers Try.func46, Try.ntmps46
    go_wp2_with fail
    try rw [h2]
    refine (leave_no _).mono ?_
    rintro e w9 ⟨rfl, hw9⟩; subst w9
    go_wp2_with fail
    refine leaves_cons (f := 63) (args := #[.pointer (some ⟨w.heap.size, 0, none⟩)]) (by simp) (by simp [go_sem]) ?_
    refine (catch_left_F _ false _ c0 f0).mono ?_
    rintro e u' w'' ⟨rfl, hu', rfl⟩
    simp only [hu']
    exact ⟨_, by simp [results, Try.results46, go_sem], rfl, Hb.out.setCell (Nat.le_refl _) _⟩
set_option maxHeartbeats 800000 in
theorem reck_bad_F (a : Option Addr) (len cap least : Nat) (f : Value) (X : Nat → Nat) (w : World) (hle : least ≤ len) (h64 : len ≤ 64) (h : LstF w a len X) (hq : goodB len X = false) :
    Calls Try.prog 46 #[.slice a len cap, .int .i64 (least : Int), f] w fun e w' => e = .returned (.tuple #[.float .f32 0, .bool false]) ∧ Below w.heap.size w w' := by
  have hmf : ∀ (fn : Fn) (first cap : Array Value) (w : World), (Instr.makeFunc fn first cap).run Try.prog w = .ok (.func fn first cap) w := fun _ _ _ _ => rfl
  have hb := (Below.refl w.heap.size w).alloc (Nat.le_refl _) (.cells #[.bool false] 4)
  have f0 : (w.alloc (.cells #[.bool false] 4)).frozen? ⟨w.heap.size, 0, none⟩ = false := by simp [go_sem]
  have c0 : (w.alloc (.cells #[.bool false] 4)).cell? ⟨w.heap.size, 0, none⟩ = some (.bool false) := by simp [go_sem]
  have hs0 : w.heap.size < (w.alloc (.cells #[.bool false] 4)).heap.size := by rw [sz_alloc]; omega
  obtain ⟨ww, hW⟩ : ∃ ww, w.alloc (.cells #[.bool false] 4) = ww := ⟨_, rfl⟩
  have Hb := Lib.hid (show Below w.heap.size w ww from hW ▸ hb)
  have Hl := Lib.hid (show LstF ww a len X from h.keep Hb.out)
  have Hs := Lib.hid (show w.heap.size < ww.heap.size from hW ▸ hs0)
  have Hc := Lib.hid (show ∀ n, (ww.drewN n).cell? ⟨w.heap.size, 0, none⟩ = some (.bool false) from fun n => by subst hW; exact c0)
  have Hf := Lib.hid (show ∀ n, (ww.drewN n).frozen? ⟨w.heap.size, 0, none⟩ = false from fun n => by subst hW; exact f0)
  clear hb f0 c0 hs0 h
  have h1' : (least : Int) ≤ (len : Int) := by omega
  have h2 : decide ((len : Int) ≤ 64) = true := decide_eq_true (by omega)
  go_enter_defers Try.func46, Try.ntmps46
  go_wp2_with fail
  try rw [h2]
  refine (leave_yes _).mono ?_
  rintro e w9 ⟨rfl, hw9⟩; subst w9
  clear h2 h1'
  go_wp2_with fail
  go_loopw [23] (fun i wr => ∃ k m : Nat, i = .int .i64 k ∧ k ≤ len ∧ wr = ww.drewN m ∧ Hid (∀ j, j < k → finB (X j) = true))
    (fun i _ => len - (intOf i).toNat)
  case atStart => exact ⟨0, 0, rfl, Nat.zero_le _, rfl, Lib.hid fun j hj => absurd hj (Nat.not_lt_zero _)⟩
  case round =>
    obtain ⟨k, m, rfl, hk, hwr, hall⟩ := hrel
    subst hwr
    by_cases hkl : k < len
    · obtain ⟨b, off, ha, hlt, hc⟩ := LstF.cells Hl.out (by omega)
      subst ha
      have a0 := hc k hkl
      have k1 := fun w => run_widX (P := Try.prog) 30 23 (X k) (by rw [Try.underlying30]; rfl) Try.underlying23 w
      clear hc
      go_wp2_with fail
      refine (fin_any _ _ (widX_wid (X k) _).1).mono ?_
      rintro e w9 ⟨rfl, hw9⟩; subst w9
      rw [isFin_wid (widX_wid (X k) _)]
      cases c5 : finB (X k)
      · go_wp2_with fail
        refine (leave_no _).mono ?_
        rintro e w9 ⟨rfl, hw9⟩; subst w9
        go_wp2_with fail
        refine leaves_cons (f := 63) (args := #[.pointer (some ⟨w.heap.size, 0, none⟩)]) (by simp) (by simp [go_sem]) ?_
        refine (catch_left_F _ false _ (Hc.out _) (Hf.out _)).mono ?_
        rintro e u' w'' ⟨rfl, hu', rfl⟩
        simp only [hu']
        exact ⟨_, by simp [results, Try.results46, go_sem, World.cell?_setCell_same _ _ _ (Hc.out _)], rfl, (below_drewN Hb.out _).setCell (Nat.le_refl _) _⟩
      · have Hc5 := Lib.hid c5
        clear c5 k1
        go_wp2_with fail
        refine (leave_yes _).mono ?_
        rintro e w9 ⟨rfl, hw9⟩; subst w9
        go_wp2_with fail
        go_roundw
        case rel => exact ⟨k + 1, m + ndr (X k), by go_num, by omega, by first | rfl | rw [World.drewN_drewN], Lib.hid fun j hj => by
          by_cases e : j = k
          · rw [e]; exact Hc5.out
          · exact hall.out j (by omega)⟩
        case measure => simp [intOf]; omega
    · obtain rfl : k = len := by omega
      rw [← good_all h64 hall.out] at hq
      cases hq
set_option maxHeartbeats 800000 in
theorem reck_go_F (R : Value → World → Prop) (no : Prop) (g : FuncId) (caps : Array Value) (hcf : ∀ args w, (callFunc g args).run Try.prog w = .ok (.enter g args) w) (a : Option Addr) (len cap least : Nat) (X : Nat → Nat) (w : World) (hle : least ≤ len) (h64 : len ≤ 64) (h : LstF w a len X) (hq : goodB len X = true)
    (hcall : ∀ w1, LstF w1 a len X → Below w.heap.size w w1 → w.heap.size < w1.heap.size → Calls Try.prog g (#[.slice a len cap] ++ caps) w1 fun e wX => Below w1.heap.size w1 wX ∧ ((∃ v, e = .returned v ∧ R v wX) ∨ (e = .panicked left ∧ no))) :
    Calls Try.prog 46 #[.slice a len cap, .int .i64 (least : Int), .func (.func g) #[] caps] w fun e w' => Below w.heap.size w w' ∧
      ((∃ v wX, e = .returned (.tuple #[v, .bool true]) ∧ R v wX ∧ w.heap.size < wX.heap.size ∧ Below w.heap.size w wX ∧ w' = (wX.setCell ⟨w.heap.size, 0, none⟩ (.bool true)).setCell ⟨w.heap.size, 0, none⟩ (.bool true)) ∨
       (e = .returned (.tuple #[.float .f32 0, .bool false]) ∧ no)) := by
  have hmf : ∀ (fn : Fn) (first cap : Array Value) (w : World), (Instr.makeFunc fn first cap).run Try.prog w = .ok (.func fn first cap) w := fun _ _ _ _ => rfl
  have hb := (Below.refl w.heap.size w).alloc (Nat.le_refl _) (.cells #[.bool false] 4)
  have f0 : (w.alloc (.cells #[.bool false] 4)).frozen? ⟨w.heap.size, 0, none⟩ = false := by simp [go_sem]
  have c0 : (w.alloc (.cells #[.bool false] 4)).cell? ⟨w.heap.size, 0, none⟩ = some (.bool false) := by simp [go_sem]
  have hs0 : w.heap.size < (w.alloc (.cells #[.bool false] 4)).heap.size := by rw [sz_alloc]; omega
  obtain ⟨ww, hW⟩ : ∃ ww, w.alloc (.cells #[.bool false] 4) = ww := ⟨_, rfl⟩
  have Hb := Lib.hid (show Below w.heap.size w ww from hW ▸ hb)
  have Hl := Lib.hid (show LstF ww a len X from h.keep Hb.out)
  have Hs := Lib.hid (show w.heap.size < ww.heap.size from hW ▸ hs0)
  have Hc := Lib.hid (show ∀ n, (ww.drewN n).cell? ⟨w.heap.size, 0, none⟩ = some (.bool false) from fun n => by subst hW; exact c0)
  have Hf := Lib.hid (show ∀ n, (ww.drewN n).frozen? ⟨w.heap.size, 0, none⟩ = false from fun n => by subst hW; exact f0)
  clear hb f0 c0 hs0
  have H := Lib.hid h
  clear h
  have h1' : (least : Int) ≤ (len : Int) := by omega
  have h2 : decide ((len : Int) ≤ 64) = true := decide_eq_true (by omega)
  go_enter_defers Try.func46, Try.ntmps46
  go_wp2_with fail
  try rw [h2]
  refine (leave_yes _).mono ?_
  rintro e w9 ⟨rfl, hw9⟩; subst w9
  clear h2 h1'
  go_wp2_with fail
  go_loopw [23] (fun i wr => ∃ k m : Nat, i = .int .i64 k ∧ k ≤ len ∧ wr = ww.drewN m ∧ Hid (∀ j, j < k → finB (X j) = true))
    (fun i _ => len - (intOf i).toNat)
  case atStart => exact ⟨0, 0, rfl, Nat.zero_le _, rfl, Lib.hid fun j hj => absurd hj (Nat.not_lt_zero _)⟩
  case round =>
    obtain ⟨k, m, rfl, hk, hwr, hall⟩ := hrel
    subst hwr
    by_cases hkl : k < len
    · obtain ⟨b, off, ha, hlt, hc⟩ := LstF.cells Hl.out (by omega)
      subst ha
      have a0 := hc k hkl
      have k1 := fun w => run_widX (P := Try.prog) 30 23 (X k) (by rw [Try.underlying30]; rfl) Try.underlying23 w
      clear hc
      go_wp2_with fail
      refine (fin_any _ _ (widX_wid (X k) _).1).mono ?_
      rintro e w9 ⟨rfl, hw9⟩; subst w9
      rw [isFin_wid (widX_wid (X k) _)]
      cases c5 : finB (X k)
      · rw [(good_iff.1 hq).2 k hkl] at c5
        cases c5
      · have Hc5 := Lib.hid c5
        clear c5 k1
        go_wp2_with fail
        refine (leave_yes _).mono ?_
        rintro e w9 ⟨rfl, hw9⟩; subst w9
        go_wp2_with fail
        go_roundw
        case rel => exact ⟨k + 1, m + ndr (X k), by go_num, by omega, by first | rfl | rw [World.drewN_drewN], Lib.hid fun j hj => by
          by_cases e : j = k
          · rw [e]; exact Hc5.out
          · exact hall.out j (by omega)⟩
        case measure => simp [intOf]; omega
    · obtain rfl : k = len := by omega
      have hcr := hcf (#[.slice a k cap] ++ caps)
      have hB1 : Below w.heap.size w (ww.drewN m) := below_drewN Hb.out _
      have hS1 : w.heap.size < (ww.drewN m).heap.size := Hs.out
      have hcl := hcall (ww.drewN m) (H.out.keep hB1) hB1 hS1
      have hc1 := Hc.out m
      have hf1 := Hf.out m
      obtain ⟨w1, hw1⟩ : ∃ w1, ww.drewN m = w1 := ⟨_, rfl⟩
      rw [hw1] at hB1 hS1 hcl hc1 hf1 ⊢
      have Hcl := Lib.hid hcl
      have H1 := Lib.hid (And.intro hB1 (And.intro hS1 (And.intro hc1 hf1)))
      clear hcl hB1 hS1 hc1 hf1 hw1
      go_wp2_with fail
      refine Hcl.out.mono ?_
      rintro e wX ⟨hbX, hr⟩
      have cX : wX.cell? ⟨w.heap.size, 0, none⟩ = some (.bool false) := by rw [hbX.cell H1.out.2.1]; exact H1.out.2.2.1
      have fX : wX.frozen? ⟨w.heap.size, 0, none⟩ = false := by rw [hbX.frozen H1.out.2.1]; exact H1.out.2.2.2
      have BX : Below w.heap.size w wX := H1.out.1.trans (hbX.mono (Nat.le_of_lt H1.out.2.1))
      have SX : w.heap.size < wX.heap.size := Nat.lt_of_lt_of_le H1.out.2.1 hbX.size
      have HX := Lib.hid (And.intro BX SX)
      clear hbX BX SX
      rcases hr with ⟨v, rfl, hv⟩ | ⟨rfl, hno⟩
      · have Hv := Lib.hid hv
        clear hv
        have cY : (wX.setCell ⟨w.heap.size, 0, none⟩ (.bool true)).cell? ⟨w.heap.size, 0, none⟩ = some (.bool true) := World.cell?_setCell_same _ _ _ cX
        have fY : (wX.setCell ⟨w.heap.size, 0, none⟩ (.bool true)).frozen? ⟨w.heap.size, 0, none⟩ = false := (World.frozen?_setCell _ _ _ _).trans fX
        go_wp2_with fail
        refine leaves_cons (f := 63) (args := #[.pointer (some ⟨w.heap.size, 0, none⟩)]) (by simp) (by simp [go_sem]) ?_
        refine (catch_idle_F _ true _ cY fY).mono ?_
        rintro e u' w'' ⟨rfl, hu', rfl⟩
        simp only [hu']
        exact ⟨_, by simp [results, Try.results46, go_sem, World.cell?_setCell_same _ _ _ cY], (HX.out.1.setCell (Nat.le_refl _) _).setCell (Nat.le_refl _) _, .inl ⟨v, wX, rfl, Hv.out, HX.out.2, HX.out.1, rfl⟩⟩
      · go_wp2_with fail
        refine leaves_cons (f := 63) (args := #[.pointer (some ⟨w.heap.size, 0, none⟩)]) (by simp) (by simp [go_sem]) ?_
        refine (catch_left_F _ false _ cX fX).mono ?_
        rintro e u' w'' ⟨rfl, hu', rfl⟩
        simp only [hu']
        exact ⟨_, by simp [results, Try.results46, go_sem, World.cell?_setCell_same _ _ _ cX], HX.out.1.setCell (Nat.le_refl _) _, .inr ⟨rfl, hno⟩⟩
theorem catch_left_L (p : Addr) (x : Bool) (w : World) (hc : w.cell? p = some (.bool x)) (hz : w.frozen? p = false) :
    CallsD Try.prog 70 #[.pointer (some p)] (.panicking left) w fun e u' w' =>
      e = .returned (.tuple #[]) ∧ settle u' = .returning ∧ w' = w.setCell p (.bool false) := by
  unfold left
  refine callsD_of_wpS Try.func70 rfl fun c₀ cs hu => ?_
  apply wpS_region
  simp [wpOpsS, go_sem, recoverD, hu, Try.ntmps70, hc, hz, bodyPostS, results, Try.results70, settle]
theorem catch_idle_L (p : Addr) (x : Bool) (w : World) (hc : w.cell? p = some (.bool x)) (hz : w.frozen? p = false) :
    CallsD Try.prog 70 #[.pointer (some p)] .returning w fun e u' w' =>
      e = .returned (.tuple #[]) ∧ settle u' = .returning ∧ w' = w.setCell p (.bool true) := by
  refine callsD_of_wpS Try.func70 rfl fun c₀ cs hu => ?_
  apply wpS_region
  simp [wpOpsS, go_sem, recoverD, hu, Try.ntmps70, hc, hz, bodyPostS, results, Try.results70]
  exact ⟨.returning, by cases c₀; simp_all, rfl⟩
theorem reck_few_L (a : Option Addr) (len cap least : Nat) (f : Value) (w : World) (hl : len ≤ 1048576) (hle : least ≤ 2) (h : len < least ∨ 64 < len) :
    Calls Try.prog 53 #[.slice a len cap, .int .i64 (least : Int), f] w fun e w' => e = .returned (.tuple #[.slice none 0 0, .bool false]) ∧ Below w.heap.size w w' := by
  have hmf : ∀ (fn : Fn) (first cap : Array Value) (w : World), (Instr.makeFunc fn first cap).run Try.prog w = .ok (.func fn first cap) w := fun _ _ _ _ => rfl
  have hb := (Below.refl w.heap.size w).alloc (Nat.le_refl _) (.cells #[.bool false] 4)
  have f0 : (w.alloc (.cells #[.bool false] 4)).frozen? ⟨w.heap.size, 0, none⟩ = false := by simp [go_sem]
  have c0 : (w.alloc (.cells #[.bool false] 4)).cell? ⟨w.heap.size, 0, none⟩ = some (.bool false) := by simp [go_sem]
  have Hb := Lib.hid hb
  clear hb
  by_cases h1 : len < least
  · have h1' : ¬ ((least : Int) ≤ (len : Int)) := by omega
    go_enter_defers Try.func53, Try.ntmps53
    go_wp2_with fail
    refine (leave_no _).mono ?_
    rintro e w9 ⟨rfl, hw9⟩; subst w9
    go_wp2_with fail
    refine leaves_cons (f := 70) (args := #[.pointer (some ⟨w.heap.size, 0, none⟩)]) (by simp) (by simp [go_sem]) ?_
    refine (catch_left_L _ false _ c0 f0).mono ?_
    rintro e u' w'' ⟨rfl, hu', rfl⟩
    simp only [hu']
    exact ⟨_, by simp [results, Try.results53, go_sem], rfl, Hb.out.setCell (Nat.le_refl _) _⟩
  · have h1' : (least : Int) ≤ (len : Int) := by omega
    have h2 : decide ((len : Int) ≤ 64) = false := decide_eq_false (by omega)
    go_enter_defers Try.func53, Try.ntmps53
    go_wp2_with fail
    try rw [h2]
    refine (leave_no _).mono ?_
    rintro e w9 ⟨rfl, hw9⟩; subst w9
    go_wp2_with fail
    refine leaves_cons (f := 70) (args := #[.pointer (some ⟨w.heap.size, 0, none⟩)]) (by simp) (by simp [go_sem]) ?_
    refine (catch_left_L _ false _ c0 f0).mono ?_
    rintro e u' w'' ⟨rfl, hu', rfl⟩
    simp only [hu']
    exact ⟨_, by simp [results, Try.results53, go_sem], rfl, Hb.out.setCell (Nat.le_refl _) _⟩
set_option maxHeartbeats 800000 in
theorem reck_bad_L (a : Option Addr) (len cap least : Nat) (f : Value) (X : Nat → Nat) (w : World) (hle : least ≤ len) (h64 : len ≤ 64) (h : LstF w a len X) (hq : goodB len X = false) :
    Calls Try.prog 53 #[.slice a len cap, .int .i64 (least : Int), f] w fun e w' => e = .returned (.tuple #[.slice none 0 0, .bool false]) ∧ Below w.heap.size w w' := by
  have hmf : ∀ (fn : Fn) (first cap : Array Value) (w : World), (Instr.makeFunc fn first cap).run Try.prog w = .ok (.func fn first cap) w := fun _ _ _ _ => rfl
  have hb := (Below.refl w.heap.size w).alloc (Nat.le_refl _) (.cells #[.bool false] 4)
  have f0 : (w.alloc (.cells #[.bool false] 4)).frozen? ⟨w.heap.size, 0, none⟩ = false := by simp [go_sem]
  have c0 : (w.alloc (.cells #[.bool false] 4)).cell? ⟨w.heap.size, 0, none⟩ = some (.bool false) := by simp [go_sem]
  have hs0 : w.heap.size < (w.alloc (.cells #[.bool false] 4)).heap.size := by rw [sz_alloc]; omega
  obtain ⟨ww, hW⟩ : ∃ ww, w.alloc (.cells #[.bool false] 4) = ww := ⟨_, rfl⟩
  have Hb := Lib.hid (show Below w.heap.size w ww from hW ▸ hb)
  have Hl := Lib.hid (show LstF ww a len X from h.keep Hb.out)
  have Hs := Lib.hid (show w.heap.size < ww.heap.size from hW ▸ hs0)
  have Hc := Lib.hid (show ∀ n, (ww.drewN n).cell? ⟨w.heap.size, 0, none⟩ = some (.bool false) from fun n => by subst hW; exact c0)
  have Hf := Lib.hid (show ∀ n, (ww.drewN n).frozen? ⟨w.heap.size, 0, none⟩ = false from fun n => by subst hW; exact f0)
  clear hb f0 c0 hs0 h
  have h1' : (least : Int) ≤ (len : Int) := by omega
  have h2 : decide ((len : Int) ≤ 64) = true := decide_eq_true (by omega)
  go_enter_defers Try.func53, Try.ntmps53
  go_wp2_with fail
  try rw [h2]
  refine (leave_yes _).mono ?_
  rintro e w9 ⟨rfl, hw9⟩; subst w9
  clear h2 h1'
  go_wp2_with fail
  go_loopw [23] (fun i wr => ∃ k m : Nat, i = .int .i64 k ∧ k ≤ len ∧ wr = ww.drewN m ∧ Hid (∀ j, j < k → finB (X j) = true))
    (fun i _ => len - (intOf i).toNat)
  case atStart => exact ⟨0, 0, rfl, Nat.zero_le _, rfl, Lib.hid fun j hj => absurd hj (Nat.not_lt_zero _)⟩
  case round =>
    obtain ⟨k, m, rfl, hk, hwr, hall⟩ := hrel
    subst hwr
    by_cases hkl : k < len
    · obtain ⟨b, off, ha, hlt, hc⟩ := LstF.cells Hl.out (by omega)
      subst ha
      have a0 := hc k hkl
      have k1 := fun w => run_widX (P := Try.prog) 30 23 (X k) (by rw [Try.underlying30]; rfl) Try.underlying23 w
      clear hc
      go_wp2_with fail
      refine (fin_any _ _ (widX_wid (X k) _).1).mono ?_
      rintro e w9 ⟨rfl, hw9⟩; subst w9
      rw [isFin_wid (widX_wid (X k) _)]
      cases c5 : finB (X k)
      · go_wp2_with fail
        refine (leave_no _).mono ?_
        rintro e w9 ⟨rfl, hw9⟩; subst w9
        go_wp2_with fail
        refine leaves_cons (f := 70) (args := #[.pointer (some ⟨w.heap.size, 0, none⟩)]) (by simp) (by simp [go_sem]) ?_
        refine (catch_left_L _ false _ (Hc.out _) (Hf.out _)).mono ?_
        rintro e u' w'' ⟨rfl, hu', rfl⟩
        simp only [hu']
        exact ⟨_, by simp [results, Try.results53, go_sem, World.cell?_setCell_same _ _ _ (Hc.out _)], rfl, (below_drewN Hb.out _).setCell (Nat.le_refl _) _⟩
      · have Hc5 := Lib.hid c5
        clear c5 k1
        go_wp2_with fail
        refine (leave_yes _).mono ?_
        rintro e w9 ⟨rfl, hw9⟩; subst w9
        go_wp2_with fail
        go_roundw
        case rel => exact ⟨k + 1, m + ndr (X k), by go_num, by omega, by first | rfl | rw [World.drewN_drewN], Lib.hid fun j hj => by
          by_cases e : j = k
          · rw [e]; exact Hc5.out
          · exact hall.out j (by omega)⟩
        case measure => simp [intOf]; omega
    · obtain rfl : k = len := by omega
      rw [← good_all h64 hall.out] at hq
      cases hq
set_option maxHeartbeats 800000 in
theorem reck_go_L (R : Value → World → Prop) (no : Prop) (g : FuncId) (caps : Array Value) (hcf : ∀ args w, (callFunc g args).run Try.prog w = .ok (.enter g args) w) (a : Option Addr) (len cap least : Nat) (X : Nat → Nat) (w : World) (hle : least ≤ len) (h64 : len ≤ 64) (h : LstF w a len X) (hq : goodB len X = true)
    (hcall : ∀ w1, LstF w1 a len X → Below w.heap.size w w1 → w.heap.size < w1.heap.size → Calls Try.prog g (#[.slice a len cap] ++ caps) w1 fun e wX => Below w1.heap.size w1 wX ∧ ((∃ v, e = .returned v ∧ R v wX) ∨ (e = .panicked left ∧ no))) :
    Calls Try.prog 53 #[.slice a len cap, .int .i64 (least : Int), .func (.func g) #[] caps] w fun e w' => Below w.heap.size w w' ∧
      ((∃ v wX, e = .returned (.tuple #[v, .bool true]) ∧ R v wX ∧ w.heap.size < wX.heap.size ∧ Below w.heap.size w wX ∧ w' = (wX.setCell ⟨w.heap.size, 0, none⟩ (.bool true)).setCell ⟨w.heap.size, 0, none⟩ (.bool true)) ∨
       (e = .returned (.tuple #[.slice none 0 0, .bool false]) ∧ no)) := by
  have hmf : ∀ (fn : Fn) (first cap : Array Value) (w : World), (Instr.makeFunc fn first cap).run Try.prog w = .ok (.func fn first cap) w := fun _ _ _ _ => rfl
  have hb := (Below.refl w.heap.size w).alloc (Nat.le_refl _) (.cells #[.bool false] 4)
  have f0 : (w.alloc (.cells #[.bool false] 4)).frozen? ⟨w.heap.size, 0, none⟩ = false := by simp [go_sem]
  have c0 : (w.alloc (.cells #[.bool false] 4)).cell? ⟨w.heap.size, 0, none⟩ = some (.bool false) := by simp [go_sem]
  have hs0 : w.heap.size < (w.alloc (.cells #[.bool false] 4)).heap.size := by rw [sz_alloc]; omega
  obtain ⟨ww, hW⟩ : ∃ ww, w.alloc (.cells #[.bool false] 4) = ww := ⟨_, rfl⟩
  have Hb := Lib.hid (show Below w.heap.size w ww from hW ▸ hb)
  have Hl := Lib.hid (show LstF ww a len X from h.keep Hb.out)
  have Hs := Lib.hid (show w.heap.size < ww.heap.size from hW ▸ hs0)
  have Hc := Lib.hid (show ∀ n, (ww.drewN n).cell? ⟨w.heap.size, 0, none⟩ = some (.bool false) from fun n => by subst hW; exact c0)
  have Hf := Lib.hid (show ∀ n, (ww.drewN n).frozen? ⟨w.heap.size, 0, none⟩ = false from fun n => by subst hW; exact f0)
  clear hb f0 c0 hs0
  have H := Lib.hid h
  clear h
  have h1' : (least : Int) ≤ (len : Int) := by omega
  have h2 : decide ((len : Int) ≤ 64) = true := decide_eq_true (by omega)
  go_enter_defers Try.func53, Try.ntmps53
  go_wp2_with fail
  try rw [h2]
  refine (leave_yes _).mono ?_
  rintro e w9 ⟨rfl, hw9⟩; subst w9
  clear h2 h1'
  go_wp2_with fail
  go_loopw [23] (fun i wr => ∃ k m : Nat, i = .int .i64 k ∧ k ≤ len ∧ wr = ww.drewN m ∧ Hid (∀ j, j < k → finB (X j) = true))
    (fun i _ => len - (intOf i).toNat)
  case atStart => exact ⟨0, 0, rfl, Nat.zero_le _, rfl, Lib.hid fun j hj => absurd hj (Nat.not_lt_zero _)⟩
  case round =>
    obtain ⟨k, m, rfl, hk, hwr, hall⟩ := hrel
    subst hwr
    by_cases hkl : k < len
    · obtain ⟨b, off, ha, hlt, hc⟩ := LstF.cells Hl.out (by omega)
      subst ha
      have a0 := hc k hkl
      have k1 := fun w => run_widX (P := Try.prog) 30 23 (X k) (by rw [Try.underlying30]; rfl) Try.underlying23 w
      clear hc
      go_wp2_with fail
      refine (fin_any _ _ (widX_wid (X k) _).1).mono ?_
      rintro e w9 ⟨rfl, hw9⟩; subst w9
      rw [isFin_wid (widX_wid (X k) _)]
      cases c5 : finB (X k)
      · rw [(good_iff.1 hq).2 k hkl] at c5
        cases c5
      · have Hc5 := Lib.hid c5
        clear c5 k1
        go_wp2_with fail
        refine (leave_yes _).mono ?_
        rintro e w9 ⟨rfl, hw9⟩; subst w9
        go_wp2_with fail
        go_roundw
        case rel => exact ⟨k + 1, m + ndr (X k), by go_num, by omega, by first | rfl | rw [World.drewN_drewN], Lib.hid fun j hj => by
          by_cases e : j = k
          · rw [e]; exact Hc5.out
          · exact hall.out j (by omega)⟩
        case measure => simp [intOf]; omega
    · obtain rfl : k = len := by omega
      have hcr := hcf (#[.slice a k cap] ++ caps)
      have hB1 : Below w.heap.size w (ww.drewN m) := below_drewN Hb.out _
      have hS1 : w.heap.size < (ww.drewN m).heap.size := Hs.out
      have hcl := hcall (ww.drewN m) (H.out.keep hB1) hB1 hS1
      have hc1 := Hc.out m
      have hf1 := Hf.out m
      obtain ⟨w1, hw1⟩ : ∃ w1, ww.drewN m = w1 := ⟨_, rfl⟩
      rw [hw1] at hB1 hS1 hcl hc1 hf1 ⊢
      have Hcl := Lib.hid hcl
      have H1 := Lib.hid (And.intro hB1 (And.intro hS1 (And.intro hc1 hf1)))
      clear hcl hB1 hS1 hc1 hf1 hw1
      go_wp2_with fail
      refine Hcl.out.mono ?_
      rintro e wX ⟨hbX, hr⟩
      have cX : wX.cell? ⟨w.heap.size, 0, none⟩ = some (.bool false) := by rw [hbX.cell H1.out.2.1]; exact H1.out.2.2.1
      have fX : wX.frozen? ⟨w.heap.size, 0, none⟩ = false := by rw [hbX.frozen H1.out.2.1]; exact H1.out.2.2.2
      have BX : Below w.heap.size w wX := H1.out.1.trans (hbX.mono (Nat.le_of_lt H1.out.2.1))
      have SX : w.heap.size < wX.heap.size := Nat.lt_of_lt_of_le H1.out.2.1 hbX.size
      have HX := Lib.hid (And.intro BX SX)
      clear hbX BX SX
      rcases hr with ⟨v, rfl, hv⟩ | ⟨rfl, hno⟩
      · have Hv := Lib.hid hv
        clear hv
        have cY : (wX.setCell ⟨w.heap.size, 0, none⟩ (.bool true)).cell? ⟨w.heap.size, 0, none⟩ = some (.bool true) := World.cell?_setCell_same _ _ _ cX
        have fY : (wX.setCell ⟨w.heap.size, 0, none⟩ (.bool true)).frozen? ⟨w.heap.size, 0, none⟩ = false := (World.frozen?_setCell _ _ _ _).trans fX
        go_wp2_with fail
        refine leaves_cons (f := 70) (args := #[.pointer (some ⟨w.heap.size, 0, none⟩)]) (by simp) (by simp [go_sem]) ?_
        refine (catch_idle_L _ true _ cY fY).mono ?_
        rintro e u' w'' ⟨rfl, hu', rfl⟩
        simp only [hu']
        exact ⟨_, by simp [results, Try.results53, go_sem, World.cell?_setCell_same _ _ _ cY], (HX.out.1.setCell (Nat.le_refl _) _).setCell (Nat.le_refl _) _, .inl ⟨v, wX, rfl, Hv.out, HX.out.2, HX.out.1, rfl⟩⟩
      · go_wp2_with fail
        refine leaves_cons (f := 70) (args := #[.pointer (some ⟨w.heap.size, 0, none⟩)]) (by simp) (by simp [go_sem]) ?_
        refine (catch_left_L _ false _ cX fX).mono ?_
        rintro e u' w'' ⟨rfl, hu', rfl⟩
        simp only [hu']
        exact ⟨_, by simp [results, Try.results53, go_sem, World.cell?_setCell_same _ _ _ cX], HX.out.1.setCell (Nat.le_refl _) _, .inr ⟨rfl, hno⟩⟩
end Go.Proofs.Ytlbapogmcnpmeaa.Avg
