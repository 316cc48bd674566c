/- CorrectOne in the program. -/
import Derived.Test.YtpemmmnohlimmaaCorT
import Derived.Laws.EntriesVeiled
namespace Go.Proofs.Ytpemmmnohlimmaa.Stp
open Go.ChangeShapes Go.WideShapes Go.ChangeAt Go.RowKit Go.Proofs.Ytpemmmnohlimmaa Go.Proofs.Ytpemmmnohlimmaa.Flt Go.Proofs.Ytpemmmnohlimmaa.Mth Go.Proofs.Ytpemmmnohlimmaa.Cpx Go.Proofs.Ytpemmmnohlimmaa.Trn
set_option linter.unusedVariables false
/-- the table of the corrections -/
def table : Array Value := #[.nilFunc, .func (.func 39) #[] #[], .func (.func 40) #[] #[], .func (.func 41) #[] #[], .func (.func 43) #[] #[], .func (.func 44) #[] #[], .func (.func 45) #[] #[], .func (.func 46) #[] #[]]
set_option maxHeartbeats 800000 in
theorem table_any (w : World) :
    Calls Try.prog 32 #[] w fun e w' => e = .returned (.agg table) ∧ Below w.heap.size w w' := by
  go_enter Try.func32, Try.ntmps32
  go_wp2_with fail
  go_returns
  exact ⟨rfl, by go_grown⟩
theorem entry1 (w : World) : (Instr.index 62 (.agg table) (.int .i64 1)).run Try.prog w = .ok (.func (.func 39) #[] #[]) w := by kernel_rfl
theorem entry2 (w : World) : (Instr.index 62 (.agg table) (.int .i64 2)).run Try.prog w = .ok (.func (.func 40) #[] #[]) w := by kernel_rfl
theorem entry3 (w : World) : (Instr.index 62 (.agg table) (.int .i64 3)).run Try.prog w = .ok (.func (.func 41) #[] #[]) w := by kernel_rfl
theorem entry4 (w : World) : (Instr.index 62 (.agg table) (.int .i64 4)).run Try.prog w = .ok (.func (.func 43) #[] #[]) w := by kernel_rfl
theorem entry5 (w : World) : (Instr.index 62 (.agg table) (.int .i64 5)).run Try.prog w = .ok (.func (.func 44) #[] #[]) w := by kernel_rfl
theorem entry6 (w : World) : (Instr.index 62 (.agg table) (.int .i64 6)).run Try.prog w = .ok (.func (.func 45) #[] #[]) w := by kernel_rfl
theorem entry7 (w : World) : (Instr.index 62 (.agg table) (.int .i64 7)).run Try.prog w = .ok (.func (.func 46) #[] #[]) w := by kernel_rfl
/-- what CorrectOne answers -/
def ansV (o : Option (Nat × Nat)) : Value := match o with | none => .tuple #[.complex .f64 0 0, .bool false] | some z => .tuple #[.complex .f64 z.1 z.2, .bool true]
def OneOut (s : Stp) (x y : Nat) (w : World) (e : Ending) (w' : World) : Prop := e = .returned (ansV (corO s (x, y))) ∧ Below w.heap.size w w'
theorem one_no (s : Stp) (x y : Nat) (w : World) (hx : s.x < 18446744073709551616) (hy : s.y < 18446744073709551616) (h : s.ok = false) :
    Calls Try.prog 20 #[.agg s.c, .complex .f64 x y] w (OneOut s x y w) := by
  have hc : corO s (x, y) = none := by unfold corO; rw [h]; rfl
  unfold OneOut
  rw [hc]
  have cS := fun W => stepOk_any s hx hy W
  rw [h] at cS
  unfold Stp.c at cS ⊢
  clear hc h hx hy
  go_enter Try.func20, Try.ntmps20
  go_wp2_with fail
  refine (cS _).mono ?_
  rintro e w1 ⟨rfl, hb⟩
  have Hb := Lib.hid (show Below w.heap.size w w1 from below_on hb (by go_grown) (by simp))
  clear hb cS
  go_wp2_with fail
  go_ret2
  exact ⟨rfl, Hb.out⟩
theorem one_inf (s : Stp) (x y : Nat) (w : World) (hx : s.x < 18446744073709551616) (hy : s.y < 18446744073709551616) (h : s.ok = true) (lx : x < 18446744073709551616) (ly : y < 18446744073709551616) (hf : (isFinD x && isFinD y) = false) :
    Calls Try.prog 20 #[.agg s.c, .complex .f64 x y] w (OneOut s x y w) := by
  have hc : corO s (x, y) = none := by unfold corO; rw [h, hf]; rfl
  unfold OneOut
  rw [hc]
  have cS := fun W => stepOk_any s hx hy W
  have cF := fun W => finI_any x y W lx ly
  rw [h] at cS
  rw [hf] at cF
  unfold Stp.c at cS ⊢
  clear hc h hx hy hf lx ly
  go_enter Try.func20, Try.ntmps20
  go_wp2_with fail
  refine (cS _).mono ?_
  rintro e w1 ⟨rfl, hb⟩
  have Hb := Lib.hid (show Below w.heap.size w w1 from below_on hb (by go_grown) (by simp))
  clear hb cS
  go_wp2_with fail
  refine (cF _).mono ?_
  rintro e w2 ⟨rfl, rfl⟩
  go_wp2_with fail
  go_ret2
  exact ⟨rfl, Hb.out⟩
theorem one_tab {w w2 w3 : World} {k : Int} {x y : Nat} {q p : Int} (Hb : Below w.heap.size w w2 ∧ w.heap.size < w2.heap.size)
    (c0 : w2.cell? ⟨w.heap.size, 0, none⟩ = some (.int .i64 k)) (c1 : w2.cell? ⟨w.heap.size, 1, none⟩ = some (.complex .f64 x y)) (c2 : w2.cell? ⟨w.heap.size, 2, none⟩ = some (.int .i64 q)) (c3 : w2.cell? ⟨w.heap.size, 3, none⟩ = some (.int .i64 p))
    (hb3 : Below w2.drew.heap.size w2.drew w3) :
    w3.cell? ⟨w.heap.size, 0, none⟩ = some (.int .i64 k) ∧ w3.cell? ⟨w.heap.size, 1, none⟩ = some (.complex .f64 x y) ∧ w3.cell? ⟨w.heap.size, 2, none⟩ = some (.int .i64 q) ∧ w3.cell? ⟨w.heap.size, 3, none⟩ = some (.int .i64 p) ∧ (Below w.heap.size w w3 ∧ w.heap.size ≤ w3.heap.size) := by
  have e : ∀ j, w3.cell? ⟨w.heap.size, j, none⟩ = w2.cell? ⟨w.heap.size, j, none⟩ := fun j => hb3.cell (p := ⟨w.heap.size, j, none⟩) Hb.2
  have hb := (below_drewN Hb.1 1).trans (hb3.mono (Nat.le_of_lt Hb.2))
  exact ⟨(e 0).trans c0, (e 1).trans c1, (e 2).trans c2, (e 3).trans c3, hb, hb.size⟩
theorem cor_of {s : Stp} {x y a b : Nat} (h : s.ok = true) (hf : (isFinD x && isFinD y) = true) (ha : can .f64 a = (stepO s x y).1) (hb : can .f64 b = (stepO s x y).2) : corO s (x, y) = if (isFinD a && isFinD b) = true then some (a, b) else none := by
  unfold corO
  rw [h, show (isFinD (x, y).1 && isFinD (x, y).2) = true from hf, show (stepO s (x, y).1 (x, y).2).1 = can .f64 a from ha.symm, show (stepO s (x, y).1 (x, y).2).2 = can .f64 b from hb.symm, finO_can, finO_can]
  simp only [Bool.true_and, Bool.and_self]
  split
  · rename_i hq
    rw [Bool.and_eq_true] at hq
    rw [fin_can hq.1, fin_can hq.2]; rfl
  · rfl
theorem run_enter {P : Program} {f : FuncId} (h : ∃ fn c, P.funcs[f]? = some fn ∧ (fn.name == "runtime.NumGoroutine") = false ∧ fn.body = some c) (args : Array Value) (w : World) : (callFunc f args).run P w = .ok (.enter f args) w := by
  obtain ⟨fn, c, hf, hname, hb⟩ := h
  have h1 : fn.name ≠ "runtime.NumGoroutine" := by simpa using hname
  simp [callFunc, hf, h1, hb]
set_option maxHeartbeats 8000000 in
theorem one_gen (F : FuncId) (hcf : ∀ args w, (callFunc F args).run Try.prog w = .ok (.enter F args) w) (s : Stp) (x y : Nat) (w : World) (hx : s.x < 18446744073709551616) (hy : s.y < 18446744073709551616) (h : s.ok = true) (lx : x < 18446744073709551616) (ly : y < 18446744073709551616) (hf : (isFinD x && isFinD y) = true) 
    (kt : ∀ w, (Instr.index 62 (.agg table) (.int .i64 s.k)).run Try.prog w = .ok (.func (.func F) #[] #[]) w)
    (cA : ∀ W, Calls Try.prog F #[.agg s.c, .complex .f64 x y] W (ActOut s x y W)) :
    Calls Try.prog 20 #[.agg s.c, .complex .f64 x y] w (OneOut s x y w) := by
  have cS := fun W => stepOk_any s hx hy W
  have cF := fun W => finI_any x y W lx ly
  have Hc := Lib.hid (show ∀ a b, can .f64 a = (stepO s x y).1 ∧ can .f64 b = (stepO s x y).2 → corO s (x, y) = if (isFinD a && isFinD b) = true then some (a, b) else none from fun a b hab => cor_of h hf hab.1 hab.2)
  rw [h] at cS
  rw [hf] at cF
  unfold Stp.c at cS cA ⊢
  unfold ActOut at cA
  unfold OneOut
  clear h hf hx hy lx ly
  go_enter Try.func20, Try.ntmps20
  go_wp2_with fail
  refine (cS _).mono ?_
  rintro e w1 ⟨rfl, hb⟩
  have Hb := Lib.hid (show Below w.heap.size w w1 ∧ w.heap.size < w1.heap.size from ⟨below_on hb (by go_grown) (by simp), by have := hb.size; simp at this; omega⟩)
  obtain ⟨c0, c1, c2, c3⟩ := cells4 _ _ _ _ _ _ _ _ hb
  clear hb cS
  go_wp2_with fail
  refine (cF _).mono ?_
  rintro e w2 ⟨rfl, rfl⟩
  go_wp2_with fail
  go_region_with (first
    | (go_at_call 32; refine (table_any _).mono ?_; rintro e w3 ⟨rfl, hb3⟩; obtain ⟨d0, d1, d2, d3, hbb⟩ := one_tab Hb.out c0 c1 c2 c3 hb3; have Hb3 := Lib.hid hbb; clear hbb; clear hb3)
    | ((with_reducible refine (cA _).mono ?_); rintro e w4 ⟨a, b, wf, hc, rfl, hb4⟩; have Hb4 := Lib.hid (Hb3.out.1.trans (hb4.mono Hb3.out.2)); have Hw := Lib.hid (And.intro wf hc); clear hb4 wf hc))
  all_goals
    have cG := fun W => finI_any a b W Hw.out.1.1 Hw.out.1.2
    have hc := Hc.out a b Hw.out.2
    cases hq : (isFinD a && isFinD b)
    · rw [hq] at cG hc
      have Hc' := Lib.hid hc
      clear hq hc
      go_wp2_with fail
      refine (cG _).mono ?_
      rintro e w5 ⟨rfl, rfl⟩
      go_wp2_with fail
      go_ret2
      exact ⟨by rw [Hc'.out]; rfl, Hb4.out⟩
    · rw [hq] at cG hc
      have Hc' := Lib.hid hc
      clear hq hc
      go_wp2_with fail
      refine (cG _).mono ?_
      rintro e w5 ⟨rfl, rfl⟩
      go_wp2_with fail
      go_ret2
      exact ⟨by rw [Hc'.out]; rfl, Hb4.out⟩
theorem enter1 (args : Array Value) (w : World) : (callFunc 39 args).run Try.prog w = .ok (.enter 39 args) w := run_enter ⟨_, _, Try.func39, by kernel_rfl, rfl⟩ args w
theorem enter2 (args : Array Value) (w : World) : (callFunc 40 args).run Try.prog w = .ok (.enter 40 args) w := run_enter ⟨_, _, Try.func40, by kernel_rfl, rfl⟩ args w
theorem enter3 (args : Array Value) (w : World) : (callFunc 41 args).run Try.prog w = .ok (.enter 41 args) w := run_enter ⟨_, _, Try.func41, by kernel_rfl, rfl⟩ args w
theorem enter4 (args : Array Value) (w : World) : (callFunc 43 args).run Try.prog w = .ok (.enter 43 args) w := run_enter ⟨_, _, Try.func43, by kernel_rfl, rfl⟩ args w
theorem enter5 (args : Array Value) (w : World) : (callFunc 44 args).run Try.prog w = .ok (.enter 44 args) w := run_enter ⟨_, _, Try.func44, by kernel_rfl, rfl⟩ args w
theorem enter6 (args : Array Value) (w : World) : (callFunc 45 args).run Try.prog w = .ok (.enter 45 args) w := run_enter ⟨_, _, Try.func45, by kernel_rfl, rfl⟩ args w
theorem enter7 (args : Array Value) (w : World) : (callFunc 46 args).run Try.prog w = .ok (.enter 46 args) w := run_enter ⟨_, _, Try.func46, by kernel_rfl, rfl⟩ args w
theorem kinds {s : Stp} (h : s.ok = true) : s.k = 1 ∨ s.k = 2 ∨ s.k = 3 ∨ s.k = 4 ∨ s.k = 5 ∨ s.k = 6 ∨ s.k = 7 := by
  unfold Stp.ok at h
  split at h
  · omega
  · split at h
    · omega
    · split at h
      · omega
      · split at h
        · omega
        · cases h
/-- CorrectOne -/
theorem one_any (s : Stp) (x y : Nat) (w : World) (hx : s.x < 18446744073709551616) (hy : s.y < 18446744073709551616) (lx : x < 18446744073709551616) (ly : y < 18446744073709551616) :
    Calls Try.prog 20 #[.agg s.c, .complex .f64 x y] w (OneOut s x y w) := by
  cases h : s.ok
  · exact one_no s x y w hx hy h
  · cases hf : (isFinD x && isFinD y)
    · exact one_inf s x y w hx hy h lx ly hf
    · have hf' := hf
      rw [Bool.and_eq_true] at hf'
      rcases kinds h with hk | hk | hk | hk | hk | hk | hk
      · exact one_gen _ enter1 s x y w hx hy h lx ly hf (by rw [hk]; exact entry1) (fun W => act1 s x y W hk)
      · exact one_gen _ enter2 s x y w hx hy h lx ly hf (by rw [hk]; exact entry2) (fun W => act2 s x y W hk)
      · exact one_gen _ enter3 s x y w hx hy h lx ly hf (by rw [hk]; exact entry3) (fun W => act3 s x y W hk)
      · exact one_gen _ enter4 s x y w hx hy h lx ly hf (by rw [hk]; exact entry4) (fun W => act4 s x y W hk hf'.1 hf'.2 h)
      · exact one_gen _ enter5 s x y w hx hy h lx ly hf (by rw [hk]; exact entry5) (fun W => act5 s x y W hk lx ly)
      · exact one_gen _ enter6 s x y w hx hy h lx ly hf (by rw [hk]; exact entry6) (fun W => act6 s x y W hk lx ly)
      · exact one_gen _ enter7 s x y w hx hy h lx ly hf (by rw [hk]; exact entry7) (fun W => act7 s x y W hk h)
end Go.Proofs.Ytpemmmnohlimmaa.Stp
