/- The program's value of a node, and EvalExpr of valid expressions. -/
import Derived.Test.YtjkjgichneoflaaExpO
import Derived.Test.YtjkjgichneoflaaExpDp
import Derived.Deep.QuietTactic
import Derived.BigQuiet
namespace Go.Proofs.Ytjkjgichneoflaa.Ex
open Go.ChangeMaps Go.ChangeShapes Go.WideShapes Go.ChangeAt Go.RowKit Go.Proofs.Ytjkjgichneoflaa Go.Proofs.Ytjkjgichneoflaa.Flt Go.Proofs.Ytjkjgichneoflaa.Mth Go.Proofs.Ytjkjgichneoflaa.Cpx
set_option linter.unusedVariables false
/-- where the operations and the slots lie -/
structure Ctx (w0 : World) (R M gs cs : Nat) (sl : List (Nat × Nat)) : Prop where
  m : w0.heap[M]? = some (.map (opsMap R) 10)
  mne : M ≠ R
  c : CellsZ w0 gs 0 sl
  gl : gs < w0.heap.size
  gne : gs ≠ R
  wf : ∀ z ∈ sl, z.1 < 18446744073709551616 ∧ z.2 < 18446744073709551616
def sV (gs cs : Nat) (sl : List (Nat × Nat)) : Value := .slice (some ⟨gs, 0, none⟩) sl.length cs
/-- a node's value -/
def VOut (n : Nd) (w0 : World) (R gs cs : Nat) (sl st : List (Nat × Nat)) (e : Ending) (w' : World) : Prop :=
  ∃ x y, (x < 18446744073709551616 ∧ y < 18446744073709551616) ∧ nodeV sl n st = (if (isFinD x && isFinD y) = true then some (x, y) else none) ∧ e = .returned (.complex .f64 x y) ∧ Rk w0 R (sV gs cs sl) (st.drop (ar n.k)) w'
theorem fin_canX {x : Nat} (h : isFinD x = true) : can .f64 x = some x := can_num (fin_nan h)
theorem res_of {o : Option Nat × Option Nat} {x y : Nat} (h1 : can .f64 x = o.1) (h2 : can .f64 y = o.2) : res o = if (isFinD x && isFinD y) = true then some (x, y) else none := by
  unfold res
  rw [← h1, ← h2, finO_can, finO_can]
  split
  · rename_i hq
    rw [Bool.and_eq_true] at hq
    rw [fin_canX hq.1, fin_canX hq.2]; rfl
  · rfl
set_option maxRecDepth 20000 in
set_option maxHeartbeats 1600000 in
theorem val_num (w0 : World) (R M gs cs : Nat) (sl st : List (Nat × Nat)) (x y : Nat) (hn : NV x y) (w : World) (h : Rk w0 R (sV gs cs sl) st w) :
    Calls Try.prog 21 #[.pointer (some ⟨R, 0, none⟩), .agg #[.int .i64 1, .int .i64 0, .complex .f64 x y], .map (some M)] w (VOut ⟨1, 0, x, y⟩ w0 R gs cs sl st) := by
  have cP := fun W => part_num 0 x y W
  unfold numVal at cP
  have t1 := ta_nn
  have H := Lib.hid h
  have Hn := Lib.hid hn.fin
  clear h hn
  go_enter Try.func21, Try.ntmps21
  go_wp2_with fail
  refine (cP _).mono ?_
  rintro e w1 ⟨rfl, rfl⟩
  go_wp2_with fail
  go_ret
  refine ⟨x, y, Hn.out.2, ?_, rfl, ((H.out.alloc _).alloc _).alloc _⟩
  rw [Hn.out.1.1, Hn.out.1.2]; rfl
set_option maxRecDepth 20000 in
set_option maxHeartbeats 1600000 in
theorem val_slot (w0 : World) (R M gs cs : Nat) (sl st : List (Nat × Nat)) (s : Nat) (C : Ctx w0 R M gs cs sl) (w : World) (h : Rk w0 R (sV gs cs sl) st w) :
    Calls Try.prog 21 #[.pointer (some ⟨R, 0, none⟩), .agg #[.int .i64 2, .int .i64 (s : Int), .complex .f64 0 0], .map (some M)] w (VOut ⟨2, (s : Int), 0, 0⟩ w0 R gs cs sl st) := by
  have cP := fun W => part_slot (s : Int) 0 0 W
  unfold slotVal at cP
  have t1 := ta_sn
  have t2 := ta_ss
  have H := Lib.hid h
  obtain ⟨v, hr, _⟩ := h.r
  have hRl := lt_of_block hr
  have hv : nodeV sl ⟨2, (s : Int), 0, 0⟩ st = match sl[s]? with | some z => if (isFinD z.1 && isFinD z.2) = true then some z else none | none => none := rfl
  have c1 : w.cell? ⟨R, 1, none⟩ = some (.slice (some ⟨gs, 0, none⟩) sl.length cs) := by simp [World.cell?, hr]; rfl
  have hRn : ¬ R = w.heap.size := by omega
  have hRn1 : ¬ R = w.heap.size + 1 := by omega
  have hRn2 : ¬ R = w.heap.size + 1 + 1 := by omega
  have c1a := cell_alloc (.cells #[.int .i64 (s : Int)] 70) (cell_alloc (.cells #[.int .i64 2, .int .i64 (s : Int), .complex .f64 0 0] 33) (cell_alloc (.cells #[.int .i64 2, .int .i64 (s : Int), .complex .f64 0 0] 33) c1))
  by_cases hs : s < sl.length
  · obtain ⟨z, hz⟩ : ∃ z, sl[s]? = some z := ⟨_, List.getElem?_eq_getElem hs⟩
    have hzw := C.wf z (List.mem_of_getElem? hz)
    have hcell : w.cell? ⟨gs, s, none⟩ = some (.complex .f64 z.1 z.2) := by
      have := C.c s z hz
      rw [Nat.zero_add] at this
      exact (h.only.cell (p := ⟨gs, s, none⟩) C.gl C.gne).trans this
    rw [hz] at hv
    have Hv := Lib.hid (And.intro hv hzw)
    have hgl : gs < w.heap.size := Nat.lt_of_lt_of_le C.gl h.only.size
    have hil : (s : Int) < (sl.length : Int) := by omega
    have hcella := cell_alloc (.cells #[.int .i64 (s : Int)] 70) (cell_alloc (.cells #[.int .i64 2, .int .i64 (s : Int), .complex .f64 0 0] 33) (cell_alloc (.cells #[.int .i64 2, .int .i64 (s : Int), .complex .f64 0 0] 33) hcell))
    clear h hr hv hzw C hz
    obtain ⟨n, hn⟩ : ∃ n, sl.length = n := ⟨_, rfl⟩
    rw [hn] at c1 c1a hs hil
    go_enter Try.func21, Try.ntmps21
    go_wp2_with fail
    refine (cP _).mono ?_
    rintro e w1 ⟨rfl, rfl⟩
    go_wp2_with fail
    go_quiet (fail)
    go_wp2_with fail
    go_quiet (fail)
    go_wp2_with fail
    go_ret
    refine ⟨z.1, z.2, Hv.out.2, Hv.out.1, rfl, ?_⟩
    exact ((((H.out.alloc _).alloc _).alloc _).drewN _).drewN _
  · have hz : sl[s]? = none := List.getElem?_eq_none (by omega)
    rw [hz] at hv
    have Hv := Lib.hid hv
    have hil : ¬ (s : Int) < (sl.length : Int) := by omega
    clear h hr hv C hz
    obtain ⟨n, hn⟩ : ∃ n, sl.length = n := ⟨_, rfl⟩
    rw [hn] at c1 c1a hs hil
    go_enter Try.func21, Try.ntmps21
    go_wp2_with fail
    refine (cP _).mono ?_
    rintro e w1 ⟨rfl, rfl⟩
    go_wp2_with fail
    go_quiet (fail)
    go_wp2_with fail
    refine (noValue_any _).mono ?_
    rintro e w2 ⟨rfl, rfl⟩
    go_wp2_with fail
    go_ret
    refine ⟨_, _, by decide, by rw [Hv.out]; rfl, rfl, ?_⟩
    exact (((H.out.alloc _).alloc _).alloc _).drewN _
theorem run_enter {P : Program} {f : FuncId} (h : ∃ fn c, P.funcs[f]? = some fn ∧ (fn.name == "runtime.NumGoroutine") = false ∧ fn.body = some c) (args : Array Value) (w : World) : (callFunc f args).run P w = .ok (.enter f args) w := by
  obtain ⟨fn, c, hf, hname, hb⟩ := h
  have h1 : fn.name ≠ "runtime.NumGoroutine" := by simpa using hname
  simp [callFunc, hf, h1, hb]
set_option maxRecDepth 20000 in
set_option maxHeartbeats 3200000 in
theorem val_gen (F : FuncId) (hcf : ∀ args w, (callFunc F args).run Try.prog w = .ok (.enter F args) w) (k : Int) (hk : 3 ≤ k ∧ k ≤ 12) (w0 : World) (R M gs cs : Nat) (sl st st' : List (Nat × Nat)) (a b : Nat × Nat) (w : World)
    (h : Rk w0 R (sV gs cs sl) st w) (hd : st.drop (ar k) = st') (hv : nodeV sl (opN k) st = res (opO k a b))
    (kl : ∀ W : World, W.heap[M]? = some (.map (opsMap R) 10) → (Instr.lookup 49 (.map (some M)) (.int .i64 k) false).run Try.prog W = .ok (.func (.func F) #[.pointer (some ⟨R, 0, none⟩)] #[]) W)
    (hm : w.heap[M]? = some (.map (opsMap R) 10))
    (cA : ∀ W, Rk w0 R (sV gs cs sl) st W → Calls Try.prog F #[.pointer (some ⟨R, 0, none⟩)] W (OpOut k a b w0 R (sV gs cs sl) st')) :
    Calls Try.prog 21 #[.pointer (some ⟨R, 0, none⟩), .agg #[.int .i64 k, .int .i64 0, .complex .f64 0 0], .map (some M)] w (VOut (opN k) w0 R gs cs sl st) := by
  have cP := fun W => part_op k 0 0 0 W hk
  unfold opV at cP
  have t1 := ta_on
  have t2 := ta_os
  have t3 := ta_oo
  have H := Lib.hid h
  have Hd := Lib.hid hd
  have Hv := Lib.hid hv
  unfold OpOut at cA
  have cA' := Lib.hid cA
  have hml := lt_of_block hm
  generalize txt k = tx at *
  generalize stg k = sg at *
  have hb3 : Below w.heap.size w (((w.alloc (.cells #[.int .i64 k, .int .i64 0, .complex .f64 0 0] 33)).alloc (.cells #[.int .i64 k, .int .i64 0, .complex .f64 0 0] 33)).alloc (.cells #[.string tx, .int .i64 sg] 80)) := by go_grown
  have kl' := kl _ ((hb3.block M hml).trans hm)
  have H3 := Lib.hid (h.below hb3)
  clear h hd hv cA hm kl hb3
  go_enter Try.func21, Try.ntmps21
  go_wp2_with fail
  refine (cP _).mono ?_
  rintro e w1 ⟨rfl, rfl⟩
  go_wp2_with fail
  refine (cA'.out _ H3.out).mono ?_
  rintro e w2 ⟨x, y, wf, hc, rfl, h2⟩
  have H2 := Lib.hid h2
  have Hc := Lib.hid (And.intro wf hc)
  clear wf hc h2
  go_wp2_with fail
  go_ret
  refine ⟨x, y, Hc.out.1, ?_, rfl, ?_⟩
  · rw [Hv.out]; exact res_of Hc.out.2.1 Hc.out.2.2
  · show Rk w0 R (sV gs cs sl) (st.drop (ar k)) _
    rw [Hd.out]; exact H2.out
theorem enter_plus (args : Array Value) (w : World) : (callFunc 40 args).run Try.prog w = .ok (.enter 40 args) w := run_enter ⟨_, _, Try.func40, by kernel_rfl, rfl⟩ args w
theorem look_plus (R M : Nat) (W : World) (h : W.heap[M]? = some (.map (opsMap R) 10)) : (Instr.lookup 49 (.map (some M)) (.int .i64 3) false).run Try.prog W = .ok (.func (.func 40) #[.pointer (some ⟨R, 0, none⟩)] #[]) W := run_look (opsMap R) 10 M 0 3 _ W h rfl
theorem enter_minus (args : Array Value) (w : World) : (callFunc 41 args).run Try.prog w = .ok (.enter 41 args) w := run_enter ⟨_, _, Try.func41, by kernel_rfl, rfl⟩ args w
theorem look_minus (R M : Nat) (W : World) (h : W.heap[M]? = some (.map (opsMap R) 10)) : (Instr.lookup 49 (.map (some M)) (.int .i64 4) false).run Try.prog W = .ok (.func (.func 41) #[.pointer (some ⟨R, 0, none⟩)] #[]) W := run_look (opsMap R) 10 M 1 4 _ W h rfl
theorem enter_conjugate (args : Array Value) (w : World) : (callFunc 42 args).run Try.prog w = .ok (.enter 42 args) w := run_enter ⟨_, _, Try.func42, by kernel_rfl, rfl⟩ args w
theorem look_conjugate (R M : Nat) (W : World) (h : W.heap[M]? = some (.map (opsMap R) 10)) : (Instr.lookup 49 (.map (some M)) (.int .i64 5) false).run Try.prog W = .ok (.func (.func 42) #[.pointer (some ⟨R, 0, none⟩)] #[]) W := run_look (opsMap R) 10 M 2 5 _ W h rfl
theorem enter_realPart (args : Array Value) (w : World) : (callFunc 43 args).run Try.prog w = .ok (.enter 43 args) w := run_enter ⟨_, _, Try.func43, by kernel_rfl, rfl⟩ args w
theorem look_realPart (R M : Nat) (W : World) (h : W.heap[M]? = some (.map (opsMap R) 10)) : (Instr.lookup 49 (.map (some M)) (.int .i64 6) false).run Try.prog W = .ok (.func (.func 43) #[.pointer (some ⟨R, 0, none⟩)] #[]) W := run_look (opsMap R) 10 M 3 6 _ W h rfl
theorem enter_imagPart (args : Array Value) (w : World) : (callFunc 44 args).run Try.prog w = .ok (.enter 44 args) w := run_enter ⟨_, _, Try.func44, by kernel_rfl, rfl⟩ args w
theorem look_imagPart (R M : Nat) (W : World) (h : W.heap[M]? = some (.map (opsMap R) 10)) : (Instr.lookup 49 (.map (some M)) (.int .i64 7) false).run Try.prog W = .ok (.func (.func 44) #[.pointer (some ⟨R, 0, none⟩)] #[]) W := run_look (opsMap R) 10 M 4 7 _ W h rfl
theorem enter_sum (args : Array Value) (w : World) : (callFunc 45 args).run Try.prog w = .ok (.enter 45 args) w := run_enter ⟨_, _, Try.func45, by kernel_rfl, rfl⟩ args w
theorem look_sum (R M : Nat) (W : World) (h : W.heap[M]? = some (.map (opsMap R) 10)) : (Instr.lookup 49 (.map (some M)) (.int .i64 8) false).run Try.prog W = .ok (.func (.func 45) #[.pointer (some ⟨R, 0, none⟩)] #[]) W := run_look (opsMap R) 10 M 5 8 _ W h rfl
theorem enter_difference (args : Array Value) (w : World) : (callFunc 46 args).run Try.prog w = .ok (.enter 46 args) w := run_enter ⟨_, _, Try.func46, by kernel_rfl, rfl⟩ args w
theorem look_difference (R M : Nat) (W : World) (h : W.heap[M]? = some (.map (opsMap R) 10)) : (Instr.lookup 49 (.map (some M)) (.int .i64 9) false).run Try.prog W = .ok (.func (.func 46) #[.pointer (some ⟨R, 0, none⟩)] #[]) W := run_look (opsMap R) 10 M 6 9 _ W h rfl
theorem enter_product (args : Array Value) (w : World) : (callFunc 47 args).run Try.prog w = .ok (.enter 47 args) w := run_enter ⟨_, _, Try.func47, by kernel_rfl, rfl⟩ args w
theorem look_product (R M : Nat) (W : World) (h : W.heap[M]? = some (.map (opsMap R) 10)) : (Instr.lookup 49 (.map (some M)) (.int .i64 10) false).run Try.prog W = .ok (.func (.func 47) #[.pointer (some ⟨R, 0, none⟩)] #[]) W := run_look (opsMap R) 10 M 7 10 _ W h rfl
theorem enter_quotient (args : Array Value) (w : World) : (callFunc 48 args).run Try.prog w = .ok (.enter 48 args) w := run_enter ⟨_, _, Try.func48, by kernel_rfl, rfl⟩ args w
theorem look_quotient (R M : Nat) (W : World) (h : W.heap[M]? = some (.map (opsMap R) 10)) : (Instr.lookup 49 (.map (some M)) (.int .i64 11) false).run Try.prog W = .ok (.func (.func 48) #[.pointer (some ⟨R, 0, none⟩)] #[]) W := run_look (opsMap R) 10 M 8 11 _ W h rfl
theorem enter_equality (args : Array Value) (w : World) : (callFunc 49 args).run Try.prog w = .ok (.enter 49 args) w := run_enter ⟨_, _, Try.func49, by kernel_rfl, rfl⟩ args w
theorem look_equality (R M : Nat) (W : World) (h : W.heap[M]? = some (.map (opsMap R) 10)) : (Instr.lookup 49 (.map (some M)) (.int .i64 12) false).run Try.prog W = .ok (.func (.func 49) #[.pointer (some ⟨R, 0, none⟩)] #[]) W := run_look (opsMap R) 10 M 9 12 _ W h rfl
theorem one_of {st : List (Nat × Nat)} (h : 1 ≤ st.length) : ∃ a r, st = a :: r := by
  cases st with
  | nil => simp at h
  | cons a r => exact ⟨a, r, rfl⟩
theorem two_of {st : List (Nat × Nat)} (h : 2 ≤ st.length) : ∃ b a r, st = b :: a :: r := by
  cases st with
  | nil => simp at h
  | cons b r =>
    cases r with
    | nil => simp at h
    | cons a r => exact ⟨b, a, r, rfl⟩
theorem val_op (k : Int) (hk : 3 ≤ k ∧ k ≤ 12) (w0 : World) (R M gs cs : Nat) (sl st : List (Nat × Nat)) (w : World) (h : Rk w0 R (sV gs cs sl) st w) (hm : w.heap[M]? = some (.map (opsMap R) 10)) (hl : ar k ≤ st.length) :
    Calls Try.prog 21 #[.pointer (some ⟨R, 0, none⟩), .agg #[.int .i64 k, .int .i64 0, .complex .f64 0 0], .map (some M)] w (VOut (opN k) w0 R gs cs sl st) := by
  obtain rfl | rfl | rfl | rfl | rfl | rfl | rfl | rfl | rfl | rfl : k = 3 ∨ k = 4 ∨ k = 5 ∨ k = 6 ∨ k = 7 ∨ k = 8 ∨ k = 9 ∨ k = 10 ∨ k = 11 ∨ k = 12 := by omega
  · obtain ⟨a, r, rfl⟩ := one_of hl
    exact val_gen _ enter_plus 3 hk w0 R M gs cs sl (a :: r) r a (0, 0) w h rfl (nodeV_un (by decide) a r) (look_plus R M) hm fun W hW => op_plus w0 R _ a (0, 0) r W hW
  · obtain ⟨a, r, rfl⟩ := one_of hl
    exact val_gen _ enter_minus 4 hk w0 R M gs cs sl (a :: r) r a (0, 0) w h rfl (nodeV_un (by decide) a r) (look_minus R M) hm fun W hW => op_minus w0 R _ a (0, 0) r W hW
  · obtain ⟨a, r, rfl⟩ := one_of hl
    exact val_gen _ enter_conjugate 5 hk w0 R M gs cs sl (a :: r) r a (0, 0) w h rfl (nodeV_un (by decide) a r) (look_conjugate R M) hm fun W hW => op_conjugate w0 R _ a (0, 0) r W hW
  · obtain ⟨a, r, rfl⟩ := one_of hl
    exact val_gen _ enter_realPart 6 hk w0 R M gs cs sl (a :: r) r a (0, 0) w h rfl (nodeV_un (by decide) a r) (look_realPart R M) hm fun W hW => op_realPart w0 R _ a (0, 0) r W hW
  · obtain ⟨a, r, rfl⟩ := one_of hl
    exact val_gen _ enter_imagPart 7 hk w0 R M gs cs sl (a :: r) r a (0, 0) w h rfl (nodeV_un (by decide) a r) (look_imagPart R M) hm fun W hW => op_imagPart w0 R _ a (0, 0) r W hW
  · obtain ⟨b, a, r, rfl⟩ := two_of hl
    exact val_gen _ enter_sum 8 hk w0 R M gs cs sl (b :: a :: r) r a b w h rfl (nodeV_bin (by decide) a b r) (look_sum R M) hm fun W hW => op_sum w0 R _ a b r W hW
  · obtain ⟨b, a, r, rfl⟩ := two_of hl
    exact val_gen _ enter_difference 9 hk w0 R M gs cs sl (b :: a :: r) r a b w h rfl (nodeV_bin (by decide) a b r) (look_difference R M) hm fun W hW => op_difference w0 R _ a b r W hW
  · obtain ⟨b, a, r, rfl⟩ := two_of hl
    exact val_gen _ enter_product 10 hk w0 R M gs cs sl (b :: a :: r) r a b w h rfl (nodeV_bin (by decide) a b r) (look_product R M) hm fun W hW => op_product w0 R _ a b r W hW
  · obtain ⟨b, a, r, rfl⟩ := two_of hl
    exact val_gen _ enter_quotient 11 hk w0 R M gs cs sl (b :: a :: r) r a b w h rfl (nodeV_bin (by decide) a b r) (look_quotient R M) hm fun W hW => op_quotient w0 R _ a b r W hW
  · obtain ⟨b, a, r, rfl⟩ := two_of hl
    exact val_gen _ enter_equality 12 hk w0 R M gs cs sl (b :: a :: r) r a b w h rfl (nodeV_bin (by decide) a b r) (look_equality R M) hm fun W hW => op_equality w0 R _ a b r W hW
/-- valueOf -/
theorem val_any (n : Nd) (hn : n.ok) (w0 : World) (R M gs cs : Nat) (sl st : List (Nat × Nat)) (C : Ctx w0 R M gs cs sl) (w : World) (h : Rk w0 R (sV gs cs sl) st w) (hl : ar n.k ≤ st.length) :
    Calls Try.prog 21 #[.pointer (some ⟨R, 0, none⟩), .agg #[.int .i64 n.k, .int .i64 n.s, .complex .f64 n.x n.y], .map (some M)] w (VOut n w0 R gs cs sl st) := by
  have hm : w.heap[M]? = some (.map (opsMap R) 10) := (h.only.block M (lt_of_block C.m) C.mne).trans C.m
  obtain ⟨k, s, x, y⟩ := n
  rcases hn with hc | hc | hc
  · obtain rfl : k = 1 := hc.1
    obtain rfl : s = 0 := hc.2.1
    exact val_num w0 R M gs cs sl st x y hc.2.2 w h
  · obtain rfl : k = 2 := hc.1
    obtain rfl : x = 0 := hc.2.2.1
    obtain rfl : y = 0 := hc.2.2.2
    obtain ⟨q, rfl⟩ := Int.eq_ofNat_of_zero_le hc.2.1.1
    exact val_slot w0 R M gs cs sl st q C w h
  · obtain rfl : s = 0 := hc.2.1
    obtain rfl : x = 0 := hc.2.2.1
    obtain rfl : y = 0 := hc.2.2.2
    exact val_op k hc.1 w0 R M gs cs sl st w h hm hl
end Go.Proofs.Ytjkjgichneoflaa.Ex
