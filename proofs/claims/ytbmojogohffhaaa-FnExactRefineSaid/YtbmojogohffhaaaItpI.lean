/- Interpolate in the program. -/
import Derived.Test.YtbmojogohffhaaaItpS
import Derived.Test.YtbmojogohffhaaaSegI
namespace Go.Proofs.Ytbmojogohffhaaa.Pnt
open Go.ChangeShapes Go.WideShapes Go.ChangeAt Go.RowKit Go.Proofs.Ytbmojogohffhaaa Go.Proofs.Ytbmojogohffhaaa.Flt Go.Proofs.Ytbmojogohffhaaa.Mth
open Ieee (single double)
set_option linter.unusedVariables false
set_option maxHeartbeats 800000 in
theorem onLine_any (x0 y0 x1 y1 x : Nat) (w : World) (hbt : Betw x0 y0 x1 y1 x) :
    Calls Try.prog 52 #[.agg #[.float .f32 x0, .float .f32 y0], .agg #[.float .f32 x1, .float .f32 y1], .float .f32 x] w fun e w' => e = .returned (.float .f32 (lnV x0 y0 x1 y1 x)) ∧ Below w.heap.size w w' := by
  have HB := Lib.hid (((Below.refl w.heap.size w).alloc (Nat.le_refl _) (.cells #[.float .f32 x0, .float .f32 y0] 32)).alloc (by rw [sz_alloc]; omega) (.cells #[.float .f32 x1, .float .f32 y1] 32))
  obtain ⟨c1, e1⟩ : ∃ c, eqB x x0 = c := ⟨_, rfl⟩
  obtain ⟨c2, e2⟩ : ∃ c, eqB x x1 = c := ⟨_, rfl⟩
  have Hf := Lib.hid (show (if c1 = true then y0 else if c2 = true then y1 else lnR x0 y0 x1 y1 x) = lnV x0 y0 x1 y1 x by unfold lnV; rw [e1, e2])
  have f1 := (eqB_comm x0 x).trans e1
  have f2 := (eqB_comm x1 x).trans e2
  unfold eqB at e1 e2 f1 f2
  rcases (show c1 = true ∨ (c1 = false ∧ c2 = true) ∨ (c1 = false ∧ c2 = false) by cases c1 <;> cases c2 <;> simp) with rfl | ⟨rfl, rfl⟩ | ⟨rfl, rfl⟩
  iterate 2
    · go_enter Try.func52, Try.ntmps52
      go_wp2_with fail
      go_ret
      exact ⟨by rw [← Hf.out]; rfl, HB.out⟩
  · have ks := fun W => run_float_arith (P := Try.prog) W .sub 25 .f32 _ _ _ (sub_fin hbt.fx hbt.fx0)
    have kd := fun W => run_float_arith (P := Try.prog) W .sub 25 .f32 _ _ _ (sub_fin hbt.fx1 hbt.fx0)
    have ky := fun W => run_float_arith (P := Try.prog) W .sub 25 .f32 _ _ _ (sub_fin hbt.fy1 hbt.fy0)
    have kq := fun W => run_float_arith (P := Try.prog) W .quo 25 .f32 _ _ _ hbt.t_some
    have km := fun W => run_float_arith (P := Try.prog) W .mul 25 .f32 _ _ _ hbt.p_some
    have ka := fun W => run_float_arith (P := Try.prog) W .add 25 .f32 _ _ _ hbt.r_some
    have kc := fun r W => conv_self r W
    clear hbt
    go_enter Try.func52, Try.ntmps52
    go_wp2_with fail
    go_ret
    exact ⟨by rw [← Hf.out]; rfl, HB.out⟩
set_option maxRecDepth 100000 in
set_option maxHeartbeats 800000 in
theorem implItp (a : Option Addr) (len cap : Nat) (X : Nat → Nat) (x : Nat) (w : World) (hl : len ≤ 1048576) (h : Lst w a len X) :
    Calls Try.prog 18 #[.slice a len cap, .float .f32 x] w fun e w' => e = .returned (.tuple #[.float .f32 (ipV len X x), .bool (segIn len X x)]) ∧ Below w.heap.size w w' := by
  have H := Lib.hid h
  clear h
  cases hin : segIn len X x
  · have Hs := Lib.hid (show segV len X x = -1 from segV_out hin)
    have Hf := Lib.hid (show 0 = ipV len X x by unfold ipV; rw [if_neg (by rw [hin]; exact Bool.false_ne_true)])
    clear hin
    go_enter Try.func18, Try.ntmps18
    go_wp2_with fail
    refine (implSeg _ _ _ X x _ hl H.out).mono ?_
    rintro e w1 ⟨rfl, hb1⟩
    rw [Hs.out]
    have Hb1 := Lib.hid hb1
    clear hb1
    go_wp2_with fail
    go_ret2
    exact ⟨by rw [← Hf.out]; rfl, Hb1.out⟩
  · have hok := (segIn_ok hin).1
    have hb12 := okP_bounds hok
    have hk := segN_is (X := X) (x := x) hb12.1
    have hbt := seg_betw hin hk
    obtain ⟨b, off, rfl, hlt, hcells⟩ := H.out.cells (by omega)
    have Hc := Lib.hid hcells
    have Hs := Lib.hid (segV_in hin)
    have Hip := Lib.hid (show lnV (X (segN len X x * 2)) (X (segN len X x * 2 + 1)) (X ((segN len X x + 1) * 2)) (X ((segN len X x + 1) * 2 + 1)) x = ipV len X x by unfold ipV; rw [if_pos hin]; rfl)
    obtain ⟨k, hkk⟩ : ∃ k, segN len X x = k := ⟨_, rfl⟩
    rw [hkk] at hk hbt Hs Hip
    have hk1 := hk.1
    clear hcells hin hok hkk hk
    go_enter Try.func18, Try.ntmps18
    go_wp2_with fail
    refine (implSeg _ _ _ X x _ hl H.out).mono ?_
    rintro e w1 ⟨rfl, hb1⟩
    rw [Hs.out]
    have Hb1 := Lib.hid hb1
    have hcc := Hc.out.keep hlt hb1
    have hsz1 : w.heap.size ≤ w1.heap.size := hb1.size
    have hlt1 : b < w1.heap.size := Nat.lt_of_lt_of_le hlt hsz1
    have cn : ∀ n : Old w1, Cells n.x b off len X := fun n => hcc.keep hlt1 n.h
    have a0 := fun n => (cn n k (by omega)).1
    have a1 := fun n => (cn n k (by omega)).2
    have b0 := fun n => (cn n (k + 1) hk1).1
    have b1 := fun n => (cn n (k + 1) hk1).2
    have hcall := Lib.hid (fun n : Old w1 => old_call (n := n) (onLine_any _ _ _ _ x n.x hbt))
    rw [Hip.out] at hcall
    have HO := Lib.hid (show ∀ n : Old w1, Below w.heap.size w n.x from fun n => Hb1.out.trans (n.h.mono hsz1))
    have hk2 : k < len := by omega
    have hw1 : IntKind.i64.wrap ((k : Int) + 1) = ((k + 1 : Nat) : Int) := by rw [IntKind.wrap_i64]; omega
    clear hb1 hcc cn hbt
    have hk0 : ¬ ((k : Int) < 0) := by omega
    go_wp2_with fail
    refine wp_region_old (by kernel_rfl) (by kernel_rfl) ?_
    repeat (go_big_quiet_step ((go_at_call 52; exact hcall.out _)))
    refine wpQuiet_nil ?_
    rintro _ ⟨n, rfl⟩
    go_wp2_with fail
    go_ret2
    exact ⟨rfl, HO.out n⟩
end Go.Proofs.Ytbmojogohffhaaa.Pnt
