/- The program's pieces of text: within, amounts, numbers. -/
import Derived.Test.YtlngplohnknhjaaGreatDoorKExpPg
import Derived.Test.YtlngplohnknhjaaGreatDoorKSngF
namespace Go.Proofs.YtlngplohnknhjaaGreatDoor.Px
open Go.ChangeShapes Go.WideShapes Go.ChangeAt Go.RowKit Go.Proofs.YtlngplohnknhjaaGreatDoor Go.Proofs.YtlngplohnknhjaaGreatDoor.Flt Go.Proofs.YtlngplohnknhjaaGreatDoor.Ex Go.Proofs.YtlngplohnknhjaaGreatDoor.Cpx Go.Proofs.YtlngplohnknhjaaGreatDoor.Sng
open Ieee (single double)
set_option linter.unusedVariables false
set_option linter.unusedSimpArgs false
theorem tx_app (a b : Tx) : (⟨a.toArray⟩ : ByteArray) ++ ⟨b.toArray⟩ = ⟨(a ++ b).toArray⟩ := by
  apply ByteArray.ext
  apply Array.toList_inj.1
  simp
def wi (s n : Int) (t : Tx) : Tx := if s < n then 40 :: t ++ [41] else t
set_option maxHeartbeats 800000 in
theorem within_any (t : Tx) (s n : Int) (ht : t.length ≤ 100000) (w : World) : Calls Tryz.prog 57 #[.agg #[.string ⟨t.toArray⟩, .int .i64 s], .int .i64 n] w fun e w' =>
    e = .returned (.string ⟨(wi s n t).toArray⟩) ∧ w' = w.alloc (.cells #[.string ⟨t.toArray⟩, .int .i64 s] 47) := by
  have e1 : (⟨#[40]⟩ : ByteArray) ++ ⟨t.toArray⟩ = ⟨(40 :: t).toArray⟩ := tx_app [40] t
  have e2 : (⟨(40 :: t).toArray⟩ : ByteArray) ++ ⟨#[41]⟩ = ⟨(40 :: t ++ [41]).toArray⟩ := tx_app (40 :: t) [41]
  by_cases h : s < n
  · have hw : wi s n t = 40 :: t ++ [41] := if_pos h
    rw [hw]
    clear hw
    have z1 := size_tx t
    have z2 := size_tx (40 :: t)
    rw [List.length_cons] at z2
    obtain ⟨a, ha⟩ : ∃ a, (⟨t.toArray⟩ : ByteArray) = a := ⟨_, rfl⟩
    obtain ⟨b, hb⟩ : ∃ b, (⟨(40 :: t).toArray⟩ : ByteArray) = b := ⟨_, rfl⟩
    obtain ⟨c, hc⟩ : ∃ c, (⟨(40 :: t ++ [41]).toArray⟩ : ByteArray) = c := ⟨_, rfl⟩
    rw [ha] at e1 z1 ⊢
    rw [hb] at e1 e2 z2
    rw [hc] at e2 ⊢
    clear ha hb hc
    go_enter Tryz.func57, Tryz.ntmps57
    go_wp2_with fail
    go_ret
    exact ⟨rfl, rfl⟩
  · have hw : wi s n t = t := if_neg h
    rw [hw]
    clear hw
    go_enter Tryz.func57, Tryz.ntmps57
    go_wp2_with fail
    go_ret
    exact ⟨rfl, rfl⟩
set_option maxHeartbeats 800000 in
theorem amount_any (f : Nat) (hf : f < 2139095040) (w : World) (hT : Door.Tab w) : Calls Tryz.prog 55 #[.float .f64 (widen f)] w fun e w' => e = .returned (.string ⟨(bodyL f).toArray⟩) ∧ Below w.heap.size w w' := by
  obtain ⟨f1, f2, f3⟩ := wid_f hf
  have k1 := fun W => run_nar' f3 W
  have cF := fun W hW => impl_fmt f W (by unfold Lit.wf; simp; omega) hW
  have cT := fun W => Tryz.strings_TrimPrefix (fmtS f) ⟨#[43]⟩ W
  rw [fmtS_data, show (⟨#[43]⟩ : ByteArray).data.toList = [43] from rfl, fmt_body hf rfl, (pre_cons 43 (bodyL f)).2] at cT
  have Ht := Lib.hid hT
  clear hT
  generalize widen f = x at *
  clear f1 f2 f3
  go_enter Tryz.func55, Tryz.ntmps55
  go_wp2_with fail
  refine (cF _ Ht.out).mono ?_
  rintro e w1 ⟨rfl, hb⟩
  have Hb := Lib.hid hb
  clear hb
  go_wp2_with fail
  refine (cT _).mono ?_
  rintro e w2 ⟨rfl, hw⟩
  subst w2
  go_wp2_with fail
  go_ret
  exact ⟨rfl, Hb.out⟩
theorem NV.imz {x y : Nat} (h : NV x y) : (FloatKind.f64.format.order y 0 != some .eq) = decide (y ≠ 0) := by
  by_cases hy : y = 0
  · subst hy; decide
  · rw [decide_eq_true hy]
    obtain ⟨f, hf, ⟨_, h2⟩ | ⟨_, rfl, h0⟩⟩ := h
    · exact absurd h2 hy
    · rw [ne64, eqW_zero double (isNaN_widen f)]
      have hne : rung double (widen f) ≠ 0 := fun e => by
        obtain ⟨h1, h2, h3⟩ := low_sgl hf
        have e1 : sv double (widen f) = 0 := (sv_eq_zero double).2 e
        rw [sv_widen (by rw [h2]; exact hf)] at e1
        rcases Int.mul_eq_zero.1 e1 with e1 | e1
        · have := (sv_eq_zero single).1 e1
          rw [h2] at this
          exact h0 this
        · exact absurd e1 (Int.ne_of_gt (Int.pow_pos (by decide)))
      rw [decide_eq_false hne]; rfl
theorem nr_wid {f : Nat} (hf : f < 2139095040) : nrF (widen f) = f := by unfold nrF; rw [(wid_f hf).2.2]; rfl
theorem body_len {f : Nat} (hf : f < 2139095040) : (bodyL f).length ≤ 20 := by
  have h := (fmt_len (x := f)).2
  rw [fmt_body hf rfl, List.length_cons] at h
  omega
/-- the text of a number -/
noncomputable def numT (x y : Nat) : Tx := if y = 0 then bodyL (nrF x) else bodyL (nrF y) ++ [105]
set_option maxHeartbeats 800000 in
theorem numt_any (x y : Nat) (h : NV x y) (w : World) (hT : Door.Tab w) : Calls Tryz.prog 35 #[.agg #[.complex .f64 x y]] w fun e w' => e = .returned (.string ⟨(numT x y).toArray⟩) ∧ Below w.heap.size w w' := by
  have kim := NV.imz h
  have hb0 : Below w.heap.size w (w.alloc (.cells #[.complex .f64 x y] 72)) := (Below.refl _ _).alloc (Nat.le_refl _) _
  have H0 := Lib.hid hb0
  have HT := Lib.hid (Door.tab_below hT hb0)
  clear hT hb0
  by_cases hy : y = 0
  · rw [decide_eq_false (by simpa using hy)] at kim
    have hn : numT x y = bodyL (nrF x) := if_pos hy
    rw [hn]
    have cA : ∀ W, Door.Tab W → Calls Tryz.prog 55 #[.float .f64 x] W fun e w' => e = .returned (.string ⟨(bodyL (nrF x)).toArray⟩) ∧ Below W.heap.size W w' := by
      intro W hW
      obtain ⟨f, hf, ⟨rfl, _⟩ | ⟨rfl, h2, h0⟩⟩ := h
      · rw [nr_wid hf]; exact amount_any f hf W hW
      · exfalso
        have e := congrArg nrF (h2.symm.trans hy)
        rw [nr_wid hf] at e
        exact h0 (e.trans (by decide))
    obtain ⟨t, ht⟩ : ∃ t, bodyL (nrF x) = t := ⟨_, rfl⟩
    rw [ht] at cA ⊢
    clear ht hn h hy
    go_enter Tryz.func35, Tryz.ntmps35
    go_wp2_with fail
    refine (cA _ HT.out).mono ?_
    rintro e w1 ⟨rfl, hb⟩
    have Hb := Lib.hid (H0.out.trans (hb.mono H0.out.size))
    clear hb
    go_wp2_with fail
    go_ret
    exact ⟨rfl, Hb.out⟩
  · rw [decide_eq_true hy] at kim
    have hn : numT x y = bodyL (nrF y) ++ [105] := if_neg hy
    rw [hn]
    have cA : ∀ W, Door.Tab W → Calls Tryz.prog 55 #[.float .f64 y] W fun e w' => e = .returned (.string ⟨(bodyL (nrF y)).toArray⟩) ∧ Below W.heap.size W w' := by
      intro W hW
      obtain ⟨f, hf, ⟨_, h2⟩ | ⟨_, rfl, _⟩⟩ := h
      · exact absurd h2 hy
      · rw [nr_wid hf]; exact amount_any f hf W hW
    have z1 := size_tx (bodyL (nrF y))
    have z2 : (bodyL (nrF y)).length ≤ 20 := by
      obtain ⟨f, hf, ⟨_, h2⟩ | ⟨_, rfl, _⟩⟩ := h
      · exact absurd h2 hy
      · rw [nr_wid hf]; exact body_len hf
    have e1 : (⟨(bodyL (nrF y)).toArray⟩ : ByteArray) ++ ⟨#[105]⟩ = ⟨(bodyL (nrF y) ++ [105]).toArray⟩ := tx_app _ [105]
    obtain ⟨t, ht⟩ : ∃ t, bodyL (nrF y) = t := ⟨_, rfl⟩
    rw [ht] at cA e1 z1 z2 ⊢
    clear ht hn h hy
    go_enter Tryz.func35, Tryz.ntmps35
    go_wp2_with fail
    refine (cA _ HT.out).mono ?_
    rintro e w1 ⟨rfl, hb⟩
    have Hb := Lib.hid (H0.out.trans (hb.mono H0.out.size))
    clear hb
    go_wp2_with fail
    go_ret
    exact ⟨by rw [← e1]; rfl, Hb.out⟩
end Go.Proofs.YtlngplohnknhjaaGreatDoor.Px
