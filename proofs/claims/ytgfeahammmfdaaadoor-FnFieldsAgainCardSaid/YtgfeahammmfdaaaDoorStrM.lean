/- The laws' helpers on lists of texts: markStringS, heldStringS. -/
import Derived.Test.YtgfeahammmfdaaaDoorStrL
namespace Go.Proofs.YtgfeahammmfdaaaDoor.Fld
open Go.ChangeShapes Go.WideShapes Go.ChangeAt Go.RowKit Go.Proofs.YtgfeahammmfdaaaDoor
set_option linter.unusedVariables false
def marks (n : Nat) : List ByteArray := (List.range n).map fun j => mk (j + 1)
theorem marks_len (n : Nat) : (marks n).length = n := by simp [marks]
theorem marks_of {xs : List ByteArray} {n : Nat} (hl : xs.length = n) (h : ∀ j (hj : j < xs.length), xs[j] = mk (j + 1)) : xs = marks n := by
  apply List.ext_getElem
  · rw [hl, marks_len]
  · intro j h1 h2
    rw [h j h1]
    simp [marks]
set_option maxRecDepth 20000 in
set_option maxHeartbeats 800000 in
theorem markS_any {base : Nat} {v : Value} {xs : List ByteArray} (w : World) (hb : base ≤ w.heap.size) (h1 : Own base w v xs) (hn : xs.length ≤ 1000) :
    Calls Tryd.prog 24 #[v, .int .i64 1] w fun e w' => e = .returned (.int .i64 ((xs.length + 1 : Nat) : Int)) ∧ Own base w' v (marks xs.length) ∧ Below base w w' := by
  rcases own_cases h1 with ⟨rfl, rfl⟩ | ⟨g, cap, rfl, hbg, hg, hc⟩
  · have Hm := Lib.hid (show Own base w (.slice none 0 0) (marks 0) from h1)
    clear h1
    go_enter Tryd.func24, Tryd.ntmps24
    go_wp2_with fail
    go_rounds 1
    go_ret
    exact ⟨rfl, Hm.out, Below.refl _ _⟩
  · obtain ⟨n, hnn⟩ : ∃ n, n = xs.length := ⟨_, rfl⟩
    have H1 := Lib.hid (show Own base w (.slice (some ⟨g, 0, none⟩) n cap) xs by rw [hnn]; exact h1)
    rw [← hnn] at hn ⊢
    have Hn := Lib.hid hnn
    clear hc hnn h1
    go_enter Tryd.func24, Tryd.ntmps24
    go_wp2_with fail
    go_loopw [1, 5] (fun kv iv wr => ∃ (i k : Nat) (ys : List ByteArray), i ≤ n ∧ k = i + 1 ∧ Hid (ys.length = n) ∧ Hid (∀ j (hj : j < ys.length), j < i → ys[j] = mk (j + 1)) ∧ kv = .int .i64 (k : Int) ∧ iv = .int .i64 (i : Int) ∧ Own base wr (.slice (some ⟨g, 0, none⟩) n cap) ys ∧ Below base w wr) (fun _ iv _ => n - (intOf iv).toNat)
    case atStart => exact ⟨0, 1, xs, Nat.zero_le _, rfl, Hn.out.symm, (fun j hj hji => absurd hji (Nat.not_lt_zero j)), rfl, rfl, H1.out, Below.refl _ _⟩
    case round =>
      obtain ⟨i, k, ys, hi, hki, hys, hmk, rfl, rfl, hown, hbel⟩ := hrel
      have Hk := Lib.hid hki
      by_cases hin : i < n
      · have hin' : (i : Int) < n := by omega
        have k1 : 0 < k := by omega
        have k2 : k ≤ 1000 := by omega
        have c1 := fun w => markText_any k w k1 (by omega)
        have Hr := Lib.hid (And.intro hown hbel)
        clear hown hbel hki
        go_wp2_with fail
        refine (c1 _).mono ?_
        rintro e w2 ⟨rfl, hb2⟩
        have hown2 := own_keep Hr.out.1 hb2
        unfold Own at hown2
        rw [hys.out] at hown2
        have hfz := hown2.frozenAt i
        have hst := hown2.stored i (.string (mk k))
        have hlt := hown2.lt g rfl
        have hcl : w2.cell? ⟨g, i, none⟩ = some (.string (ys.getD i ⟨#[]⟩)) := by
          rw [hown2.cellAt i (by omega)]
          unfold strV
          rw [List.getElem?_map, List.getElem?_eq_getElem (show i < ys.length by rw [hys.out]; exact hin), List.getD_eq_getElem?_getD, List.getElem?_eq_getElem (show i < ys.length by rw [hys.out]; exact hin)]
          rfl
        obtain ⟨y0, hy0⟩ : ∃ y0, y0 = ys.getD i ⟨#[]⟩ := ⟨_, rfl⟩
        rw [← hy0] at hcl
        have H3 := Lib.hid (show Own base (w2.setCell ⟨g, i, none⟩ (.string (mk k))) (.slice (some ⟨g, 0, none⟩) n cap) (ys.set i (mk k)) ∧ Below base w (w2.setCell ⟨g, i, none⟩ (.string (mk k))) from ⟨by
          have := hst.1
          unfold Own
          rw [List.length_set, hys.out]
          unfold strV at this ⊢
          rw [List.map_set]
          exact this, (Hr.out.2.trans (hb2.mono (Nat.le_trans hb Hr.out.2.size))).setCell hlt.1 _⟩)
        have Hy := Lib.hid (show (ys.set i (mk k)).length = n ∧ ∀ j (hj : j < (ys.set i (mk k)).length), j < i + 1 → (ys.set i (mk k))[j] = mk (j + 1) from ⟨by rw [List.length_set]; exact hys.out, fun j hj hji => by
          rw [List.getElem_set]
          by_cases e : i = j
          · rw [if_pos e, ← e, Hk.out]
          · rw [if_neg e]
            exact hmk.out j (by rw [List.length_set] at hj; exact hj) (by omega)⟩)
        obtain ⟨t, ht⟩ : ∃ t, t = mk k := ⟨_, rfl⟩
        rw [← ht] at H3 Hy ⊢
        clear hb2 hown2 hst hlt hy0 ht
        go_wp2_with fail
        go_roundw
        case rel => exact ⟨i + 1, k + 1, ys.set i t, hin, by rw [Hk.out], Hy.out.1, Hy.out.2, by go_num, by go_num, H3.out.1, H3.out.2⟩
        case measure => simp [intOf]; omega
      · have hin' : ¬ (i : Int) < n := by omega
        have hie : i = n := by omega
        have Hm := Lib.hid (show Own base wr (.slice (some ⟨g, 0, none⟩) n cap) (marks n) ∧ (k : Int) = ((n + 1 : Nat) : Int) from ⟨by
          rw [← marks_of hys.out (fun j hj => hmk.out j hj (by rw [hys.out] at hj; omega))]
          exact hown, by omega⟩)
        have Hb := Lib.hid hbel
        clear hown hbel hie hki
        go_wp2_with fail
        go_ret
        exact ⟨ret_int Hm.out.2, Hm.out.1, Hb.out⟩
set_option maxRecDepth 20000 in
set_option maxHeartbeats 800000 in
theorem heldS_any {base n : Nat} {v : Value} (w : World) (h1 : Own base w v (marks n)) (hn : n ≤ 1000) :
    Calls Tryd.prog 25 #[v, .int .i64 1] w fun e w' => e = .returned (.int .i64 ((n + 1 : Nat) : Int)) ∧ Below w.heap.size w w' := by
  rcases own_cases h1 with ⟨rfl, hx⟩ | ⟨g, cap, rfl, hbg, hg, hc⟩
  · have hn0 : n = 0 := by have := congrArg List.length hx; rw [marks_len] at this; exact this
    subst hn0
    clear h1 hx
    go_enter Tryd.func25, Tryd.ntmps25
    go_wp2_with fail
    go_rounds 1
    go_ret
    exact ⟨rfl, Below.refl _ _⟩
  · rw [marks_len]
    have Hc := Lib.hid (show ∀ i, i < n → w.cell? ⟨g, i, none⟩ = some (.string (mk (i + 1))) from fun i hi => by
      rw [hc i (by rw [marks_len]; exact hi)]
      congr 2
      simp [marks])
    clear hc h1
    go_enter Tryd.func25, Tryd.ntmps25
    go_wp2_with fail
    go_loopw [1, 5] (fun kv iv wr => ∃ (i k : Nat), i ≤ n ∧ k = i + 1 ∧ kv = .int .i64 (k : Int) ∧ iv = .int .i64 (i : Int) ∧ Below w.heap.size w wr) (fun _ iv _ => n - (intOf iv).toNat)
    case atStart => exact ⟨0, 1, Nat.zero_le _, rfl, rfl, rfl, Below.refl _ _⟩
    case round =>
      obtain ⟨i, k, hi, hki, rfl, rfl, hbel⟩ := hrel
      have Hk := Lib.hid hki
      by_cases hin : i < n
      · have hin' : (i : Int) < n := by omega
        have i1 : (0 : Int) ≤ i := by omega
        have k1 : 0 < k := by omega
        have k2 : k ≤ 1001 := by omega
        have c1 := fun w => markText_any k w k1 (by omega)
        have hcell := Hc.out i hin
        rw [← Hk.out] at hcell
        have hq := fun m : Old wr => (m.h.cell (p := ⟨g, i, none⟩) (Nat.lt_of_lt_of_le hg hbel.size)).trans ((hbel.cell (p := ⟨g, i, none⟩) hg).trans hcell)
        have Hr := Lib.hid hbel
        generalize mk k = t at c1 hq
        have e1 : (t.toList == t.toList) = true := beq_self_eq_true _
        have e2 : (t.toList != t.toList) = false := by rw [bne, e1]; rfl
        clear hbel hki hcell
        go_wp2_with fail
        refine wp_region_old (by kernel_rfl) (by kernel_rfl) ?_
        repeat (go_big_quiet_step ((go_at_call 52; exact old_call (c1 _))))
        refine wpQuiet_nil ?_
        rintro _ ⟨m, rfl⟩
        have H2 := Lib.hid (Hr.out.trans (m.h.mono Hr.out.size))
        go_wp2_with fail
        go_roundw
        case rel => exact ⟨i + 1, k + 1, hin, by rw [Hk.out], by go_num, by go_num, H2.out⟩
        case measure => simp [intOf]; omega
      · have hin' : ¬ (i : Int) < n := by omega
        have Hf := Lib.hid (show (k : Int) = ((n + 1 : Nat) : Int) by omega)
        have Hb := Lib.hid hbel
        clear hbel hki
        go_wp2_with fail
        go_ret
        exact ⟨ret_int Hf.out, Hb.out⟩
end Go.Proofs.YtgfeahammmfdaaaDoor.Fld
