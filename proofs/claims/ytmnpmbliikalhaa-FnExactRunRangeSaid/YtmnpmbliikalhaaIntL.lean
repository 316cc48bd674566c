/- The laws' helpers on lists of ints: eqIntS, markIntS, heldIntS. -/
import Derived.Test.YtmnpmbliikalhaaChecked
import Derived.Test.YtmnpmbliikalhaaOnly
import Derived.Handy
import Derived.Deep.QuietTactic
import Derived.BigQuiet
import Derived.Laws.OwnMore
import Derived.OwnWalk
namespace Go.Proofs.Ytmnpmbliikalhaa.Ils
open Go.ChangeShapes Go.WideShapes Go.ChangeAt Go.RowKit Go.Proofs.Ytmnpmbliikalhaa
set_option linter.unusedVariables false
def intV (xs : List Int) : List Value := xs.map (Value.int .i64)
theorem intV_len (xs : List Int) : (intV xs).length = xs.length := List.length_map ..
/-- a list of ints of the call's own -/
def OwnI (base : Nat) (w : World) (v : Value) (xs : List Int) : Prop := w.ownsRow base 3 1 v xs.length (intV xs)
theorem own_keep {base e size n : Nat} {w w' : World} {v : Value} {xs : List Value} (h : w.ownsRow base e size v n xs) (hb : Below w.heap.size w w') : w'.ownsRow base e size v n xs := by
  refine ⟨h.1, ?_⟩
  rcases h.2 with hn | ⟨g, cap, cur, rfl, hbg, hg, rest⟩
  · exact .inl hn
  · exact .inr ⟨g, cap, cur, rfl, hbg, (hb.block g (lt_of_block hg)).trans hg, rest⟩
theorem ownI_keep {base : Nat} {w w' : World} {v : Value} {xs : List Int} (h : OwnI base w v xs) (hb : Below w.heap.size w w') : OwnI base w' v xs := by
  refine ⟨h.1, ?_⟩
  rcases h.2 with hn | ⟨g, cap, cur, rfl, hbg, hg, rest⟩
  · exact .inl hn
  · exact .inr ⟨g, cap, cur, rfl, hbg, (hb.block g (lt_of_block hg)).trans hg, rest⟩
theorem ownI_cases {base : Nat} {w : World} {v : Value} {xs : List Int} (h : OwnI base w v xs) : (v = .slice none 0 0 ∧ xs = []) ∨ ∃ g cap, v = .slice (some ⟨g, 0, none⟩) xs.length cap ∧ base ≤ g ∧ g < w.heap.size ∧ ∀ i (hi : i < xs.length), w.cell? ⟨g, i, none⟩ = some (.int .i64 xs[i]) := by
  have h' := h
  rcases h.2 with ⟨h1, h2⟩ | ⟨g, cap, cur, rfl, hb, hg, rest⟩
  · exact .inl ⟨h1, List.eq_nil_of_length_eq_zero h2⟩
  · refine .inr ⟨g, cap, rfl, hb, lt_of_block hg, fun i hi => ?_⟩
    have := World.ownsRow.cellAt h' i (by omega)
    rw [this]
    unfold intV
    rw [List.getElem?_map, List.getElem?_eq_getElem hi]
    rfl
set_option maxRecDepth 20000 in
set_option maxHeartbeats 800000 in
theorem eqI_any {b1 b2 : Nat} {v v' : Value} {xs : List Int} (w : World) (h1 : OwnI b1 w v xs) (h2 : OwnI b2 w v' xs) (hn : xs.length ≤ 1000000) :
    Calls Try.prog 34 #[v, v'] w fun e w' => e = .returned (.bool true) ∧ Below w.heap.size w w' := by
  rcases ownI_cases h1 with ⟨rfl, rfl⟩ | ⟨g, cap, rfl, _, hg, hc⟩
  · rcases ownI_cases h2 with ⟨rfl, _⟩ | ⟨g', cap', rfl, _⟩
    · go_enter Try.func34, Try.ntmps34
      go_wp2_with fail
      go_rounds 1
      go_ret
      exact ⟨rfl, Below.refl _ _⟩
    · show Calls _ _ #[_, .slice _ 0 _] _ _
      go_enter Try.func34, Try.ntmps34
      go_wp2_with fail
      go_rounds 1
      go_ret
      exact ⟨rfl, Below.refl _ _⟩
  · rcases ownI_cases h2 with ⟨rfl, rfl⟩ | ⟨g', cap', rfl, _, hg', hc'⟩
    · show Calls _ _ #[.slice _ 0 _, _] _ _
      go_enter Try.func34, Try.ntmps34
      go_wp2_with fail
      go_rounds 1
      go_ret
      exact ⟨rfl, Below.refl _ _⟩
    · obtain ⟨n, hnn⟩ : ∃ n, n = xs.length := ⟨_, rfl⟩
      rw [← hnn] at hn ⊢
      have Hc := Lib.hid (And.intro hc hc')
      have Hn := Lib.hid hnn
      clear hc hc' hnn h1 h2
      go_enter Try.func34, Try.ntmps34
      go_wp2_with fail
      go_loopw [5] (fun iv wr => ∃ i m : Nat, i ≤ n ∧ iv = .int .i64 (i : Int) ∧ wr = w.drewN m) (fun iv _ => n - (intOf iv).toNat)
      case atStart => exact ⟨0, 0, Nat.zero_le _, rfl, rfl⟩
      case round =>
        obtain ⟨i, m, hi, rfl, hwr⟩ := hrel
        subst hwr
        by_cases hin : i < n
        · have hin' : (i : Int) < n := by omega
          have i1 : (0 : Int) ≤ i := by omega
          have hix : i < xs.length := by rw [← Hn.out]; exact hin
          have q1 := Hc.out.1 i hix
          have q2 := Hc.out.2 i hix
          generalize xs[i] = x at *
          have e1 : (x == x) = true := beq_self_eq_true _
          have e2 : (x != x) = false := by rw [bne, e1]; rfl
          go_wp2_with fail
          go_quiet (fail)
          go_wp2_with fail
          go_roundw
          case rel => exact ⟨i + 1, _, hin, by go_num, rfl⟩
          case measure => simp [intOf]; omega
        · have hin' : ¬ (i : Int) < n := by omega
          go_wp2_with fail
          go_ret
          exact ⟨rfl, ⟨rfl, rfl, rfl, Nat.le_refl _, fun _ _ => rfl⟩⟩
def marks (n : Nat) : List Int := (List.range n).map fun j => ((j + 1 : Nat) : Int)
theorem marks_len (n : Nat) : (marks n).length = n := by simp [marks]
theorem marks_of {xs : List Int} {n : Nat} (hl : xs.length = n) (h : ∀ j (hj : j < xs.length), xs[j] = ((j + 1 : Nat) : Int)) : xs = marks n := by
  apply List.ext_getElem
  · rw [hl, marks_len]
  · intro j h1 h2
    rw [h j h1]
    simp [marks]
set_option maxRecDepth 20000 in
set_option maxHeartbeats 800000 in
theorem markI_any {base : Nat} {v : Value} {xs : List Int} (w : World) (hb : base ≤ w.heap.size) (h1 : OwnI base w v xs) (hn : xs.length ≤ 1000000) :
    Calls Try.prog 38 #[v, .int .i64 1] w fun e w' => e = .returned (.int .i64 ((xs.length + 1 : Nat) : Int)) ∧ OwnI base w' v (marks xs.length) ∧ Below base w w' := by
  rcases ownI_cases h1 with ⟨rfl, rfl⟩ | ⟨g, cap, rfl, hbg, hg, hc⟩
  · have Hm := Lib.hid (show OwnI base w (.slice none 0 0) (marks 0) from h1)
    clear h1
    go_enter Try.func38, Try.ntmps38
    go_wp2_with fail
    go_rounds 1
    go_ret
    exact ⟨rfl, Hm.out, Below.refl _ _⟩
  · obtain ⟨n, hnn⟩ : ∃ n, n = xs.length := ⟨_, rfl⟩
    have H1 := Lib.hid (show OwnI base w (.slice (some ⟨g, 0, none⟩) n cap) xs by rw [hnn]; exact h1)
    rw [← hnn] at hn ⊢
    have Hn := Lib.hid hnn
    clear hc hnn h1
    go_enter Try.func38, Try.ntmps38
    go_wp2_with fail
    go_loopw [1, 5] (fun kv iv wr => ∃ (i k : Nat) (ys : List Int), i ≤ n ∧ k = i + 1 ∧ Hid (ys.length = n) ∧ Hid (∀ j (hj : j < ys.length), j < i → ys[j] = ((j + 1 : Nat) : Int)) ∧ kv = .int .i64 (k : Int) ∧ iv = .int .i64 (i : Int) ∧ OwnI base wr (.slice (some ⟨g, 0, none⟩) n cap) ys ∧ Below base w wr) (fun _ iv _ => n - (intOf iv).toNat)
    case atStart => exact ⟨0, 1, xs, Nat.zero_le _, rfl, Hn.out.symm, (fun j hj hji => absurd hji (Nat.not_lt_zero j)), rfl, rfl, H1.out, Below.refl _ _⟩
    case round =>
      obtain ⟨i, k, ys, hi, hki, hys, hmk, rfl, rfl, hown, hbel⟩ := hrel
      have Hk := Lib.hid hki
      by_cases hin : i < n
      · have hin' : (i : Int) < n := by omega
        have hown2 := hown
        unfold OwnI at hown2
        rw [hys.out] at hown2
        have hfz := hown2.frozenAt i
        have hst := hown2.stored i (.int .i64 (k : Int))
        have hlt := hown2.lt g rfl
        have hcl : wr.cell? ⟨g, i, none⟩ = some (.int .i64 (ys.getD i 0)) := by
          rw [hown2.cellAt i (by omega)]
          unfold intV
          rw [List.getElem?_map, List.getElem?_eq_getElem (show i < ys.length by rw [hys.out]; exact hin), List.getD_eq_getElem?_getD, List.getElem?_eq_getElem (show i < ys.length by rw [hys.out]; exact hin)]
          rfl
        obtain ⟨y0, hy0⟩ : ∃ y0, y0 = ys.getD i 0 := ⟨_, rfl⟩
        rw [← hy0] at hcl
        have H3 := Lib.hid (show OwnI base (wr.setCell ⟨g, i, none⟩ (.int .i64 (k : Int))) (.slice (some ⟨g, 0, none⟩) n cap) (ys.set i (k : Int)) ∧ Below base w (wr.setCell ⟨g, i, none⟩ (.int .i64 (k : Int))) from ⟨by
          have := hst.1
          unfold OwnI
          rw [List.length_set, hys.out]
          unfold intV at this ⊢
          rw [List.map_set]
          exact this, hbel.setCell hlt.1 _⟩)
        have Hy := Lib.hid (show (ys.set i (k : Int)).length = n ∧ ∀ j (hj : j < (ys.set i (k : Int)).length), j < i + 1 → (ys.set i (k : Int))[j] = ((j + 1 : Nat) : Int) from ⟨by rw [List.length_set]; exact hys.out, fun j hj hji => by
          rw [List.getElem_set]
          by_cases e : i = j
          · rw [if_pos e, ← e, Hk.out]
          · rw [if_neg e]
            exact hmk.out j (by rw [List.length_set] at hj; exact hj) (by omega)⟩)
        clear hown hbel hown2 hst hlt hy0 hki
        have k2 : k ≤ 1000001 := by have := Hk.out; omega
        go_wp2_with fail
        go_roundw
        case rel => exact ⟨i + 1, k + 1, ys.set i (k : Int), hin, by rw [Hk.out], Hy.out.1, Hy.out.2, by go_num, by go_num, H3.out.1, H3.out.2⟩
        case measure => simp [intOf]; omega
      · have hin' : ¬ (i : Int) < n := by omega
        have hie : i = n := by omega
        have Hm := Lib.hid (show OwnI base wr (.slice (some ⟨g, 0, none⟩) n cap) (marks n) ∧ (k : Int) = ((n + 1 : Nat) : Int) from ⟨by
          rw [← marks_of hys.out (fun j hj => hmk.out j hj (by rw [hys.out] at hj; omega))]
          exact hown, by omega⟩)
        have Hb := Lib.hid hbel
        clear hown hbel hie hki
        go_wp2_with fail
        go_ret
        exact ⟨ret_int Hm.out.2, Hm.out.1, Hb.out⟩
set_option maxRecDepth 20000 in
set_option maxHeartbeats 800000 in
theorem heldI_any {base n : Nat} {v : Value} (w : World) (h1 : OwnI base w v (marks n)) (hn : n ≤ 1000000) :
    Calls Try.prog 39 #[v, .int .i64 1] w fun e w' => e = .returned (.int .i64 ((n + 1 : Nat) : Int)) ∧ Below w.heap.size w w' := by
  rcases ownI_cases h1 with ⟨rfl, hx⟩ | ⟨g, cap, rfl, hbg, hg, hc⟩
  · have hn0 : n = 0 := by have := congrArg List.length hx; rw [marks_len] at this; exact this
    subst hn0
    clear h1 hx
    go_enter Try.func39, Try.ntmps39
    go_wp2_with fail
    go_rounds 1
    go_ret
    exact ⟨rfl, Below.refl _ _⟩
  · rw [marks_len]
    have Hc := Lib.hid (show ∀ i, i < n → w.cell? ⟨g, i, none⟩ = some (.int .i64 ((i + 1 : Nat) : Int)) from fun i hi => by
      rw [hc i (by rw [marks_len]; exact hi)]
      congr 2
      simp [marks])
    clear hc h1
    go_enter Try.func39, Try.ntmps39
    go_wp2_with fail
    go_loopw [1, 5] (fun kv iv wr => ∃ (i k m : Nat), i ≤ n ∧ k = i + 1 ∧ kv = .int .i64 (k : Int) ∧ iv = .int .i64 (i : Int) ∧ wr = w.drewN m) (fun _ iv _ => n - (intOf iv).toNat)
    case atStart => exact ⟨0, 1, 0, Nat.zero_le _, rfl, rfl, rfl, rfl⟩
    case round =>
      obtain ⟨i, k, m, hi, hki, rfl, rfl, hwr⟩ := hrel
      subst hwr
      have Hk := Lib.hid hki
      by_cases hin : i < n
      · have hin' : (i : Int) < n := by omega
        have i1 : (0 : Int) ≤ i := by omega
        have k2 : k ≤ 1000001 := by omega
        have hcell := Hc.out i hin
        rw [← Hk.out] at hcell
        have e1 : ((k : Int) == (k : Int)) = true := beq_self_eq_true _
        have e2 : ((k : Int) != (k : Int)) = false := by rw [bne, e1]; rfl
        clear hki
        go_wp2_with fail
        go_roundw
        case rel => exact ⟨i + 1, k + 1, _, hin, by rw [Hk.out], by go_num, by go_num, rfl⟩
        case measure => simp [intOf]; omega
      · have hin' : ¬ (i : Int) < n := by omega
        have Hf := Lib.hid (show (k : Int) = ((n + 1 : Nat) : Int) by omega)
        clear hki
        go_wp2_with fail
        go_ret
        exact ⟨ret_int Hf.out, ⟨rfl, rfl, rfl, Nat.le_refl _, fun _ _ => rfl⟩⟩
end Go.Proofs.Ytmnpmbliikalhaa.Ils
