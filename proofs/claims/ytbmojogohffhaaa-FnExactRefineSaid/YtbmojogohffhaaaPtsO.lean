/- Lists of points and of singles of a call's own: their content by index; comparison, marks, held marks of lists of points. -/
import Derived.Test.YtbmojogohffhaaaTab
import Derived.Test.YtbmojogohffhaaaOld
import Derived.Test.YtbmojogohffhaaaLin
import Derived.Handy
import Derived.Laws.OwnMore
import Derived.OwnWalk
import Derived.Deep.AppendLies
namespace Go.Proofs.Ytbmojogohffhaaa.Pnt
open Go.ChangeShapes Go.WideShapes Go.ChangeAt Go.RowKit Go.Deep Go.Proofs.Ytbmojogohffhaaa Go.Proofs.Ytbmojogohffhaaa.Flt Go.Proofs.Ytbmojogohffhaaa.Mth
open Ieee (single double)
set_option linter.unusedVariables false
/-- the first 'm' cells -/
def flat (X : Nat → Nat) (m : Nat) : List Value := (List.range m).map fun j => .float .f32 (X j)
theorem flat_len (X : Nat → Nat) (m : Nat) : (flat X m).length = m := by simp [flat]
theorem flat_at {X : Nat → Nat} {m j : Nat} (h : j < m) : (flat X m)[j]? = some (.float .f32 (X j)) := by
  unfold flat
  rw [List.getElem?_map, List.getElem?_range h]; rfl
theorem flat_congr {X Y : Nat → Nat} {m : Nat} (h : ∀ j, j < m → X j = Y j) : flat X m = flat Y m := by
  unfold flat
  exact List.map_congr_left fun j hj => by rw [h j (by simpa using hj)]
theorem flat_snoc (X : Nat → Nat) (m : Nat) : flat X (m + 1) = flat X m ++ [.float .f32 (X m)] := by
  simp [flat, List.range_succ]
theorem flat_two (X : Nat → Nat) (k : Nat) : flat X ((k + 1) * 2) = flat X (k * 2) ++ [.float .f32 (X (k * 2)), .float .f32 (X (k * 2 + 1))] := by
  rw [show (k + 1) * 2 = k * 2 + 1 + 1 by omega, flat_snoc, flat_snoc, List.append_assoc]; rfl
/-- one cell is written anew -/
def upd (X : Nat → Nat) (i x : Nat) : Nat → Nat := fun j => if j = i then x else X j
theorem flat_set (X : Nat → Nat) (m i x : Nat) : (flat X m).set i (.float .f32 x) = flat (upd X i x) m := by
  apply List.ext_getElem?
  intro j
  rw [List.getElem?_set]
  by_cases hj : j < m
  · rw [flat_at (X := upd X i x) hj]
    by_cases e : i = j
    · rw [if_pos e, if_pos (by rw [flat_len]; omega), show upd X i x j = x from if_pos e.symm]
    · rw [if_neg e, show upd X i x j = X j from if_neg (Ne.symm e), flat_at hj]
  · have h1 : (flat X m)[j]? = none := by rw [List.getElem?_eq_none]; rw [flat_len]; omega
    have h2 : (flat (upd X i x) m)[j]? = none := by rw [List.getElem?_eq_none]; rw [flat_len]; omega
    rw [h1, h2]
    split
    · rw [if_neg]
      rename_i e
      rw [flat_len]; omega
    · rfl
/-- a list of points of the call's own -/
def OwnQ (base : Nat) (w : World) (v : Value) (n : Nat) (X : Nat → Nat) : Prop := w.ownsRow base 32 2 v n (flat X (n * 2))
/-- a list of singles of the call's own -/
def OwnF (base : Nat) (w : World) (v : Value) (n : Nat) (X : Nat → Nat) : Prop := w.ownsRow base 25 1 v n (flat X n)
theorem own_below {base e size n B : Nat} {w w' : World} {v : Value} {xs : List Value} (h : w.ownsRow base e size v n xs) (hB : w.heap.size ≤ B) (hb : Below B w w') : w'.ownsRow base e size v n xs := by
  refine ⟨h.1, ?_⟩
  rcases h.2 with hn | ⟨g, cap, cur, rfl, hbg, hg, rest⟩
  · exact .inl hn
  · exact .inr ⟨g, cap, cur, rfl, hbg, (hb.block g (Nat.lt_of_lt_of_le (lt_of_block hg) hB)).trans hg, rest⟩
theorem OwnQ.form {base : Nat} {w : World} {v : Value} {n : Nat} {X : Nat → Nat} (h : OwnQ base w v n X) : ∃ a cap, v = .slice a n cap ∧ (n = 0 ∨ ∃ g, a = some ⟨g, 0, none⟩ ∧ base ≤ g ∧ g < w.heap.size ∧ Cells w g 0 n X) := by
  have h' := h
  rcases h.2 with ⟨rfl, rfl⟩ | ⟨g, cap, cur, rfl, hb, hg, rest⟩
  · exact ⟨_, _, rfl, .inl rfl⟩
  · refine ⟨_, _, rfl, .inr ⟨g, rfl, hb, lt_of_block hg, fun i hi => ?_⟩⟩
    have e : ∀ j, j < n * 2 → w.cell? ⟨g, j, none⟩ = some (.float .f32 (X j)) := fun j hj => by rw [World.ownsRow.cellAt h' j hj, flat_at hj]
    rw [Nat.zero_add]
    exact ⟨e _ (by omega), e _ (by omega)⟩
theorem OwnQ.lst {base : Nat} {w : World} {v : Value} {n : Nat} {X : Nat → Nat} (h : OwnQ base w v n X) (hw : Wf n X) : ∃ a cap, v = .slice a n cap ∧ Lst w a n X := by
  obtain ⟨a, cap, rfl, h0 | ⟨g, rfl, _, hlt, hc⟩⟩ := h.form
  · exact ⟨a, cap, rfl, hw, .inl h0⟩
  · exact ⟨_, cap, rfl, hw, .inr ⟨g, 0, rfl, hlt, hc⟩⟩
theorem OwnQ.congr {base : Nat} {w : World} {v : Value} {n : Nat} {X Y : Nat → Nat} (h : OwnQ base w v n X) (e : ∀ j, j < n * 2 → X j = Y j) : OwnQ base w v n Y := by
  unfold OwnQ at h ⊢
  rw [← flat_congr e]; exact h
theorem eqQ_any {b1 b2 n : Nat} {v v' : Value} {X : Nat → Nat} (w : World) (h1 : OwnQ b1 w v n X) (h2 : OwnQ b2 w v' n X) (hw : Wf n X) (hl : n ≤ 1048576) :
    Calls Try.prog 28 #[v, v'] w fun e w' => e = .returned (.bool true) ∧ Below w.heap.size w w' := by
  obtain ⟨a, cap, rfl, hL⟩ := h1.lst hw
  obtain ⟨a', cap', rfl, hL'⟩ := h2.lst hw
  exact eqP_any a a' n cap cap' X w hl hL hL'
/-- the marks -/
def mkF (j : Nat) : Nat := fl ((j + 1 : Nat) : Int)
set_option maxRecDepth 20000 in
set_option maxHeartbeats 1600000 in
theorem markQ_any {base n : Nat} {v : Value} {X : Nat → Nat} (w : World) (hb : base ≤ w.heap.size) (h1 : OwnQ base w v n X) (hn : n ≤ 1000) :
    Calls Try.prog 37 #[v, .int .i64 1] w fun e w' => e = .returned (.int .i64 ((2 * n + 1 : Nat) : Int)) ∧ OwnQ base w' v n mkF ∧ Below base w w' := by
  have hc := run_fl
  obtain ⟨a, cap, rfl, h0 | ⟨g, rfl, hbg, hlt, _⟩⟩ := h1.form
  · subst h0
    have Hm := Lib.hid (show OwnQ base w (.slice a 0 cap) 0 mkF from h1.congr (fun j hj => absurd hj (by omega)))
    clear h1
    go_enter Try.func37, Try.ntmps37
    go_wp2_with fail
    go_rounds 1
    go_ret
    exact ⟨rfl, Hm.out, Below.refl _ _⟩
  · have H1 := Lib.hid h1
    clear h1
    go_enter Try.func37, Try.ntmps37
    go_wp2_with fail
    go_loopw [1, 5] (fun kv iv wr => ∃ (i k : Nat) (Z : Nat → Nat), i ≤ n ∧ k = 1 + 2 * i ∧ Hid (∀ j, j < i * 2 → Z j = mkF j) ∧ kv = .int .i64 (k : Int) ∧ iv = .int .i64 (i : Int) ∧ OwnQ base wr (.slice (some ⟨g, 0, none⟩) n cap) n Z ∧ Below base w wr) (fun _ iv _ => n - (intOf iv).toNat)
    case atStart => exact ⟨0, 1, X, Nat.zero_le _, rfl, Lib.hid (fun j hj => absurd hj (by omega)), rfl, rfl, H1.out, Below.refl _ _⟩
    case round =>
      obtain ⟨i, k, Z, hi, hki, hmk, rfl, rfl, hown, hbel⟩ := hrel
      have Hk := Lib.hid hki
      have hkb : k ≤ 7000000 := by omega
      by_cases hin : i < n
      · have hin' : (i : Int) < n := by omega
        have d0 : wr.cell? ⟨g, i * 2, none⟩ = some (.float .f32 (Z (i * 2))) := by rw [World.ownsRow.cellAt hown (i * 2) (by omega), flat_at (by omega)]
        have d1 : wr.cell? ⟨g, i * 2 + 1, none⟩ = some (.float .f32 (Z (i * 2 + 1))) := by rw [World.ownsRow.cellAt hown (i * 2 + 1) (by omega), flat_at (by omega)]
        have f0 := World.ownsRow.frozenAt hown (i * 2)
        have f1 := World.ownsRow.frozenAt hown (i * 2 + 1)
        have s1 := (World.ownsRow.stored hown (i * 2) (.float .f32 (fl (k : Int)))).1
        have s2 := (World.ownsRow.stored s1 (i * 2 + 1) (.float .f32 (fl ((k : Int) + 1)))).1
        rw [flat_set, flat_set] at s2
        have Hs := Lib.hid (And.intro (show OwnQ base _ (.slice (some ⟨g, 0, none⟩) n cap) n (upd (upd Z (i * 2) (fl (k : Int))) (i * 2 + 1) (fl ((k : Int) + 1))) from s2) ((hbel.setCell (p := ⟨g, i * 2, none⟩) hbg (.float .f32 (fl (k : Int)))).setCell (p := ⟨g, i * 2 + 1, none⟩) hbg (.float .f32 (fl ((k : Int) + 1)))))
        have Hm2 := Lib.hid (show ∀ j, j < (i + 1) * 2 → upd (upd Z (i * 2) (fl (k : Int))) (i * 2 + 1) (fl ((k : Int) + 1)) j = mkF j from fun j hj => by
          unfold upd
          by_cases e1 : j = i * 2 + 1
          · rw [if_pos e1, e1]; unfold mkF; congr 1; omega
          · rw [if_neg e1]
            by_cases e0 : j = i * 2
            · rw [if_pos e0, e0]; unfold mkF; congr 1; omega
            · rw [if_neg e0]; exact hmk.out j (by omega))
        clear hown hbel hki s1 s2
        generalize Z (i * 2) = g0 at d0
        generalize Z (i * 2 + 1) = g1 at d1
        go_wp2_with fail
        go_roundw
        case rel => exact ⟨i + 1, k + 2, _, hin, by rw [Hk.out]; omega, Lib.hid Hm2.out, by go_num, by go_num, Hs.out.1, Hs.out.2⟩
        case measure => simp [intOf]; omega
      · have hin' : ¬ (i : Int) < n := by omega
        obtain rfl : i = n := by omega
        have Hf := Lib.hid (show (k : Int) = ((2 * i + 1 : Nat) : Int) by omega)
        have Hb := Lib.hid (And.intro (show OwnQ base wr _ i mkF from hown.congr hmk.out) hbel)
        clear hown hbel hki hc
        go_wp2_with fail
        go_ret
        exact ⟨ret_int Hf.out, Hb.out.1, Hb.out.2⟩
theorem fl_eq (k : Int) (h : isNaN single (fl k) = false) : (FloatKind.f32.format.order (fl k) (fl k) != some .eq) = false := by
  rw [bne, eq32, eqW_self, h]; rfl
theorem fl_num (k : Int) : isNaN single (fl k) = false := by
  unfold fl
  rw [ofInt32]
  exact word_nan single _ (Nat.min_le_right _ _)
set_option maxRecDepth 20000 in
set_option maxHeartbeats 1600000 in
theorem heldQ_any {base n : Nat} {v : Value} (w : World) (h1 : OwnQ base w v n mkF) (hn : n ≤ 1000) :
    Calls Try.prog 39 #[v, .int .i64 1] w fun e w' => e = .returned (.int .i64 ((2 * n + 1 : Nat) : Int)) ∧ Below w.heap.size w w' := by
  have hc := run_fl
  have Hst := Lib.hid (Below.refl w.heap.size w)
  obtain ⟨a, cap, rfl, h0 | ⟨g, rfl, hbg, hlt, hcell⟩⟩ := h1.form
  · subst h0
    clear h1
    go_enter Try.func39, Try.ntmps39
    go_wp2_with fail
    go_rounds 1
    go_ret
    exact ⟨rfl, Hst.out⟩
  · have Hc := Lib.hid hcell
    clear h1 hcell
    go_enter Try.func39, Try.ntmps39
    go_wp2_with fail
    go_loopw [1, 5] (fun kv iv wr => ∃ (i k m : Nat), i ≤ n ∧ k = 1 + 2 * i ∧ kv = .int .i64 (k : Int) ∧ iv = .int .i64 (i : Int) ∧ wr = w.drewN m) (fun _ iv _ => n - (intOf iv).toNat)
    case atStart => exact ⟨0, 1, 0, Nat.zero_le _, rfl, rfl, rfl, rfl⟩
    case round =>
      obtain ⟨i, k, m, hi, hki, rfl, rfl, rfl⟩ := hrel
      have Hk := Lib.hid hki
      have hkb : k ≤ 7000000 := by omega
      by_cases hin : i < n
      · have hin' : (i : Int) < n := by omega
        obtain ⟨a0, a1⟩ := Hc.out i hin
        rw [Nat.zero_add] at a0 a1
        have e0 : mkF (i * 2) = fl (k : Int) := by unfold mkF; congr 1; omega
        have e1 : mkF (i * 2 + 1) = fl ((k : Int) + 1) := by unfold mkF; congr 1; omega
        rw [e0] at a0
        rw [e1] at a1
        have o0 := fl_eq (k : Int) (fl_num _)
        have o1 := fl_eq ((k : Int) + 1) (fl_num _)
        clear hki e0 e1
        go_wp2_with fail
        go_roundw
        case rel => exact ⟨i + 1, k + 2, _, hin, by rw [Hk.out]; omega, by go_num, by go_num, by first | rfl | trivial⟩
        case measure => simp [intOf]; omega
      · have hin' : ¬ (i : Int) < n := by omega
        obtain rfl : i = n := by omega
        have Hf := Lib.hid (show (k : Int) = ((2 * i + 1 : Nat) : Int) by omega)
        clear hki hc
        go_wp2_with fail
        go_ret
        exact ⟨ret_int Hf.out, below_drewN Hst.out m⟩
end Go.Proofs.Ytbmojogohffhaaa.Pnt
