/- Lists of steps: their cells; the program's StepsOk. -/
import Derived.Test.YtpemmmnohlimmaaStp
namespace Go.Proofs.Ytpemmmnohlimmaa.Stp
open Go.ChangeShapes Go.WideShapes Go.ChangeAt Go.RowKit Go.Proofs.Ytpemmmnohlimmaa Go.Proofs.Ytpemmmnohlimmaa.Flt Go.Proofs.Ytpemmmnohlimmaa.Mth Go.Proofs.Ytpemmmnohlimmaa.Cpx Go.Proofs.Ytpemmmnohlimmaa.Trn
set_option linter.unusedVariables false
/-- the cells of a list of steps -/
def CellsS (w : World) (g off : Nat) (xs : List Stp) : Prop := ∀ (i : Nat) (s : Stp), xs[i]? = some s →
  w.cell? ⟨g, off + i * 4, none⟩ = some (.int .i64 s.k) ∧ w.cell? ⟨g, off + i * 4 + 1, none⟩ = some (.complex .f64 s.x s.y) ∧ w.cell? ⟨g, off + i * 4 + 2, none⟩ = some (.int .i64 s.q) ∧ w.cell? ⟨g, off + i * 4 + 3, none⟩ = some (.int .i64 s.p)
theorem CellsS.keep {w w' : World} {g off B : Nat} {xs : List Stp} (h : CellsS w g off xs) (hg : g < B) (hb : Below B w w') : CellsS w' g off xs := fun i s hs => by
  obtain ⟨a, b, c, d⟩ := h i s hs
  exact ⟨(hb.cell (by exact hg)).trans a, (hb.cell (by exact hg)).trans b, (hb.cell (by exact hg)).trans c, (hb.cell (by exact hg)).trans d⟩
def wfS (xs : List Stp) : Prop := ∀ s ∈ xs, s.x < 18446744073709551616 ∧ s.y < 18446744073709551616
def okS (xs : List Stp) : Bool := decide (xs.length ≤ 20) && xs.all Stp.ok
theorem okS_fail {xs : List Stp} {i : Nat} {s : Stp} (h : xs[i]? = some s) (ho : s.ok = false) : okS xs = false := by
  unfold okS
  have : xs.all Stp.ok = false := by
    cases e : xs.all Stp.ok
    · rfl
    · rw [List.all_eq_true] at e
      have := e s (List.mem_of_getElem? h)
      rw [ho] at this; cases this
  rw [this, Bool.and_false]
theorem okS_all {xs : List Stp} (hl : xs.length ≤ 20) (h : ∀ (i : Nat) (s : Stp), xs[i]? = some s → s.ok = true) : okS xs = true := by
  unfold okS
  rw [decide_eq_true hl, Bool.true_and, List.all_eq_true]
  intro s hs
  obtain ⟨i, hi⟩ := List.getElem?_of_mem hs
  exact h i s hi
set_option maxHeartbeats 1600000 in
theorem stepsOk_any (g off cap : Nat) (xs : List Stp) (w : World) (hg : g < w.heap.size) (hwf : wfS xs) (h : CellsS w g off xs) :
    Calls Try.prog 10 #[.slice (some ⟨g, off, none⟩) xs.length cap] w fun e w' => e = .returned (.bool (okS xs)) ∧ Below w.heap.size w w' := by
  have H := Lib.hid (And.intro hwf h)
  clear hwf h
  obtain ⟨n, hn⟩ : ∃ n, xs.length = n := ⟨_, rfl⟩
  rw [hn]
  by_cases hl : n ≤ 20
  · have hl' : ¬ (20 : Int) < (n : Int) := by omega
    have Hst := Lib.hid (Below.refl w.heap.size w)
    go_enter Try.func10, Try.ntmps10
    go_wp2_with fail
    go_loopw [10] (fun i wr => ∃ k : Nat, i = .int .i64 k ∧ k ≤ n ∧ Below w.heap.size w wr ∧ Hid (∀ (j : Nat) (s : Stp), j < k → xs[j]? = some s → s.ok = true))
      (fun i _ => n - (intOf i).toNat)
    case atStart => exact ⟨0, rfl, Nat.zero_le _, Hst.out, Lib.hid fun j s hj => absurd hj (Nat.not_lt_zero _)⟩
    case round =>
      obtain ⟨k, rfl, hk, hbel, hall⟩ := hrel
      have hsz := hbel.size
      by_cases hkl : k < n
      · have hkl' : (k : Int) < (n : Int) := by omega
        obtain ⟨s, hs⟩ : ∃ s, xs[k]? = some s := ⟨_, List.getElem?_eq_getElem (by rw [hn]; exact hkl)⟩
        have hw := H.out.1 s (List.mem_of_getElem? hs)
        obtain ⟨a0, a1, a2, a3⟩ := (H.out.2.keep hg hbel) k s hs
        have Hbel := Lib.hid hbel
        have Hs := Lib.hid hs
        clear hs hbel
        cases ho : s.ok
        · have Hno := Lib.hid (okS_fail Hs.out ho)
          have Ho := Lib.hid ho
          clear ho
          go_wp2_with fail
          refine (stepOk_any s hw.1 hw.2 _).mono ?_
          rintro e w1 ⟨rfl, hb⟩
          have Hb := Lib.hid (Hbel.out.trans (below_on (B := wr.heap.size) hb (by go_grown) (by simp) |>.mono hsz))
          rw [Ho.out]
          clear hb
          go_wp2_with fail
          go_ret
          exact ⟨ret_bool Hno.out.symm, Hb.out⟩
        · have Ho := Lib.hid ho
          clear ho
          go_wp2_with fail
          refine (stepOk_any s hw.1 hw.2 _).mono ?_
          rintro e w1 ⟨rfl, hb⟩
          have Hb := Lib.hid (Hbel.out.trans (below_on (B := wr.heap.size) hb (by go_grown) (by simp) |>.mono hsz))
          rw [Ho.out]
          clear hb
          go_wp2_with fail
          go_roundw
          case rel => exact ⟨k + 1, by go_num, by omega, Hb.out, Lib.hid fun j t hj ht => by
            by_cases e : j = k
            · rw [e, Hs.out] at ht; cases ht; exact Ho.out
            · exact hall.out j t (by omega) ht⟩
          case measure => simp [intOf]; omega
      · obtain rfl : k = n := by omega
        have Hyes := Lib.hid (okS_all (xs := xs) (by omega) (fun i s hs => hall.out i s (by
          rcases Nat.lt_or_ge i k with h | h
          · exact h
          · rw [List.getElem?_eq_none (by omega)] at hs; cases hs) hs))
        have Hbel := Lib.hid hbel
        clear hbel
        go_wp2_with fail
        go_ret
        exact ⟨ret_bool Hyes.out.symm, Hbel.out⟩
  · have hl' : (20 : Int) < (n : Int) := by omega
    have Hno := Lib.hid (show okS xs = false by unfold okS; rw [decide_eq_false (by omega), Bool.false_and])
    go_enter Try.func10, Try.ntmps10
    go_wp2_with fail
    go_ret
    exact ⟨ret_bool Hno.out.symm, by go_grown⟩
end Go.Proofs.Ytpemmmnohlimmaa.Stp
