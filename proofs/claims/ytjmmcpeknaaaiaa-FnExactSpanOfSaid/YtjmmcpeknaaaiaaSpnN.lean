/- SpanOf in the model. -/
import Derived.Test.YtjmmcpeknaaaiaaSpnL
import Derived.Deep.RegionWith
import Derived.BigQuiet
namespace Go.Proofs.Ytjmmcpeknaaaiaa.Spn
open Go.ChangeShapes Go.WideShapes Go.ChangeAt Go.RowKit Go.Deep Go.Proofs.Ytjmmcpeknaaaiaa Go.Proofs.Ytjmmcpeknaaaiaa.Flt Go.Proofs.Ytjmmcpeknaaaiaa.Mth
open Go.Proofs.Ytjmmcpeknaaaiaa.Sgl (LstF CellsF)
open Ieee (single double)
set_option linter.unusedVariables false
set_option linter.unusedSimpArgs false
set_option maxRecDepth 20000
theorem in_any (n a b : Int) (w : World) :
    Calls Try.prog 83 #[.int .i64 n, .int .i64 a, .int .i64 b] w fun e w' => e = .returned (.bool (decide (a ≤ n) && decide (n ≤ b))) ∧ w' = w := by
  go_enter Try.func83, Try.ntmps83
  go_wp2
  all_goals
    go_ret
    exact ⟨ret_bool (by simp <;> omega), rfl⟩
theorem sN (W : World) (n : Nat) (a : Addr) (v : Value) : (W.drewN n).setCell a v = (W.setCell a v).drewN n := rfl
/-- the outermost element so far, the first one ahead of the loop -/
def outS (P : Nat → Nat → Bool) (X : Nat → Nat) (k : Nat) : Nat := if k = 0 then X 0 else outF P X k
theorem outS_step {P : Nat → Nat → Bool} {X : Nat → Nat} (hr : P (X 0) (X 0) = false) (k : Nat) : outS P X (k + 1) = if P (X k) (outS P X k) = true then X k else outS P X k := by
  unfold outS
  rw [if_neg (by omega), out_succ]
  by_cases h0 : k = 0
  · subst h0
    rw [decide_eq_true rfl, Bool.true_or, if_pos rfl, if_pos rfl, hr, if_neg Bool.false_ne_true]
  · rw [decide_eq_false h0, Bool.false_or, if_neg h0]
theorem ltB_irr (x : Nat) : ltB x x = false := by
  cases h : ltB x x
  · rfl
  · have := (lt_iff.1 h).2.2; omega
theorem gtB_irr (x : Nat) : gtB x x = false := by
  cases h : gtB x x
  · rfl
  · have := (gt_iff.1 h).2.2; omega
set_option maxHeartbeats 1000000 in
theorem spec_span (a : Option Addr) (len cap : Nat) (X : Nat → Nat) (w : World) (hl : len ≤ 1048576) (h : LstF w a len X) :
    Calls Try.prog 54 #[.slice a len cap] w fun e w' => e = .returned (.tuple #[pv (loL len X) (hiL len X), .bool (okL len X)]) ∧ Below w.heap.size w w' := by
  have H := Lib.hid h
  clear h
  by_cases hf : len < 1 ∨ 64 < len
  · obtain ⟨e1, e2⟩ := okL_no (okL_few (X := X) hf)
    rw [e1, e2, okL_few hf]
    have hi := fun w => in_any (len : Int) 1 64 w
    rw [show (decide (1 ≤ (len : Int)) && decide ((len : Int) ≤ 64)) = false by rcases hf with hf | hf <;> simp <;> omega] at hi
    clear e1 e2 hf
    unfold pv
    go_enter Try.func54, Try.ntmps54
    go_wp2_with fail
    refine (hi _).mono ?_
    rintro e w9 ⟨rfl, hw9⟩
    subst w9
    go_wp2_with fail
    refine bodyPost_ret (by simp [results, Try.results54, go_sem]; try rfl) rfl ?_
    exact ⟨rfl, by go_grown⟩
  · have h1 : 1 ≤ len := by omega
    have h2 : len ≤ 64 := by omega
    have hi := fun w => in_any (len : Int) 1 64 w
    rw [show (decide (1 ≤ (len : Int)) && decide ((len : Int) ≤ 64)) = true by simp <;> omega] at hi
    obtain ⟨b, off, ha, hlt, hc⟩ := LstF.cells H.out (by omega)
    subst ha
    have a0 : w.cell? ⟨b, off, none⟩ = some (.float .f32 (X 0)) := hc 0 (by omega)
    have Hc := Lib.hid hc
    have H1 := Lib.hid h1
    have H2 := Lib.hid h2
    have hpos : (0 : Int) < len := by omega
    clear hc hf h1 h2
    unfold pv
    obtain ⟨x0, hx0⟩ : ∃ x0, X 0 = x0 := ⟨_, rfl⟩
    rw [hx0] at a0
    have Hx0 := Lib.hid hx0
    clear hx0
    go_enter Try.func54, Try.ntmps54
    go_wp2_with fail
    refine (hi _).mono ?_
    rintro e w9 ⟨rfl, hw9⟩
    subst w9
    go_wp2_with fail
    go_big_region
    all_goals
      go_wp2_with fail
      go_loopw [5] (fun i wr => ∃ k m : Nat, i = .int .i64 k ∧ k ≤ len ∧ (∀ j, j < k → isNaN single (X j) = false) ∧
          wr = ((w.alloc (.cells #[.float .f32 0, .float .f32 0] 32)).alloc (.cells #[.float .f32 (outS ltB X k), .float .f32 (outS gtB X k)] 32)).drewN m)
        (fun i _ => len - (intOf i).toNat)
      case atStart => exact ⟨0, 1, rfl, Nat.zero_le _, fun j hj => absurd hj (Nat.not_lt_zero _), by rw [show outS ltB X 0 = x0 from Hx0.out, show outS gtB X 0 = x0 from Hx0.out]; rfl⟩
      case round =>
        obtain ⟨k, m, rfl, hk, hall, rfl⟩ := hrel
        have Hall := Lib.hid hall
        clear hall a0
        have sl := outS_step (P := ltB) (X := X) (ltB_irr _) k
        have sg := outS_step (P := gtB) (X := X) (gtB_irr _) k
        have ek : outS ltB X len = outF ltB X len ∧ outS gtB X len = outF gtB X len := by unfold outS; rw [if_neg (by have := H1.out; omega), if_neg (by have := H1.out; omega)]; exact ⟨rfl, rfl⟩
        have Ek := Lib.hid ek
        clear ek
        by_cases hkl : k < len
        · have a0 := Hc.out k hkl
          obtain ⟨lo, hlo⟩ : ∃ lo, outS ltB X k = lo := ⟨_, rfl⟩
          obtain ⟨hi, hhi⟩ : ∃ hi, outS gtB X k = hi := ⟨_, rfl⟩
          rw [hlo] at sl
          rw [hhi] at sg
          rw [hlo, hhi]
          have Sl := Lib.hid sl
          have Sg := Lib.hid sg
          clear sl sg hlo hhi
          obtain ⟨x, hx⟩ : ∃ x, X k = x := ⟨_, rfl⟩
          rw [hx] at a0 Sl Sg
          have Hx := Lib.hid hx
          clear hx
          have hne : (FloatKind.f32.format.order x x != some .eq) = isNaN single x := by rw [ne32, eqW_self, Bool.not_not]
          cases hn : isNaN single x
          · rw [hn] at hne
            have Hn := Lib.hid hn
            clear hn
            cases h1 : ltB x lo <;> cases h2 : gtB x hi
            all_goals
              rw [h1] at Sl
              rw [h2] at Sg
              unfold ltB at h1
              unfold gtB at h2
              go_wp2_with fail
              go_big_region
              all_goals
                go_wp2_with fail
                go_big_region
                all_goals
                  go_wp2_with fail
                  try go_big_region
                  all_goals
                    go_wp2_with fail
                    go_roundw
                    case rel =>
                      refine ⟨k + 1, m + 3, by go_num, by omega, fun j hj => ?_, ?_⟩
                      · by_cases hjk : j = k
                        · rw [hjk, Hx.out]; exact Hn.out
                        · exact Hall.out j (by omega)
                      · rw [Sl.out, Sg.out]
                        simp only [Bool.false_eq_true, if_false, if_true]
                        all_goals first
                          | rfl
                          | (rw [sN, World.setCell_alloc_at _ _ _ _ _ (by simp)]; rfl)
                          | (rw [sN, World.setCell_alloc_at _ _ _ _ _ (by simp), sN, World.setCell_alloc_at _ _ _ _ _ (by simp)]; rfl)
                          | (simp [sN, World.setCell_alloc_at]; try rfl)
                    case measure => first | (simp [intOf]; done) | (simp [intOf]; omega)
          · rw [hn] at hne
            have hno := num_no (n := len) (X := X) hkl (by rw [Hx.out]; exact hn)
            have ho := okL_num (X := X) H1.out H2.out
            rw [hno] at ho
            obtain ⟨e1, e2⟩ := okL_no ho
            have E := Lib.hid (And.intro e1 (And.intro e2 ho))
            clear hn hno ho e1 e2
            go_wp2_with fail
            go_big_region
            all_goals
              go_wp2_with fail
              refine bodyPost_ret (by simp [results, Try.results54, go_sem]; try rfl) rfl ?_
              refine ⟨by rw [E.out.1, E.out.2.1, E.out.2.2], ?_⟩
              repeat' (first | exact Below.refl _ _ | refine Below.setCell ?_ ?_ _ | refine Below.alloc ?_ ?_ _ | refine below_drewN ?_ _)
              all_goals (simp; try omega)
        · obtain rfl : k = len := by omega
          have hy := num_iff.2 Hall.out
          have ho := (okL_num (X := X) H1.out H2.out).trans hy
          obtain ⟨e1, e2⟩ := okL_yes ho
          rw [← Ek.out.1] at e1
          rw [← Ek.out.2] at e2
          have E := Lib.hid (And.intro e1 (And.intro e2 ho))
          clear hy ho e1 e2 sl sg
          generalize outS ltB X k = lo at *
          generalize outS gtB X k = hi at *
          go_wp2_with fail
          refine bodyPost_ret (by simp [results, Try.results54, go_sem]; try rfl) rfl ?_
          refine ⟨by rw [E.out.1, E.out.2.1, E.out.2.2], ?_⟩
          repeat' (first | exact Below.refl _ _ | refine Below.setCell ?_ ?_ _ | refine Below.alloc ?_ ?_ _ | refine below_drewN ?_ _)
          all_goals (simp; try omega)
end Go.Proofs.Ytjmmcpeknaaaiaa.Spn
