/- SegmentOf in the model. -/
import Derived.Test.YtbmojogohffhaaaTab
namespace Go.Proofs.Ytbmojogohffhaaa.Pnt
open Go.ChangeShapes Go.WideShapes Go.ChangeAt Go.RowKit Go.Proofs.Ytbmojogohffhaaa Go.Proofs.Ytbmojogohffhaaa.Flt Go.Proofs.Ytbmojogohffhaaa.Mth
open Ieee (single double)
set_option linter.unusedVariables false
/-- from the place 'k' on, at most so many places further -/
def segG (X : Nat → Nat) (x : Nat) : Nat → Nat → Nat
  | 0, k => k
  | f + 1, k => if leB (X ((k + 1) * 2)) x = true then segG X x f (k + 1) else k
/-- the number lies in the table -/
def segIn (n : Nat) (X : Nat → Nat) (x : Nat) : Bool := okP n X && (geB x (X 0) && leB x (X ((n - 1) * 2)))
def segN (n : Nat) (X : Nat → Nat) (x : Nat) : Nat := segG X x (n - 2) 0
def segV (n : Nat) (X : Nat → Nat) (x : Nat) : Int := if segIn n X x = true then (segN n X x : Int) else -1
/-- what tells the segment -/
def IsSeg (n : Nat) (X : Nat → Nat) (x k : Nat) : Prop := k + 1 < n ∧ (∀ j, 1 ≤ j → j ≤ k → leB (X (j * 2)) x = true) ∧ (k + 2 < n → leB (X ((k + 1) * 2)) x = false)
theorem IsSeg.one {n : Nat} {X : Nat → Nat} {x k k' : Nat} (h : IsSeg n X x k) (h' : IsSeg n X x k') : k = k' := by
  rcases Nat.lt_trichotomy k k' with e | e | e
  · have h1 := h'.2.1 (k + 1) (by omega) (by omega)
    rw [h.2.2 (by have := h'.1; omega)] at h1
    cases h1
  · exact e
  · have h1 := h.2.1 (k' + 1) (by omega) (by omega)
    rw [h'.2.2 (by have := h.1; omega)] at h1
    cases h1
theorem segG_is {n : Nat} {X : Nat → Nat} {x : Nat} : ∀ (f k : Nat), f + k + 2 = n → (∀ j, 1 ≤ j → j ≤ k → leB (X (j * 2)) x = true) → IsSeg n X x (segG X x f k)
  | 0, k, hn, h => ⟨by unfold segG; omega, h, fun h2 => by unfold segG at h2; omega⟩
  | f + 1, k, hn, h => by
    unfold segG
    split
    · rename_i hle
      exact segG_is f (k + 1) (by omega) (fun j h1 h2 => by
        by_cases e : j = k + 1
        · rw [e]; exact hle
        · exact h j h1 (by omega))
    · rename_i hle
      exact ⟨by omega, h, fun _ => by simpa using hle⟩
theorem segN_is {n : Nat} {X : Nat → Nat} {x : Nat} (h : 2 ≤ n) : IsSeg n X x (segN n X x) := segG_is (n - 2) 0 (by omega) (fun j h1 h2 => by omega)
theorem segIn_ok {n : Nat} {X : Nat → Nat} {x : Nat} (h : segIn n X x = true) : okP n X = true ∧ geB x (X 0) = true ∧ leB x (X ((n - 1) * 2)) = true := by
  unfold segIn at h
  rw [Bool.and_eq_true, Bool.and_eq_true] at h
  exact h
theorem segV_in {n : Nat} {X : Nat → Nat} {x : Nat} (h : segIn n X x = true) : segV n X x = (segN n X x : Int) := by unfold segV; rw [if_pos h]
theorem segV_out {n : Nat} {X : Nat → Nat} {x : Nat} (h : segIn n X x = false) : segV n X x = -1 := by unfold segV; rw [if_neg (by rw [h]; exact Bool.false_ne_true)]
set_option maxRecDepth 100000 in
set_option maxHeartbeats 800000 in
theorem specSeg (a : Option Addr) (len cap : Nat) (X : Nat → Nat) (x : Nat) (w : World) (hl : len ≤ 1048576) (h : Lst w a len X) :
    Calls Try.prog 29 #[.slice a len cap, .float .f32 x] w fun e w' => e = .returned (.int .i64 (segV len X x)) ∧ ∃ n, w' = w.drewN n := by
  have H := Lib.hid h
  clear h
  cases hok : okP len X
  · have Hf := Lib.hid (show -1 = segV len X x by rw [segV_out (by unfold segIn; rw [hok]; rfl)])
    go_enter Try.func29, Try.ntmps29
    go_wp2_with fail
    refine (specTab _ _ _ X _ hl H.out).mono ?_
    rintro e w1 ⟨rfl, n, rfl⟩
    rw [hok]
    go_wp2_with fail
    go_ret
    exact ⟨ret_int Hf.out, n, rfl⟩
  · have hb12 := okP_bounds hok
    obtain ⟨b, off, rfl, hlt, hcells⟩ := H.out.cells (by omega)
    have Hc := Lib.hid hcells
    obtain ⟨q0, _⟩ := hcells 0 (by omega)
    obtain ⟨q1, _⟩ := hcells (len - 1) (by omega)
    rw [show off + 0 * 2 = off by omega, show 0 * 2 = 0 from rfl] at q0
    obtain ⟨m, rfl⟩ : ∃ m, len = m + 2 := ⟨len - 2, by omega⟩
    rw [show m + 2 - 1 = m + 1 from rfl] at q1
    have hw1 : IntKind.i64.wrap (((m + 2 : Nat) : Int) - 1) = ((m + 1 : Nat) : Int) := by rw [IntKind.wrap_i64]; omega
    have hw2 : IntKind.i64.wrap ((m : Int) + 2 - 1) = (m : Int) + 1 := by rw [IntKind.wrap_i64]; omega
    obtain ⟨c1, e1⟩ : ∃ c, geB x (X 0) = c := ⟨_, rfl⟩
    obtain ⟨c2, e2⟩ : ∃ c, leB x (X ((m + 1) * 2)) = c := ⟨_, rfl⟩
    have Hi := Lib.hid (show segIn (m + 2) X x = (c1 && c2) by unfold segIn; rw [hok, show m + 2 - 1 = m + 1 from rfl, e1, e2]; rfl)
    have Hok := Lib.hid hok
    have f1 := e1
    have f2 := e2
    unfold geB at f1
    unfold leB at f2
    clear hcells e1 e2
    rcases (show c1 = false ∨ (c1 = true ∧ c2 = false) ∨ (c1 = true ∧ c2 = true) by cases c1 <;> cases c2 <;> simp) with rfl | ⟨rfl, rfl⟩ | ⟨rfl, rfl⟩
    iterate 2
      · have Hf := Lib.hid (show -1 = segV (m + 2) X x by rw [segV_out (by rw [Hi.out]; rfl)])
        go_enter Try.func29, Try.ntmps29
        go_wp2_with fail
        refine (specTab _ _ _ X _ hl H.out).mono ?_
        rintro e w1 ⟨rfl, n, rfl⟩
        rw [Hok.out]
        go_wp2_with fail
        go_ret
        exact ⟨ret_int Hf.out, n, rfl⟩
    · have Hf := Lib.hid (show segV (m + 2) X x = (segG X x m 0 : Int) by rw [segV_in (by rw [Hi.out]; rfl)]; rfl)
      go_enter Try.func29, Try.ntmps29
      go_wp2_with fail
      refine (specTab _ _ _ X _ hl H.out).mono ?_
      rintro e w1 ⟨rfl, n, rfl⟩
      rw [Hok.out]
      clear hok
      go_wp2_with fail
      go_loopw [5] (fun i wr => ∃ k j : Nat, i = .int .i64 k ∧ k ≤ m ∧ Hid (segG X x (m - k) k = segG X x m 0) ∧ wr = w.drewN j)
        (fun i _ => m + 1 - (intOf i).toNat)
      case atStart => exact ⟨0, n, rfl, Nat.zero_le _, Lib.hid rfl, rfl⟩
      case round =>
        obtain ⟨k, j, rfl, hk, hg, rfl⟩ := hrel
        by_cases hkm : k < m
        · have hkm' : (k : Int) + 2 < (m : Int) + 2 := by omega
          obtain ⟨r0, _⟩ := Hc.out (k + 1) (by omega)
          obtain ⟨c3, e3⟩ : ∃ c, leB (X ((k + 1) * 2)) x = c := ⟨_, rfl⟩
          have Hs := Lib.hid (show segG X x (m - k) k = if c3 = true then segG X x (m - (k + 1)) (k + 1) else k by
            rw [show m - k = (m - (k + 1)) + 1 by omega]
            show (if leB (X ((k + 1) * 2)) x = true then _ else _) = _
            rw [e3])
          unfold leB at e3
          cases c3
          · go_wp2_with fail
            go_ret
            exact ⟨ret_int (by rw [Hf.out, ← hg.out, Hs.out]; rfl), j, rfl⟩
          · go_wp2_with fail
            go_roundw
            case rel => exact ⟨k + 1, j, by go_num, hkm, Lib.hid (by rw [← hg.out, Hs.out]; rfl), rfl⟩
            case measure => simp [intOf]; omega
        · obtain rfl : k = m := by omega
          have hkm' : ¬ (k : Int) + 2 < (k : Int) + 2 := by omega
          go_wp2_with fail
          go_ret
          exact ⟨ret_int (by rw [Hf.out, ← hg.out, Nat.sub_self]; rfl), j, rfl⟩
end Go.Proofs.Ytbmojogohffhaaa.Pnt
