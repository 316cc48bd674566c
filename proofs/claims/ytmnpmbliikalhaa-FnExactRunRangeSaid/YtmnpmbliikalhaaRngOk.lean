/- Contracts of the model's and the program's checks of a list of ranges. -/
import Derived.Test.YtmnpmbliikalhaaRngOne
import Derived.BigQuiet
namespace Go.Proofs.Ytmnpmbliikalhaa.Rng
open Go.ChangeShapes Go.WideShapes Go.ChangeAt Go.RowKit Go.Proofs.Ytmnpmbliikalhaa Go.Proofs.Ytmnpmbliikalhaa.Flt Go.Proofs.Ytmnpmbliikalhaa.Mth
set_option linter.unusedVariables false
def okAt (X : Nat → Nat) (i : Nat) : Bool := isRB (X (i * 3)) (X (i * 3 + 1)) (X (i * 3 + 2)) && (i == 0 || isAB (X ((i - 1) * 3)) (X ((i - 1) * 3 + 2)) (X (i * 3)) (X (i * 3 + 1)))
def okB (n : Nat) (X : Nat → Nat) : Bool := decide (1 ≤ n ∧ n ≤ 12) && (List.range n).all (okAt X)
theorem okB_fail {n k : Nat} {X : Nat → Nat} (hk : k < n) (h : okAt X k = false) : false = okB n X := by
  symm
  unfold okB
  rw [Bool.and_eq_false_iff]
  right
  rw [List.all_eq_false]
  exact ⟨k, by simpa using hk, by rw [h]; simp⟩
theorem okB_all {n : Nat} {X : Nat → Nat} (h1 : 1 ≤ n) (h2 : n ≤ 12) (h : ∀ j, j < n → okAt X j = true) : true = okB n X := by
  symm
  unfold okB
  rw [decide_eq_true ⟨h1, h2⟩, Bool.true_and, List.all_eq_true]
  intro j hj
  exact h j (by simpa using hj)
theorem okB_out {n : Nat} {X : Nat → Nat} (h : ¬ (1 ≤ n ∧ n ≤ 12)) : false = okB n X := by
  unfold okB; rw [decide_eq_false h]; rfl
theorem okB_bounds {n : Nat} {X : Nat → Nat} (h : okB n X = true) : 1 ≤ n ∧ n ≤ 12 := by
  unfold okB at h
  rw [Bool.and_eq_true] at h
  exact of_decide_eq_true h.1
theorem okB_at {n : Nat} {X : Nat → Nat} (h : okB n X = true) {j : Nat} (hj : j < n) : okAt X j = true := by
  unfold okB at h
  rw [Bool.and_eq_true, List.all_eq_true] at h
  exact h.2 j (by simpa using hj)
theorem in_any (x lo hi : Int) (w : World) :
    Calls Try.prog 52 #[.int .i64 x, .int .i64 lo, .int .i64 hi] w fun e w' => e = .returned (.bool (decide (lo ≤ x ∧ x ≤ hi))) ∧ w' = w := by
  by_cases h : lo ≤ x
  · go_enter Try.func52, Try.ntmps52
    go_wp2
    go_ret
    exact ⟨ret_bool (by simp [h]), rfl⟩
  · go_enter Try.func52, Try.ntmps52
    go_wp2
    go_ret
    exact ⟨ret_bool (by rw [show decide (lo ≤ x) = false from decide_eq_false (by omega)]; rfl), rfl⟩
theorem specOk_out (a : Option Addr) (len cap : Nat) (w : World) (hl : len ≤ 1048576) (h : ¬ (1 ≤ len ∧ len ≤ 12)) :
    Calls Try.prog 26 #[.slice a len cap] w fun e w' => e = .returned (.bool false) ∧ w' = w := by
  have hd : decide ((1 : Int) ≤ (len : Int) ∧ (len : Int) ≤ 12) = false := decide_eq_false (by omega)
  go_enter Try.func26, Try.ntmps26
  go_wp2_with fail
  refine (in_any _ _ _ _).mono ?_
  rintro e w ⟨rfl, rfl⟩
  rw [hd]
  go_wp2_with fail
  go_ret
  exact ⟨rfl, rfl⟩
theorem implOk_out (a : Option Addr) (len cap : Nat) (w : World) (hl : len ≤ 1048576) (h : ¬ (1 ≤ len ∧ len ≤ 12)) :
    Calls Try.prog 47 #[.slice a len cap] w fun e w' => e = .returned (.bool false) ∧ w' = w := by
  by_cases h1 : len < 1
  · go_enter Try.func47, Try.ntmps47
    go_wp2
    go_ret
    exact ⟨rfl, rfl⟩
  · have h2 : 12 < len := by omega
    go_enter Try.func47, Try.ntmps47
    go_wp2
    go_ret
    exact ⟨rfl, rfl⟩
set_option maxHeartbeats 1600000 in
theorem specOk_in (b off len cap : Nat) (X : Nat → Nat) (w : World) (l1 : 1 ≤ len) (l2 : len ≤ 12) (hb : b < w.heap.size) (h1 : Cells w b off len X) :
    Calls Try.prog 26 #[.slice (some ⟨b, off, none⟩) len cap] w fun e w' => e = .returned (.bool (okB len X)) ∧ Below w.heap.size w w' := by
  have H1 := Lib.hid h1
  clear h1
  have hd : decide ((1 : Int) ≤ (len : Int) ∧ (len : Int) ≤ 12) = true := decide_eq_true (by omega)
  have Hst := Lib.hid (Below.refl w.heap.size w)
  generalize hB : w.heap.size = B at *
  go_enter Try.func26, Try.ntmps26
  go_wp2_with fail
  refine (in_any _ _ _ _).mono ?_
  rintro e w ⟨rfl, rfl⟩
  rw [hd]
  go_wp2_with fail
  go_loopw [3] (fun i wr => ∃ k : Nat, i = .int .i64 k ∧ k ≤ len ∧ Below B w wr ∧ ∀ j, j < k → okAt X j = true)
    (fun i _ => len - (intOf i).toNat)
  case atStart => exact ⟨0, rfl, Nat.zero_le _, Hst.out, fun j hj => absurd hj (Nat.not_lt_zero _)⟩
  case round =>
    obtain ⟨k, rfl, hk, hbel, hall⟩ := hrel
    have Hall := Lib.hid hall
    clear hall
    by_cases hkl : k < len
    · have Hbel := Lib.hid hbel
      obtain ⟨a0, a1, a2⟩ := (H1.out.keep hb Hbel.out) k hkl
      have hsz : B ≤ wr.heap.size := by rw [← hB]; exact hbel.size
      have HB := Lib.hid ((hbel.alloc hsz (.cells #[.float .f32 (X (k * 3)), .float .f32 (X (k * 3 + 1)), .float .f32 (X (k * 3 + 2))] 37)))
      have k1 := fun w => run_widX (P := Try.prog) 25 35 (X (k * 3)) (by rw [Try.underlying25]; rfl) Try.underlying35 w
      obtain ⟨c1, e1⟩ : ∃ c, geB (X (k * 3 + 1)) 0 = c := ⟨_, rfl⟩
      obtain ⟨c2, e2⟩ : ∃ c, gtB (X (k * 3 + 2)) (X (k * 3 + 1)) = c := ⟨_, rfl⟩
      obtain ⟨c3, e3⟩ : ∃ c, geB (X (k * 3)) (X (k * 3 + 2)) = c := ⟨_, rfl⟩
      obtain ⟨c4, e4⟩ : ∃ c, geB (X (k * 3)) 228737632 = c := ⟨_, rfl⟩
      have Hf := Lib.hid (show (c1 && c2 && c3 && c4 && finB (X (k * 3))) = isRB (X (k * 3)) (X (k * 3 + 1)) (X (k * 3 + 2)) by unfold isRB; rw [e1, e2, e3, e4])
      unfold geB at e1 e3 e4
      unfold gtB at e2
      clear hbel
      rcases (show c1 = false ∨ (c1 = true ∧ c2 = false) ∨ (c1 = true ∧ c2 = true ∧ c3 = false) ∨ (c1 = true ∧ c2 = true ∧ c3 = true ∧ c4 = false) ∨ (c1 = true ∧ c2 = true ∧ c3 = true ∧ c4 = true) by cases c1 <;> cases c2 <;> cases c3 <;> cases c4 <;> simp) with rfl | ⟨rfl, rfl⟩ | ⟨rfl, rfl, rfl⟩ | ⟨rfl, rfl, rfl, rfl⟩ | ⟨rfl, rfl, rfl, rfl⟩
      iterate 4
        · have Hno := Lib.hid (okB_fail (X := X) hkl (by unfold okAt; rw [← Hf.out]; rfl))
          go_wp2
          go_ret
          exact ⟨ret_bool Hno.out, HB.out⟩
      · go_wp2_with fail
        refine (fineS_any _ _).mono ?_
        rintro e w1 ⟨rfl, n, rfl⟩
        rw [isFin_wid (widX_wid (X (k * 3)) _)]
        cases c5 : finB (X (k * 3))
        · have Hno := Lib.hid (okB_fail (X := X) hkl (by unfold okAt; rw [← Hf.out, c5]; rfl))
          go_wp2_with fail
          go_ret
          exact ⟨ret_bool Hno.out, below_drewN HB.out _⟩
        · have HR := Lib.hid (show isRB (X (k * 3)) (X (k * 3 + 1)) (X (k * 3 + 2)) = true by rw [← Hf.out, c5]; rfl)
          clear Hf c5 k1
          rcases k with _ | m
          · go_wp2_with fail
            go_quiet (fail)
            go_wp2
            go_roundw
            case rel => exact ⟨1, by go_num, by omega, below_drewN HB.out _, fun j hj => by
              obtain rfl : j = 0 := by omega
              unfold okAt
              rw [HR.out]; rfl⟩
            case measure => simp [intOf]; omega
          · obtain ⟨b0, b1, b2⟩ := (H1.out.keep hb HB.out) m (by omega)
            obtain ⟨c6, e6⟩ : ∃ c, gtB (X ((m + 1) * 3)) (X (m * 3)) = c := ⟨_, rfl⟩
            obtain ⟨c7, e7⟩ : ∃ c, leB (X ((m + 1) * 3 + 1)) (X (m * 3 + 2)) = c := ⟨_, rfl⟩
            have HA := Lib.hid (show (c6 && c7) = isAB (X (m * 3)) (X (m * 3 + 2)) (X ((m + 1) * 3)) (X ((m + 1) * 3 + 1)) by unfold isAB; rw [e6, e7])
            unfold gtB at e6
            unfold leB at e7
            have hpos : decide ((0 : Int) < (m : Int) + 1) = true := decide_eq_true (by omega)
            have hw0 : IntKind.i64.wrap (m : Int) = (m : Int) := by rw [IntKind.wrap_i64]; omega
            have hw1 : IntKind.i64.wrap ((m : Int) + 1 - 1) = (m : Int) := by rw [IntKind.wrap_i64]; omega
            have hml : m < len := by omega
            cases c6
            · have Hno := Lib.hid (okB_fail (X := X) hkl (by
                unfold okAt
                rw [show (m + 1 == 0) = false from rfl, HR.out, show m + 1 - 1 = m from rfl, ← HA.out]; rfl))
              go_wp2_with fail
              go_quiet (fail)
              go_wp2
              go_ret
              exact ⟨ret_bool Hno.out, below_drewN (below_drewN HB.out _) _⟩
            · cases c7
              · have Hno := Lib.hid (okB_fail (X := X) hkl (by
                  unfold okAt
                  rw [show (m + 1 == 0) = false from rfl, HR.out, show m + 1 - 1 = m from rfl, ← HA.out]; rfl))
                go_wp2_with fail
                go_quiet (fail)
                go_wp2
                go_ret
                exact ⟨ret_bool Hno.out, below_drewN (below_drewN HB.out _) _⟩
              · have Hyes := Lib.hid (show okAt X (m + 1) = true by
                  unfold okAt
                  rw [show (m + 1 == 0) = false from rfl, HR.out, show m + 1 - 1 = m from rfl, ← HA.out]; rfl)
                go_wp2_with fail
                go_quiet (fail)
                go_wp2
                go_roundw
                case rel => exact ⟨m + 1 + 1, by go_num, by omega, below_drewN HB.out _, fun j hj => by
                  by_cases e : j = m + 1
                  · rw [e]; exact Hyes.out
                  · exact Hall.out j (by omega)⟩
                case measure => simp [intOf]; omega
    · obtain rfl : k = len := by omega
      have Hbel := Lib.hid hbel
      clear hbel
      go_wp2
      go_ret
      exact ⟨ret_bool (okB_all l1 l2 Hall.out), Hbel.out⟩
end Go.Proofs.Ytmnpmbliikalhaa.Rng
