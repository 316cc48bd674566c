/- Tables of points: the pure check; the model's TableOk. -/
import Derived.Test.YtbmojogohffhaaaPntArg
import Derived.Test.YtbmojogohffhaaaFltV
import Derived.Test.YtbmojogohffhaaaFltG
import Derived.Test.YtbmojogohffhaaaFltM
import Derived.BigQuiet
import Derived.Deep.QuietTactic
namespace Go.Proofs.Ytbmojogohffhaaa.Pnt
open Go.ChangeShapes Go.WideShapes Go.ChangeAt Go.RowKit Go.Proofs.Ytbmojogohffhaaa Go.Proofs.Ytbmojogohffhaaa.Flt Go.Proofs.Ytbmojogohffhaaa.Mth
open Ieee (single double)
set_option linter.unusedVariables false
def gtB (x y : Nat) : Bool := FloatKind.f32.format.order x y == some .gt
def ltB (x y : Nat) : Bool := FloatKind.f32.format.order x y == some .lt
def geB (x y : Nat) : Bool := FloatKind.f32.format.order x y == some .gt || FloatKind.f32.format.order x y == some .eq
def leB (x y : Nat) : Bool := FloatKind.f32.format.order x y == some .lt || FloatKind.f32.format.order x y == some .eq
def eqB (x y : Nat) : Bool := FloatKind.f32.format.order x y == some .eq
def finB (x : Nat) : Bool := decide (rung single x < single.infRung)
theorem fin_num {x : Nat} (h : finB x = true) : isNaN single x = false := by
  have := of_decide_eq_true h
  exact decide_eq_false (by omega)
theorem isFin_wid {x r : Nat} (h : Wid x r) : isFinD r = finB x := by
  unfold finB
  cases nx : isNaN single x
  · rw [h.2.2 nx, isFin_widen]
  · rw [isFin_nan (by rw [h.2.1, nx])]
    have := of_decide_eq_true nx
    exact (decide_eq_false (by omega)).symm
/-- the difference of two singles; 0 if there is none -/
def subB (a b : Nat) : Nat := (floatBits .sub .f32 a b).getD 0
theorem sub_fin {a b : Nat} (ha : finB a = true) (hb : finB b = true) : floatBits .sub .f32 a b = some (subB a b) := by
  have h : ∃ r, floatBits .sub .f32 a b = some r := by
    show ∃ r, Ieee.Format.sub single a b = some r
    unfold Ieee.Format.sub
    rw [reads_fin single (of_decide_eq_true ha), reads_fin single (of_decide_eq_true hb)]
    exact ⟨_, rfl⟩
  obtain ⟨r, hr⟩ := h
  unfold subB
  rw [hr]; rfl
theorem subB_num {a b : Nat} (ha : finB a = true) (hb : finB b = true) : isNaN single (subB a b) = false := bits_num (k := .f32) (sub_fin ha hb)
theorem subB_wf {a b : Nat} (ha : finB a = true) (hb : finB b = true) : (Lit.float .f32 (subB a b)).wf = true := floatBits_wf (sub_fin ha hb)
theorem fineS_any (a : Nat) (w : World) :
    Calls Try.prog 60 #[.float .f64 a] w fun e w' => e = .returned (.bool (isFinD a)) ∧ ∃ n, w' = w.drewN n := by
  obtain ⟨r, n, wr, hr, kr⟩ := run_float_any (P := Try.prog) .sub (.inr (.inl rfl)) 47 .f64 a a w
  have heq := eq64 r 0
  have hf : eqW Ieee.double r 0 = isFinD a := by
    cases h : isFinD a
    · rw [sub_nofin h] at hr
      rcases hr with hr | ⟨_, hr⟩
      · cases hr
      · exact eqW_nan _ (by rw [show isNaN Ieee.double r = true from hr]; rfl)
    · rw [sub_self h] at hr
      rcases hr with hr | ⟨hr, _⟩
      · cases hr; decide
      · cases hr
  rw [hf] at heq
  clear hf hr wr
  go_enter Try.func60, Try.ntmps60
  go_wp2
  go_ret
  exact ⟨rfl, n, rfl⟩
/-- one point may stand behind another -/
def isAB (x y x' y' : Nat) : Bool := !leB x x' && finB (subB x x') && finB (subB y y')
def okPt (X : Nat → Nat) (i : Nat) : Bool := finB (X (i * 2)) && finB (X (i * 2 + 1)) && (i == 0 || isAB (X (i * 2)) (X (i * 2 + 1)) (X ((i - 1) * 2)) (X ((i - 1) * 2 + 1)))
/-- the table is valid -/
def okP (n : Nat) (X : Nat → Nat) : Bool := decide (2 ≤ n ∧ n ≤ 32) && (List.range n).all (okPt X)
theorem okP_fail {n k : Nat} {X : Nat → Nat} (hk : k < n) (h : okPt X k = false) : false = okP n X := by
  symm
  unfold okP
  rw [Bool.and_eq_false_iff]
  right
  rw [List.all_eq_false]
  exact ⟨k, by simpa using hk, by rw [h]; simp⟩
theorem okP_all {n : Nat} {X : Nat → Nat} (h1 : 2 ≤ n) (h2 : n ≤ 32) (h : ∀ j, j < n → okPt X j = true) : true = okP n X := by
  symm
  unfold okP
  rw [decide_eq_true ⟨h1, h2⟩, Bool.true_and, List.all_eq_true]
  intro j hj
  exact h j (by simpa using hj)
theorem okP_out {n : Nat} {X : Nat → Nat} (h : ¬ (2 ≤ n ∧ n ≤ 32)) : false = okP n X := by
  unfold okP; rw [decide_eq_false h]; rfl
theorem okP_bounds {n : Nat} {X : Nat → Nat} (h : okP n X = true) : 2 ≤ n ∧ n ≤ 32 := by
  unfold okP at h
  rw [Bool.and_eq_true] at h
  exact of_decide_eq_true h.1
theorem okP_at {n : Nat} {X : Nat → Nat} (h : okP n X = true) {j : Nat} (hj : j < n) : okPt X j = true := by
  unfold okP at h
  rw [Bool.and_eq_true, List.all_eq_true] at h
  exact h.2 j (by simpa using hj)
theorem okPt_fin {X : Nat → Nat} {i : Nat} (h : okPt X i = true) : finB (X (i * 2)) = true ∧ finB (X (i * 2 + 1)) = true := by
  unfold okPt at h
  rw [Bool.and_eq_true, Bool.and_eq_true] at h
  exact h.1
theorem in_any (x lo hi : Int) (w : World) :
    Calls Try.prog 59 #[.int .i64 x, .int .i64 lo, .int .i64 hi] w fun e w' => e = .returned (.bool (decide (lo ≤ x ∧ x ≤ hi))) ∧ w' = w := by
  by_cases h : lo ≤ x
  · go_enter Try.func59, Try.ntmps59
    go_wp2
    go_ret
    exact ⟨ret_bool (by simp [h]), rfl⟩
  · go_enter Try.func59, Try.ntmps59
    go_wp2
    go_ret
    exact ⟨ret_bool (by rw [show decide (lo ≤ x) = false from decide_eq_false (by omega)]; rfl), rfl⟩
theorem specTab_out (a : Option Addr) (len cap : Nat) (w : World) (hl : len ≤ 1048576) (h : ¬ (2 ≤ len ∧ len ≤ 32)) :
    Calls Try.prog 26 #[.slice a len cap] w fun e w' => e = .returned (.bool false) ∧ w' = w := by
  have hd : decide ((2 : Int) ≤ (len : Int) ∧ (len : Int) ≤ 32) = false := decide_eq_false (by omega)
  go_enter Try.func26, Try.ntmps26
  go_wp2_with fail
  refine (in_any _ _ _ _).mono ?_
  rintro e w ⟨rfl, rfl⟩
  rw [hd]
  go_wp2_with fail
  go_ret
  exact ⟨rfl, rfl⟩
theorem conv_num {r : Nat} (h : isNaN single r = false) (w : World) : (convert 25 47 (.float .f32 r)).run Try.prog w = .ok (.float .f64 (widen r)) w :=
  run_widen 25 47 r (by rw [Try.underlying25]; rfl) Try.underlying47 h w
theorem fine_num {r : Nat} {c : Bool} (h : finB r = c) (hn : isNaN single r = false) (w : World) :
    Calls Try.prog 60 #[.float .f64 (widen r)] w fun e w' => e = .returned (.bool c) ∧ ∃ n, w' = w.drewN n := by
  have := fineS_any (widen r) w
  rw [isFin_wid ⟨widen_wl r, isNaN_widen r |>.trans hn.symm, fun _ => rfl⟩, h] at this
  exact this
set_option maxRecDepth 100000 in
set_option maxHeartbeats 1600000 in
theorem specTab_in (b off len cap : Nat) (X : Nat → Nat) (w : World) (l1 : 2 ≤ len) (l2 : len ≤ 32) (hb : b < w.heap.size) (h1 : Cells w b off len X) :
    Calls Try.prog 26 #[.slice (some ⟨b, off, none⟩) len cap] w fun e w' => e = .returned (.bool (okP len X)) ∧ ∃ n, w' = w.drewN n := by
  have H1 := Lib.hid h1
  clear h1
  have hd : decide ((2 : Int) ≤ (len : Int) ∧ (len : Int) ≤ 32) = true := decide_eq_true (by omega)
  go_enter Try.func26, Try.ntmps26
  go_wp2_with fail
  refine (in_any _ _ _ _).mono ?_
  rintro e w ⟨rfl, rfl⟩
  rw [hd]
  go_wp2_with fail
  go_loopw [3] (fun i wr => ∃ k m : Nat, i = .int .i64 k ∧ k ≤ len ∧ wr = w.drewN m ∧ ∀ j, j < k → okPt X j = true)
    (fun i _ => len - (intOf i).toNat)
  case atStart => exact ⟨0, 0, rfl, Nat.zero_le _, rfl, fun j hj => absurd hj (Nat.not_lt_zero _)⟩
  case round =>
    obtain ⟨k, m0, rfl, hk, rfl, hall⟩ := hrel
    have Hall := Lib.hid hall
    clear hall
    by_cases hkl : k < len
    · obtain ⟨a0, a1⟩ := H1.out k hkl
      have k1 := fun w => run_widX (P := Try.prog) 25 47 (X (k * 2)) (by rw [Try.underlying25]; rfl) Try.underlying47 w
      have k2 := fun w => run_widX (P := Try.prog) 25 47 (X (k * 2 + 1)) (by rw [Try.underlying25]; rfl) Try.underlying47 w
      go_wp2_with fail
      refine (fineS_any _ _).mono ?_
      rintro e w1 ⟨rfl, n1, rfl⟩
      rw [isFin_wid (widX_wid (X (k * 2)) _)]
      cases c1 : finB (X (k * 2))
      · have Hno := Lib.hid (okP_fail (X := X) hkl (by unfold okPt; rw [c1]; rfl))
        go_wp2_with fail
        go_ret
        exact ⟨ret_bool Hno.out, _, rfl⟩
      · go_wp2_with fail
        refine (fineS_any _ _).mono ?_
        rintro e w1 ⟨rfl, n2, rfl⟩
        rw [isFin_wid (widX_wid (X (k * 2 + 1)) _)]
        cases c2 : finB (X (k * 2 + 1))
        · have Hno := Lib.hid (okP_fail (X := X) hkl (by unfold okPt; rw [c1, c2]; rfl))
          go_wp2_with fail
          go_ret
          exact ⟨ret_bool Hno.out, _, rfl⟩
        · clear k1 k2
          rcases k with _ | m
          · have Hyes := Lib.hid (show okPt X 0 = true by unfold okPt; rw [c1, c2]; rfl)
            go_wp2_with fail
            go_roundw
            case rel => exact ⟨1, _, by go_num, by omega, rfl, fun j hj => by
              obtain rfl : j = 0 := by omega
              exact Hyes.out⟩
            case measure => simp [intOf]; omega
          · obtain ⟨b0, b1⟩ := H1.out m (by omega)
            obtain ⟨d1, d2⟩ := okPt_fin (Hall.out m (by omega))
            have ks := fun W => run_float_arith (P := Try.prog) W .sub 25 .f32 _ _ _ (sub_fin c1 d1)
            have kt := fun W => run_float_arith (P := Try.prog) W .sub 25 .f32 _ _ _ (sub_fin c2 d2)
            have ns := subB_num c1 d1
            have nt := subB_num c2 d2
            obtain ⟨c3, e3⟩ : ∃ c, leB (X ((m + 1) * 2)) (X (m * 2)) = c := ⟨_, rfl⟩
            obtain ⟨c4, e4⟩ : ∃ c, finB (subB (X ((m + 1) * 2)) (X (m * 2))) = c := ⟨_, rfl⟩
            obtain ⟨c5, e5⟩ : ∃ c, finB (subB (X ((m + 1) * 2 + 1)) (X (m * 2 + 1))) = c := ⟨_, rfl⟩
            have Hok := Lib.hid (show okPt X (m + 1) = (!c3 && c4 && c5) by
              unfold okPt isAB
              rw [c1, c2, show (m + 1 == 0) = false from rfl, show m + 1 - 1 = m from rfl, e3, e4, e5]; simp)
            have cs := fun W => fine_num e4 ns W
            have ct := fun W => fine_num e5 nt W
            have kcs := fun W => conv_num ns W
            have kct := fun W => conv_num nt W
            unfold leB at e3
            have hw0 : IntKind.i64.wrap (m : Int) = (m : Int) := by rw [IntKind.wrap_i64]; omega
            have hw1 : IntKind.i64.wrap ((m : Int) + 1 - 1) = (m : Int) := by rw [IntKind.wrap_i64]; omega
            have hml : m < len := by omega
            clear e4 e5 ns nt c1 c2 d1 d2
            rcases (show c3 = true ∨ (c3 = false ∧ c4 = false) ∨ (c3 = false ∧ c4 = true ∧ c5 = false) ∨ (c3 = false ∧ c4 = true ∧ c5 = true) by cases c3 <;> cases c4 <;> cases c5 <;> simp) with rfl | ⟨rfl, rfl⟩ | ⟨rfl, rfl, rfl⟩ | ⟨rfl, rfl, rfl⟩
            iterate 3
              · have Hno := Lib.hid (okP_fail (X := X) hkl (by rw [Hok.out]; rfl))
                go_wp2_with fail
                go_quiet (fail)
                go_wp2_with fail
                go_quiet (fail)
                go_wp2_with fail
                go_quiet ((go_at_call 60; rename_i n0; first | exact (cs _).mono (fun e w' ⟨he, n, hn⟩ => ⟨he, n0 + n, by rw [hn]; simp only [World.drewN_drewN, Nat.add_assoc]⟩) | exact (ct _).mono (fun e w' ⟨he, n, hn⟩ => ⟨he, n0 + n, by rw [hn]; simp only [World.drewN_drewN, Nat.add_assoc]⟩)))
                go_wp2_with fail
                go_ret
                exact ⟨ret_bool Hno.out, _, by first | rfl | (simp only [World.drewN_drewN]; rfl)⟩
            · have Hyes := Lib.hid (show okPt X (m + 1) = true by rw [Hok.out]; rfl)
              go_wp2_with fail
              go_quiet (fail)
              go_wp2_with fail
              go_quiet (fail)
              go_wp2_with fail
              go_quiet ((go_at_call 60; rename_i n0; first | exact (cs _).mono (fun e w' ⟨he, n, hn⟩ => ⟨he, n0 + n, by rw [hn]; simp only [World.drewN_drewN, Nat.add_assoc]⟩) | exact (ct _).mono (fun e w' ⟨he, n, hn⟩ => ⟨he, n0 + n, by rw [hn]; simp only [World.drewN_drewN, Nat.add_assoc]⟩)))
              go_wp2_with fail
              go_roundw
              case rel => exact ⟨m + 1 + 1, _, by go_num, by omega, by first | rfl | (simp only [World.drewN_drewN]; rfl), fun j hj => by
                by_cases e : j = m + 1
                · rw [e]; exact Hyes.out
                · exact Hall.out j (by omega)⟩
              case measure => simp [intOf]; omega
    · obtain rfl : k = len := by omega
      go_wp2
      go_ret
      exact ⟨ret_bool (okP_all l1 l2 Hall.out), m0, rfl⟩
theorem specTab (a : Option Addr) (len cap : Nat) (X : Nat → Nat) (w : World) (hl : len ≤ 1048576) (h : Lst w a len X) :
    Calls Try.prog 26 #[.slice a len cap] w fun e w' => e = .returned (.bool (okP len X)) ∧ ∃ n, w' = w.drewN n := by
  by_cases hn : 2 ≤ len ∧ len ≤ 32
  · obtain ⟨b, off, rfl, hlt, hc⟩ := h.cells (by omega)
    exact specTab_in b off len cap X w hn.1 hn.2 hlt hc
  · refine (specTab_out a len cap w hl hn).mono ?_
    rintro e w ⟨rfl, rfl⟩
    exact ⟨ret_bool (okP_out hn), 0, rfl⟩
end Go.Proofs.Ytbmojogohffhaaa.Pnt
