/- Amounts in the model and in the program; whether a list has a range; one step. -/
import Derived.Test.YtmnpmbliikalhaaRngArg
import Derived.Deep.RegionWith
namespace Go.Proofs.Ytmnpmbliikalhaa.Rng
open Go.ChangeShapes Go.WideShapes Go.ChangeAt Go.RowKit Go.Proofs.Ytmnpmbliikalhaa Go.Proofs.Ytmnpmbliikalhaa.Flt Go.Proofs.Ytmnpmbliikalhaa.Mth
set_option linter.unusedVariables false
def amtS (x : Nat) : Nat := if ltB x 0 = true then Op.negFloat .f32 x else x
def ltA (x y : Nat) : Bool := ltB (amtS x) y
def gtA (x y : Nat) : Bool := gtB (amtS x) y
def leA (x y : Nat) : Bool := leB (amtS x) y
/-- two words that compare alike -/
def Alike (v u : Nat) : Prop := isNaN Ieee.single v = isNaN Ieee.single u ∧ (isNaN Ieee.single v = false → sv Ieee.single v = sv Ieee.single u)
theorem Alike.lt {v u : Nat} (h : Alike v u) (y : Nat) : ltB v y = ltB u y := by
  unfold ltB
  rw [lt32, lt32]
  unfold ltW
  rw [← h.1]
  cases hn : isNaN Ieee.single v
  · rw [h.2 hn]
  · rfl
theorem Alike.gt {v u : Nat} (h : Alike v u) (y : Nat) : gtB v y = gtB u y := by
  unfold gtB
  rw [gt32, gt32]
  unfold ltW
  rw [← h.1]
  cases hn : isNaN Ieee.single v
  · rw [h.2 hn]
  · simp
theorem Alike.eq {v u : Nat} (h : Alike v u) (y : Nat) : eqW Ieee.single v y = eqW Ieee.single u y := by
  unfold eqW
  rw [← h.1]
  cases hn : isNaN Ieee.single v
  · rw [h.2 hn]
  · rfl
theorem Alike.le {v u : Nat} (h : Alike v u) (y : Nat) : leB v y = leB u y := by
  have h1 := h.lt y
  unfold ltB at h1
  unfold leB
  rw [h1, eq32, eq32, h.eq y]
theorem amtS_any (x : Nat) (w : World) :
    Calls Try.prog 56 #[.float .f32 x] w fun e w' => e = .returned (.float .f32 (amtS x)) ∧ w' = w := by
  obtain ⟨c, hc⟩ : ∃ c, ltB x 0 = c := ⟨_, rfl⟩
  have Hf := Lib.hid (show (if c = true then Op.negFloat .f32 x else x) = amtS x by unfold amtS; rw [hc])
  unfold ltB at hc
  cases c
  · go_enter Try.func56, Try.ntmps56
    go_wp2
    go_ret
    exact ⟨by rw [← Hf.out]; rfl, rfl⟩
  · go_enter Try.func56, Try.ntmps56
    go_wp2
    go_ret
    exact ⟨by rw [← Hf.out]; rfl, rfl⟩
theorem amt_nan {x : Nat} (h : isNaN Ieee.single x = true) : amtS x = x := by
  unfold amtS ltB
  rw [lt32]
  unfold ltW
  rw [h]; rfl
theorem lt_zero {x : Nat} (h : isNaN Ieee.single x = false) : ltB x 0 = decide (sv Ieee.single x < 0) := by
  unfold ltB
  rw [lt32]
  unfold ltW
  rw [h, nan_zero, sv_zero]; rfl
theorem alike_pos {x : Nat} (h : isNaN Ieee.single x = false) (hs : sgn Ieee.single x = false) : Alike x (amtS x) := by
  have : amtS x = x := by
    unfold amtS
    rw [lt_zero h, if_neg]
    intro e
    have := of_decide_eq_true e
    unfold sv at this
    rw [hs] at this
    simp at this
    omega
  rw [this]; exact ⟨rfl, fun _ => rfl⟩
theorem alike_neg {x : Nat} (wx : (Lit.float .f32 x).wf = true) (h : isNaN Ieee.single x = false) (hs : sgn Ieee.single x = true) : Alike (Op.negFloat .f32 x) (amtS x) := by
  have hx := lt_single' wx
  unfold amtS
  rw [lt_zero h]
  by_cases h0 : sv Ieee.single x < 0
  · rw [decide_eq_true h0, if_pos rfl]; exact ⟨rfl, fun _ => rfl⟩
  · rw [decide_eq_false h0, if_neg (by simp)]
    have hz : sv Ieee.single x = 0 := by
      unfold sv at h0 ⊢
      rw [hs] at h0 ⊢
      simp at h0 ⊢
      omega
    refine ⟨isNaN_neg .f32 hx, fun _ => ?_⟩
    rw [show sv Ieee.single (Op.negFloat .f32 x) = _ from sv_neg .f32 hx]
    show - sv Ieee.single x = _
    rw [hz]; rfl
theorem neg_wf {x : Nat} (wx : (Lit.float .f32 x).wf = true) : (Lit.float .f32 (Op.negFloat .f32 x)).wf = true := by
  have h := neg_lt .f32 (w := x) (lt_single' wx)
  exact wf_single (by rw [← width_single]; exact h)
theorem amtI_any (x : Nat) (wx : (Lit.float .f32 x).wf = true) (w : World) :
    Calls Try.prog 64 #[.float .f32 x] w fun e w' => ∃ v, e = .returned (.float .f32 v) ∧ Alike v (amtS x) ∧ Below w.heap.size w w' := by
  have k1 := fun w => run_widX (P := Try.prog) 25 35 x (by rw [Try.underlying25]; rfl) Try.underlying35 w
  have HB := Lib.hid (Below.refl w.heap.size w)
  go_enter Try.func64, Try.ntmps64
  go_wp2_with fail
  refine (signbit_any _ _ (widX_wid x _).1).mono ?_
  rintro e w1 ⟨rfl, rfl⟩
  have hn := (widX_wid x w).2.1
  have hv := (widX_wid x w).2.2
  obtain ⟨r, hr⟩ : ∃ r, widX x w = r := ⟨_, rfl⟩
  rw [hr] at hn hv
  obtain ⟨s, hs⟩ : ∃ s, sgn Ieee.double r = s := ⟨_, rfl⟩
  have H1 := Lib.hid (show s = false → Alike x (amtS x) from fun e => by
    subst e
    cases nx : isNaN Ieee.single x
    · refine alike_pos nx ?_
      rw [← sgn_widen, ← hv nx, hs]
    · rw [amt_nan nx]; exact ⟨rfl, fun _ => rfl⟩)
  have H2 := Lib.hid (show s = true → Alike (Op.negFloat .f32 x) (amtS x) from fun e => by
    subst e
    cases nx : isNaN Ieee.single x
    · refine alike_neg wx nx ?_
      rw [← sgn_widen, ← hv nx, hs]
    · rw [amt_nan nx]
      have h3 : isNaN Ieee.single (Op.negFloat .f32 x) = true := by rw [← nx]; exact isNaN_neg .f32 (lt_single' wx)
      exact ⟨h3.trans nx.symm, fun h => by rw [h3] at h; cases h⟩)
  clear hn hv
  rw [hr, hs]
  clear hs hr k1
  cases s
  · go_wp2_with fail
    go_ret
    exact ⟨_, rfl, H1.out trivial, below_drewN HB.out _⟩
  · go_wp2_with fail
    go_ret
    exact ⟨_, rfl, H2.out trivial, below_drewN HB.out _⟩
def hasB (len : Nat) (X : Nat → Nat) (k : Int) : Bool := okB len X && decide (0 ≤ k ∧ k < (len : Int))
theorem hasB_at {len : Nat} {X : Nat → Nat} {k : Int} (h : hasB len X k = true) : okB len X = true ∧ ∃ m : Nat, k = (m : Int) ∧ m < len := by
  unfold hasB at h
  rw [Bool.and_eq_true] at h
  have := of_decide_eq_true h.2
  exact ⟨h.1, k.toNat, by omega, by omega⟩
theorem shows_any (f d u x : Nat) (wx : (Lit.float .f32 x).wf = true) (w : World) :
    Calls Try.prog 51 #[.agg #[.float .f32 f, .float .f32 d, .float .f32 u], .float .f32 x] w fun e w' => e = .returned (.bool (leA x f)) ∧ Below w.heap.size w w' := by
  have HB := Lib.hid ((Below.refl w.heap.size w).alloc (Nat.le_refl _) (.cells #[.float .f32 f, .float .f32 d, .float .f32 u] 37))
  have hsz : w.heap.size ≤ (w.alloc (.cells #[.float .f32 f, .float .f32 d, .float .f32 u] 37)).drew.heap.size := HB.out.drew.size
  have hown := cell_of_row (w.alloc (.cells #[.float .f32 f, .float .f32 d, .float .f32 u] 37)).drew w.heap.size 0 #[.float .f32 f, .float .f32 d, .float .f32 u] 37 (0, 0) (block_new w _)
  have hlt : w.heap.size < (w.alloc (.cells #[.float .f32 f, .float .f32 d, .float .f32 u] 37)).drew.heap.size := by rw [show (w.alloc (.cells #[.float .f32 f, .float .f32 d, .float .f32 u] 37)).drew.heap.size = (w.alloc (.cells #[.float .f32 f, .float .f32 d, .float .f32 u] 37)).heap.size from rfl, sz_alloc]; omega
  have Hown := Lib.hid hown
  clear hown
  go_enter Try.func51, Try.ntmps51
  go_wp2_with fail
  go_region_with (go_at_call 64; refine (amtI_any x wx _).mono ?_; rintro e w1 ⟨v, rfl, hA, hb⟩; have Hb := Lib.hid (HB.out.drew.trans (hb.mono hsz)); have hc := (hb.cell (p := ⟨w.heap.size, 0, none⟩) hlt).trans Hown.out; have HA := Lib.hid (hA.le f); clear hb hA)
  all_goals
    go_wp2
    go_ret
    exact ⟨ret_bool HA.out, Hb.out⟩
theorem has_any (a : Option Addr) (len cap : Nat) (X : Nat → Nat) (k : Int) (w : World) (hl : len ≤ 1048576) (h : Lst w a len X) :
    Calls Try.prog 48 #[.slice a len cap, .int .i64 k] w fun e w' => e = .returned (.bool (hasB len X k)) ∧ Below w.heap.size w w' := by
  have H := Lib.hid h
  clear h
  obtain ⟨c, hc⟩ : ∃ c, okB len X = c := ⟨_, rfl⟩
  have Hf := Lib.hid (show (c && decide (0 ≤ k ∧ k < (len : Int))) = hasB len X k by unfold hasB; rw [hc])
  cases c
  · go_enter Try.func48, Try.ntmps48
    go_wp2_with fail
    refine (implOk _ _ _ X _ hl H.out).mono ?_
    rintro e w1 ⟨rfl, hb⟩
    have Hb := Lib.hid hb
    clear hb
    rw [hc]
    go_wp2_with fail
    go_ret
    exact ⟨ret_bool (by rw [← Hf.out]; rfl), Hb.out⟩
  · by_cases h0 : 0 ≤ k
    · go_enter Try.func48, Try.ntmps48
      go_wp2_with fail
      refine (implOk _ _ _ X _ hl H.out).mono ?_
      rintro e w1 ⟨rfl, hb⟩
      have Hb := Lib.hid hb
      clear hb
      rw [hc]
      go_wp2_with fail
      go_ret
      exact ⟨ret_bool (by rw [← Hf.out]; simp [h0]), Hb.out⟩
    · go_enter Try.func48, Try.ntmps48
      go_wp2_with fail
      refine (implOk _ _ _ X _ hl H.out).mono ?_
      rintro e w1 ⟨rfl, hb⟩
      have Hb := Lib.hid hb
      clear hb
      rw [hc]
      go_wp2_with fail
      go_ret
      exact ⟨ret_bool (by rw [← Hf.out, show decide (0 ≤ k ∧ k < (len : Int)) = false from decide_eq_false (by omega)]; rfl), Hb.out⟩
/-- one step, at a range that is there -/
def stepB (len : Nat) (X : Nat → Nat) (k x : Nat) : Int :=
  if k + 1 < len ∧ gtA x (X (k * 3 + 2)) = true then (k : Int) + 1 else if 0 < k ∧ ltA x (X (k * 3 + 1)) = true then (k : Int) - 1 else k
def stepV (len : Nat) (X : Nat → Nat) (k : Int) (x : Nat) : Int := if hasB len X k = true then stepB len X k.toNat x else -1
theorem stepI_any (b off len cap : Nat) (X : Nat → Nat) (k x : Nat) (wx : (Lit.float .f32 x).wf = true) (w : World) (hl : len ≤ 12) (hk : k < len) (hb : b < w.heap.size) (h : Cells w b off len X) :
    Calls Try.prog 50 #[.slice (some ⟨b, off, none⟩) len cap, .int .i64 (k : Int), .float .f32 x] w fun e w' => e = .returned (.int .i64 (stepB len X k x)) ∧ Below w.heap.size w w' := by
  have H := Lib.hid h
  clear h
  obtain ⟨c1, h1⟩ : ∃ c, gtA x (X (k * 3 + 2)) = c := ⟨_, rfl⟩
  obtain ⟨c2, h2⟩ : ∃ c, ltA x (X (k * 3 + 1)) = c := ⟨_, rfl⟩
  have Hf := Lib.hid (show (if k + 1 < len ∧ c1 = true then (k : Int) + 1 else if 0 < k ∧ c2 = true then (k : Int) - 1 else k) = stepB len X k x by unfold stepB; rw [h1, h2])
  go_enter Try.func50, Try.ntmps50
  go_wp2_with fail
  refine (amtI_any x wx _).mono ?_
  rintro e w1 ⟨v, rfl, hA, hb1⟩
  obtain ⟨q0, q1, q2⟩ := (H.out.keep hb hb1) k hk
  have Hb := Lib.hid hb1
  have e1 : gtB v (X (k * 3 + 2)) = c1 := (hA.gt _).trans h1
  have e2 : ltB v (X (k * 3 + 1)) = c2 := (hA.lt _).trans h2
  unfold gtB at e1
  unfold ltB at e2
  clear hb1 hA h1 h2
  by_cases g1 : k + 1 < len <;> cases c1 <;> by_cases g2 : 0 < k <;> cases c2
  all_goals
    go_wp2_with fail
    go_ret
    refine ⟨ret_int ?_, Hb.out⟩
    rw [← Hf.out]
    simp [g1, g2]
end Go.Proofs.Ytmnpmbliikalhaa.Rng
