/- Settle, in the model and in the program. -/
import Derived.Test.YtmnpmbliikalhaaRngOver
namespace Go.Proofs.Ytmnpmbliikalhaa.Rng
open Go.ChangeShapes Go.WideShapes Go.ChangeAt Go.RowKit Go.Proofs.Ytmnpmbliikalhaa Go.Proofs.Ytmnpmbliikalhaa.Flt Go.Proofs.Ytmnpmbliikalhaa.Mth
set_option linter.unusedVariables false
def stepN (len : Nat) (X : Nat → Nat) (x k : Nat) : Nat := (stepB len X k x).toNat
theorem stepB_cast {len : Nat} {X : Nat → Nat} {x k : Nat} : stepB len X k x = (stepN len X x k : Int) := by
  unfold stepN stepB
  split
  · omega
  · split
    · omega
    · omega
theorem stepN_lt {len : Nat} {X : Nat → Nat} {x k : Nat} (hk : k < len) : stepN len X x k < len := by
  unfold stepN stepB
  split
  · omega
  · split
    · omega
    · omega
/-- the three ways of a step -/
theorem stepN_ways (len : Nat) (X : Nat → Nat) (x k : Nat) :
    (k + 1 < len ∧ gtA x (X (k * 3 + 2)) = true ∧ stepN len X x k = k + 1) ∨ (0 < k ∧ ltA x (X (k * 3 + 1)) = true ∧ stepN len X x k + 1 = k) ∨ stepN len X x k = k := by
  unfold stepN stepB
  split
  · rename_i h; exact .inl ⟨h.1, h.2, by omega⟩
  · split
    · rename_i h; exact .inr (.inl ⟨h.1, h.2, by omega⟩)
    · exact .inr (.inr (by omega))
theorem gt_not_lt {x u d : Nat} (h : gtA x u = true) (hd : leB d u = true) : ltA x d = false := by
  unfold gtA gtB at h
  rw [gt32] at h
  rw [le32] at hd
  unfold ltA ltB
  rw [lt32]
  unfold ltW at *
  simp only [Bool.and_eq_true, decide_eq_true_eq] at h hd
  cases hx : isNaN Ieee.single (amtS x) && true
  · simp only [Bool.and_true] at hx
    rw [hx]
    cases hdn : isNaN Ieee.single d
    · simp only [Bool.not_false, Bool.true_and]
      exact decide_eq_false (by omega)
    · rfl
  · simp only [Bool.and_true] at hx
    rw [hx]; rfl
theorem lt_not_gt {x u d : Nat} (h : ltA x d = true) (hd : leB d u = true) : gtA x u = false := by
  cases hg : gtA x u
  · rfl
  · rw [gt_not_lt hg hd] at h; cases h
/-- the Down of a range is at most the Up of the range before -/
theorem down_up {len : Nat} {X : Nat → Nat} (ho : okB len X = true) {k : Nat} (hk : k + 1 < len) : leB (X ((k + 1) * 3 + 1)) (X (k * 3 + 2)) = true := by
  have := okB_at ho hk
  unfold okAt at this
  rw [show (k + 1 == 0) = false from rfl, Bool.false_or, Bool.and_eq_true, show k + 1 - 1 = k from rfl] at this
  have h2 := this.2
  unfold isAB at h2
  rw [Bool.and_eq_true] at h2
  exact h2.2
/-- how many rounds are left -/
def left (len : Nat) (X : Nat → Nat) (x k : Nat) : Nat := if stepN len X x k = k + 1 then len - k else if stepN len X x k = k then 0 else k
theorem left_le {len : Nat} {X : Nat → Nat} {x k : Nat} (hk : k < len) : left len X x k ≤ len := by
  unfold left
  split
  · omega
  · split <;> omega
theorem left_step {len : Nat} {X : Nat → Nat} {x k : Nat} (ho : okB len X = true) (hk : k < len) (hne : stepN len X x k ≠ k) : left len X x (stepN len X x k) < left len X x k := by
  rcases stepN_ways len X x k with ⟨h1, h2, h3⟩ | ⟨h1, h2, h3⟩ | h
  · have hd := gt_not_lt h2 (down_up ho h1)
    rw [h3]
    unfold left
    rw [if_pos h3]
    rcases stepN_ways len X x (k + 1) with ⟨g1, g2, g3⟩ | ⟨g1, g2, g3⟩ | g
    · rw [if_pos g3]; omega
    · rw [hd] at g2; cases g2
    · rw [if_neg (by omega), if_pos g]; omega
  · obtain ⟨m, rfl⟩ : ∃ m, k = m + 1 := ⟨k - 1, by omega⟩
    have hg := lt_not_gt h2 (down_up ho hk)
    have e : stepN len X x (m + 1) = m := by omega
    rw [e]
    unfold left
    rw [e, if_neg (show ¬ m = m + 1 + 1 by omega), if_neg (show ¬ m = m + 1 by omega)]
    rcases stepN_ways len X x m with ⟨g1, g2, g3⟩ | ⟨g1, g2, g3⟩ | g
    · rw [hg] at g2; cases g2
    · rw [if_neg (by omega), if_neg (by omega)]; omega
    · rw [if_neg (by omega), if_pos g]; omega
  · exact absurd h hne
def setN (len : Nat) (X : Nat → Nat) (x : Nat) : Nat → Nat → Nat
  | 0, k => k
  | f + 1, k => if stepN len X x k = k then k else setN len X x f (stepN len X x k)
theorem setN_more {len : Nat} {X : Nat → Nat} {x : Nat} (ho : okB len X = true) : ∀ (f k : Nat), k < len → left len X x k ≤ f → setN len X x (f + 1) k = setN len X x f k
  | 0, k, hk, h => by
    have : stepN len X x k = k := by
      rcases stepN_ways len X x k with ⟨h1, _, h3⟩ | ⟨h1, _, h3⟩ | h3
      · unfold left at h; rw [if_pos h3] at h; omega
      · unfold left at h; rw [if_neg (by omega), if_neg (by omega)] at h; omega
      · exact h3
    show (if _ then _ else _) = _
    rw [if_pos this]; rfl
  | f + 1, k, hk, h => by
    show (if _ then _ else _) = (if _ then _ else _)
    by_cases e : stepN len X x k = k
    · rw [if_pos e, if_pos e]
    · rw [if_neg e, if_neg e]
      exact setN_more ho f _ (stepN_lt hk) (by have := left_step ho hk e; omega)
/-- where a reading settles -/
def settleN (len : Nat) (X : Nat → Nat) (x k : Nat) : Nat := setN len X x len k
theorem settle_same {len : Nat} {X : Nat → Nat} {x k : Nat} (h : stepN len X x k = k) : settleN len X x k = k := by
  unfold settleN
  cases len with
  | zero => rfl
  | succ n =>
    show (if _ then _ else _) = _
    rw [if_pos h]
theorem settle_step {len : Nat} {X : Nat → Nat} {x k : Nat} (ho : okB len X = true) (hk : k < len) (h : stepN len X x k ≠ k) : settleN len X x (stepN len X x k) = settleN len X x k := by
  unfold settleN
  obtain ⟨n, hn⟩ : ∃ n, len = n + 1 := ⟨len - 1, by omega⟩
  have h1 := left_step ho hk h
  have h2 := left_le (X := X) (x := x) hk
  have h3 := setN_more (x := x) ho n (stepN len X x k) (stepN_lt hk) (by omega)
  rw [show setN len X x len k = setN len X x (n + 1) k by rw [← hn], show setN len X x len (stepN len X x k) = setN len X x (n + 1) (stepN len X x k) by rw [← hn], h3]
  show _ = (if _ then _ else _)
  rw [if_neg h]
theorem settle_lt {len : Nat} {X : Nat → Nat} {x : Nat} : ∀ (f k : Nat), k < len → setN len X x f k < len
  | 0, _, hk => hk
  | f + 1, k, hk => by
    show (if _ then _ else _) < _
    split
    · exact hk
    · exact settle_lt f _ (stepN_lt hk)
def setV (len : Nat) (X : Nat → Nat) (k : Int) (x : Nat) : Int := if hasB len X k = true then (settleN len X x k.toNat : Int) else -1
theorem setV_no {len : Nat} {X : Nat → Nat} {k : Int} {x : Nat} (h : hasB len X k = false) : -1 = setV len X k x := by unfold setV; rw [h]; rfl
theorem setV_yes {len : Nat} {X : Nat → Nat} {k x : Nat} (h : hasB len X (k : Int) = true) : (settleN len X x k : Int) = setV len X (k : Int) x := by unfold setV; rw [if_pos h]; rfl
theorem settleI_any (b off len cap : Nat) (X : Nat → Nat) (k x : Nat) (wx : (Lit.float .f32 x).wf = true) (w : World) (hk : k < len) (hb : b < w.heap.size) (h : Cells w b off len X) (ho : okB len X = true) :
    Calls Try.prog 49 #[.slice (some ⟨b, off, none⟩) len cap, .int .i64 (k : Int), .float .f32 x] w fun e w' => e = .returned (.int .i64 (settleN len X x k)) ∧ Below w.heap.size w w' := by
  have H := Lib.hid h
  have hl := (okB_bounds ho).2
  have HO := Lib.hid ho
  clear h ho
  generalize hB : w.heap.size = B at *
  go_enter Try.func49, Try.ntmps49
  go_wp2_with fail
  refine (stepI_any b off len cap X k x wx _ hl hk (by rw [hB]; exact hb) H.out).mono ?_
  rintro e w1 ⟨rfl, hb1⟩
  rw [stepB_cast]
  have Hst := Lib.hid (show Below B w w1 by rw [← hB]; exact hb1)
  clear hb1
  go_wp2_with fail
  go_loopw [1, 7] (fun i j wr => ∃ m : Nat, i = .int .i64 m ∧ j = .int .i64 (stepN len X x m) ∧ m < len ∧ settleN len X x m = settleN len X x k ∧ Below B w wr)
    (fun i _ _ => left len X x (intOf i).toNat)
  case atStart => exact ⟨k, rfl, rfl, hk, rfl, Hst.out⟩
  case round =>
    obtain ⟨m, rfl, rfl, hm, hset, hbel⟩ := hrel
    have Hset := Lib.hid hset
    have Hbel := Lib.hid hbel
    have hsz : B ≤ wr.heap.size := by rw [← hB]; exact hbel.size
    clear hset hbel
    obtain ⟨n, hn⟩ : ∃ n, stepN len X x m = n := ⟨_, rfl⟩
    by_cases hne : n = m
    · subst hne
      have Hs := Lib.hid (settle_same hn)
      rw [hn]
      clear hn
      go_wp2_with fail
      go_ret
      exact ⟨ret_int (by rw [← Hset.out, Hs.out]), Hbel.out⟩
    · have hne' : ¬ (n : Int) = (m : Int) := by omega
      have Hn := Lib.hid hn
      have hnl : n < len := by rw [← hn]; exact stepN_lt hm
      rw [hn]
      clear hn
      go_wp2_with fail
      refine (stepI_any b off len cap X n x wx _ hl hnl (Nat.lt_of_lt_of_le hb hsz) (H.out.keep hb Hbel.out)).mono ?_
      rintro e w2 ⟨rfl, hb2⟩
      rw [stepB_cast]
      have Hb2 := Lib.hid (Hbel.out.trans (hb2.mono hsz))
      clear hb2
      go_wp2_with fail
      go_roundw
      case rel => exact ⟨n, rfl, rfl, hnl, by
        have := settle_step HO.out hm (by rw [Hn.out]; exact hne)
        rw [Hn.out] at this
        rw [this, Hset.out], Hb2.out⟩
      case measure =>
        have := left_step HO.out hm (by rw [Hn.out]; exact hne)
        rw [Hn.out] at this
        simpa [intOf] using this
theorem implSettle (a : Option Addr) (len cap : Nat) (X : Nat → Nat) (k : Int) (x : Nat) (wx : (Lit.float .f32 x).wf = true) (w : World) (hl : len ≤ 1048576) (h : Lst w a len X) :
    Calls Try.prog 18 #[.slice a len cap, .int .i64 k, .float .f32 x] w fun e w' => e = .returned (.int .i64 (setV len X k x)) ∧ Below w.heap.size w w' := by
  have H := Lib.hid h
  clear h
  obtain ⟨c, hc⟩ : ∃ c, hasB len X k = c := ⟨_, rfl⟩
  cases c
  · have Hf := Lib.hid (setV_no (x := x) hc)
    go_enter Try.func18, Try.ntmps18
    go_wp2_with fail
    refine (has_any _ _ _ X _ _ hl H.out).mono ?_
    rintro e w1 ⟨rfl, hb⟩
    have Hb := Lib.hid hb
    clear hb
    rw [hc]
    go_wp2_with fail
    go_ret
    exact ⟨ret_int Hf.out, Hb.out⟩
  · obtain ⟨ho, m, rfl, hm⟩ := hasB_at hc
    have hb12 := okB_bounds ho
    have HO := Lib.hid ho
    have Hf := Lib.hid (setV_yes (x := x) hc)
    obtain ⟨b, off, rfl, hlt, hcells⟩ := H.out.cells (by omega)
    have Hc := Lib.hid hcells
    clear hcells ho
    go_enter Try.func18, Try.ntmps18
    go_wp2_with fail
    refine (has_any _ _ _ X _ _ hl H.out).mono ?_
    rintro e w1 ⟨rfl, hb⟩
    have Hb := Lib.hid hb
    clear hb
    rw [hc]
    go_wp2_with fail
    refine (settleI_any b off len cap X m x wx _ hm (Nat.lt_of_lt_of_le hlt Hb.out.size) (Hc.out.keep hlt Hb.out) HO.out).mono ?_
    rintro e w2 ⟨rfl, hb⟩
    have Hb2 := Lib.hid (Hb.out.trans (hb.mono Hb.out.size))
    clear hb
    go_wp2_with fail
    go_ret
    exact ⟨ret_int Hf.out, Hb2.out⟩
theorem specSettle_no (a : Option Addr) (len cap : Nat) (X : Nat → Nat) (k : Int) (x : Nat) (w : World) (hl : len ≤ 1048576) (h : Lst w a len X) (hc : hasB len X k = false) :
    Calls Try.prog 30 #[.slice a len cap, .int .i64 k, .float .f32 x] w fun e w' => e = .returned (.int .i64 (-1)) ∧ Below w.heap.size w w' := by
  have H := Lib.hid h
  clear h
  by_cases hk : k = -1
  · subst hk
    go_enter Try.func30, Try.ntmps30
    go_wp2_with fail
    refine (specStep_no _ _ _ X _ x _ hl H.out hc).mono ?_
    rintro e w1 ⟨rfl, hb⟩
    have Hb := Lib.hid hb
    clear hb
    go_wp2_with fail
    refine wp_loop_rounds 1 ?_
    rw [rounds_succ]
    go_wp2_with fail
    go_ret
    exact ⟨rfl, Hb.out⟩
  · have hk' : ¬ (-1 : Int) = k := fun e => hk e.symm
    go_enter Try.func30, Try.ntmps30
    go_wp2_with fail
    refine (specStep_no _ _ _ X _ x _ hl H.out hc).mono ?_
    rintro e w1 ⟨rfl, hb⟩
    have Hb := Lib.hid hb
    clear hb
    go_wp2_with fail
    refine wp_loop_rounds 1 ?_
    rw [rounds_succ]
    go_wp2_with fail
    go_ret
    exact ⟨rfl, Hb.out⟩
theorem specSettle_yes (b off len cap : Nat) (X : Nat → Nat) (k x : Nat) (w : World) (hk : k < len) (hb : b < w.heap.size) (h : Cells w b off len X) (hL : Lst w (some ⟨b, off, none⟩) len X) (ho : okB len X = true) :
    Calls Try.prog 30 #[.slice (some ⟨b, off, none⟩) len cap, .int .i64 (k : Int), .float .f32 x] w fun e w' => e = .returned (.int .i64 (settleN len X x k)) ∧ Below w.heap.size w w' := by
  have H := Lib.hid h
  have HL := Lib.hid hL
  have hl := (okB_bounds ho).2
  have HO := Lib.hid ho
  clear h ho hL
  generalize hB : w.heap.size = B at *
  go_enter Try.func30, Try.ntmps30
  go_wp2_with fail
  refine (specStep_yes b off len cap X k x _ hl hk (by rw [hB]; exact hb) H.out HL.out HO.out).mono ?_
  rintro e w1 ⟨rfl, hb1⟩
  rw [stepB_cast]
  have Hst := Lib.hid (show Below B w w1 by rw [← hB]; exact hb1)
  clear hb1
  go_wp2_with fail
  go_loopw [1, 7] (fun i j wr => ∃ m : Nat, i = .int .i64 m ∧ j = .int .i64 (stepN len X x m) ∧ m < len ∧ settleN len X x m = settleN len X x k ∧ Below B w wr)
    (fun i _ _ => left len X x (intOf i).toNat)
  case atStart => exact ⟨k, rfl, rfl, hk, rfl, Hst.out⟩
  case round =>
    obtain ⟨m, rfl, rfl, hm, hset, hbel⟩ := hrel
    have Hset := Lib.hid hset
    have Hbel := Lib.hid hbel
    have hsz : B ≤ wr.heap.size := by rw [← hB]; exact hbel.size
    clear hset hbel
    obtain ⟨n, hn⟩ : ∃ n, stepN len X x m = n := ⟨_, rfl⟩
    by_cases hne : n = m
    · subst hne
      have Hs := Lib.hid (settle_same hn)
      rw [hn]
      clear hn
      go_wp2_with fail
      go_ret
      exact ⟨ret_int (by rw [← Hset.out, Hs.out]), Hbel.out⟩
    · have hne' : ¬ (n : Int) = (m : Int) := by omega
      have Hn := Lib.hid hn
      have hnl : n < len := by rw [← hn]; exact stepN_lt hm
      rw [hn]
      clear hn
      go_wp2_with fail
      refine (specStep_yes b off len cap X n x _ hl hnl (Nat.lt_of_lt_of_le hb hsz) (H.out.keep hb Hbel.out) (HL.out.keep (by rw [hB]; exact Hbel.out)) HO.out).mono ?_
      rintro e w2 ⟨rfl, hb2⟩
      rw [stepB_cast]
      have Hb2 := Lib.hid (Hbel.out.trans (hb2.mono hsz))
      clear hb2
      go_wp2_with fail
      go_roundw
      case rel => exact ⟨n, rfl, rfl, hnl, by
        have := settle_step HO.out hm (by rw [Hn.out]; exact hne)
        rw [Hn.out] at this
        rw [this, Hset.out], Hb2.out⟩
      case measure =>
        have := left_step HO.out hm (by rw [Hn.out]; exact hne)
        rw [Hn.out] at this
        simpa [intOf] using this
theorem specSettle (a : Option Addr) (len cap : Nat) (X : Nat → Nat) (k : Int) (x : Nat) (w : World) (hl : len ≤ 1048576) (h : Lst w a len X) :
    Calls Try.prog 30 #[.slice a len cap, .int .i64 k, .float .f32 x] w fun e w' => e = .returned (.int .i64 (setV len X k x)) ∧ Below w.heap.size w w' := by
  cases hc : hasB len X k
  · rw [← setV_no hc]
    exact specSettle_no a len cap X k x w hl h hc
  · obtain ⟨ho, m, rfl, hm⟩ := hasB_at hc
    rw [← setV_yes hc]
    obtain ⟨b, off, rfl, hlt, hcells⟩ := h.cells (by omega)
    exact specSettle_yes b off len cap X m x w hm hlt hcells h ho
end Go.Proofs.Ytmnpmbliikalhaa.Rng
