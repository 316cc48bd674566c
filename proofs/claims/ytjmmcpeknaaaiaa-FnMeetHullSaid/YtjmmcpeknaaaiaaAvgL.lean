/- Sums in order and means of the model, at a seat without PairSum: made by program out of XAvgM. -/
import Derived.Test.YtjmmcpeknaaaiaaFlsN
import Derived.Test.YtjmmcpeknaaaiaaAvgT
namespace Go.Proofs.Ytjmmcpeknaaaiaa.Avg
open Go.ChangeShapes Go.WideShapes Go.ChangeAt Go.RowKit Go.Deep Go.Proofs.Ytjmmcpeknaaaiaa Go.Proofs.Ytjmmcpeknaaaiaa.Flt Go.Proofs.Ytjmmcpeknaaaiaa.Mth Go.Proofs.Ytjmmcpeknaaaiaa.Sgl
open Ieee (single double)
set_option linter.unusedVariables false
/-- the elements -/
def els (n : Nat) (X : Nat → Nat) : List Nat := (List.range n).map X
theorem els_len (n : Nat) (X : Nat → Nat) : (els n X).length = n := by unfold els; simp
theorem els_succ (n : Nat) (X : Nat → Nat) : els (n + 1) X = els n X ++ [X n] := by unfold els; rw [List.range_succ]; simp
theorem els_app (n m : Nat) (X : Nat → Nat) : els (n + m) X = els n X ++ els m (fun i => X (n + i)) := by
  unfold els; rw [List.range_add]; simp
theorem els_take {n k : Nat} (h : k ≤ n) (X : Nat → Nat) : (els n X).take k = els k X := by
  obtain ⟨m, rfl⟩ : ∃ m, n = k + m := ⟨n - k, by omega⟩
  rw [els_app, List.take_left' (els_len _ _)]
theorem els_drop {n k : Nat} (h : k ≤ n) (X : Nat → Nat) : (els n X).drop k = els (n - k) (fun i => X (k + i)) := by
  obtain ⟨m, rfl⟩ : ∃ m, n = k + m := ⟨n - k, by omega⟩
  rw [els_app, List.drop_left' (els_len _ _), Nat.add_sub_cancel_left]
theorem els_mem {n : Nat} {X : Nat → Nat} {x : Nat} (h : x ∈ els n X) : ∃ i, i < n ∧ x = X i := by
  unfold els at h
  obtain ⟨i, hi, rfl⟩ := List.mem_map.1 h
  exact ⟨i, List.mem_range.1 hi, rfl⟩
theorem els_congr {n : Nat} {X Y : Nat → Nat} (h : ∀ i, i < n → X i = Y i) : els n X = els n Y := by
  unfold els
  exact List.map_congr_left fun i hi => h i (List.mem_range.1 hi)
/-- a good list -/
def goodB (n : Nat) (X : Nat → Nat) : Bool := decide (n ≤ 64) && (List.range n).all fun i => finB (X i)
theorem good_fail {n k : Nat} {X : Nat → Nat} (hk : k < n) (h : finB (X k) = false) : false = goodB n X := by
  symm
  unfold goodB
  rw [Bool.and_eq_false_iff]
  right
  rw [List.all_eq_false]
  exact ⟨k, by simpa using hk, by rw [h]; simp⟩
theorem good_all {n : Nat} {X : Nat → Nat} (h1 : n ≤ 64) (h : ∀ j, j < n → finB (X j) = true) : true = goodB n X := by
  symm
  unfold goodB
  rw [decide_eq_true h1, Bool.true_and, List.all_eq_true]
  intro j hj
  exact h j (by simpa using hj)
theorem good_out {n : Nat} {X : Nat → Nat} (h : 64 < n) : false = goodB n X := by
  unfold goodB; rw [decide_eq_false (by omega)]; rfl
theorem good_iff {n : Nat} {X : Nat → Nat} : goodB n X = true ↔ n ≤ 64 ∧ ∀ j, j < n → finB (X j) = true := by
  unfold goodB
  rw [Bool.and_eq_true, decide_eq_true_iff, List.all_eq_true]
  constructor
  · rintro ⟨a, b⟩; exact ⟨a, fun j hj => b j (List.mem_range.2 hj)⟩
  · rintro ⟨a, b⟩; exact ⟨a, fun j hj => b j (List.mem_range.1 hj)⟩
/-! every finite single lies between these two -/
theorem fn_hi : fnS 2139095039 = true := by decide
theorem fn_lo : fnS 4286578687 = true := by decide
theorem all_btw {x : Nat} (h : fnS x = true) : fnS x = true ∧ sv single 4286578687 ≤ sv single x ∧ sv single x ≤ sv single 2139095039 := by
  have r := fnS_iff.1 h
  rw [show single.infRung = 2139095040 by decide] at r
  have h1 : mg single (rung single x) ≤ mg single 2139095039 := mg_le single (by omega)
  have e1 : sv single 2139095039 = ((mg single 2139095039 : Nat) : Int) := by
    unfold sv
    rw [show sgn single 2139095039 = false by decide, show rung single 2139095039 = 2139095039 by decide]; rfl
  have e2 : sv single 4286578687 = -((mg single 2139095039 : Nat) : Int) := by
    unfold sv
    rw [show sgn single 4286578687 = true by decide, show rung single 4286578687 = 2139095039 by decide]; rfl
  rw [e1, e2]
  unfold sv
  generalize mg single 2139095039 = m at *
  refine ⟨h, ?_, ?_⟩ <;> (split <;> omega)
theorem good_btw {n : Nat} {X : Nat → Nat} (h : ∀ j, j < n → finB (X j) = true) : Btw 4286578687 2139095039 (els n X) := by
  intro x hx
  obtain ⟨i, hi, rfl⟩ := els_mem hx
  exact all_btw (h i hi)
theorem sum_bd {n : Nat} {X : Nat → Nat} (hn : n ≤ 64) (h : ∀ j, j < n → finB (X j) = true) : Bd 4286578687 2139095039 n (sumF 0 (els n X)) := by
  have := Bd.sum fn_lo fn_hi (els n X) 0 0 (Bd.zero _ _) (good_btw h) (by rw [els_len]; omega)
  rw [els_len, Nat.zero_add] at this
  exact this
theorem sum_step {n : Nat} {X : Nat → Nat} (hn : n < 64) (h : ∀ j, j < n → finB (X j) = true) (hx : finB (X n) = true) : floatBits .add .f64 (sumF 0 (els n X)) (widen (X n)) = some (sumF 0 (els (n + 1) X)) := by
  obtain ⟨f, l, u⟩ := all_btw (x := X n) hx
  rw [els_succ, sumF_snoc]
  exact ((sum_bd (by omega) h).step fn_lo fn_hi f l u (by omega)).1
/-! the sum by halves -/
theorem hal_fuel : ∀ (f g : Nat) (xs : List Nat), xs.length ≤ f → xs.length ≤ g → halF f xs = halF g xs
  | 0, 0, xs, _, _ => rfl
  | 0, g + 1, xs, h, _ => by
    have : xs = [] := List.length_eq_zero_iff.1 (by omega)
    subst this
    rfl
  | f + 1, 0, xs, _, h => by
    have : xs = [] := List.length_eq_zero_iff.1 (by omega)
    subst this
    rfl
  | f + 1, g + 1, xs, h1, h2 => by
    unfold halF
    by_cases l0 : xs.length = 0
    · rw [if_pos l0, if_pos l0]
    · rw [if_neg l0, if_neg l0]
      by_cases l1 : xs.length = 1
      · rw [if_pos l1, if_pos l1]
      · rw [if_neg l1, if_neg l1]
        have t1 : (xs.take (xs.length / 2)).length = xs.length / 2 := by rw [List.length_take]; omega
        have t2 : (xs.drop (xs.length / 2)).length = xs.length - xs.length / 2 := List.length_drop
        rw [hal_fuel f g _ (by rw [t1]; omega) (by rw [t1]; omega), hal_fuel f g _ (by rw [t2]; omega) (by rw [t2]; omega)]
/-- the sum by halves of so many elements -/
def halN (n : Nat) (X : Nat → Nat) : Nat := halF n (els n X)
theorem halN_zero (X : Nat → Nat) : halN 0 X = 0 := rfl
theorem halN_one (X : Nat → Nat) : halN 1 X = widen (X 0) := by
  have e : els 1 X = [X 0] := rfl
  unfold halN
  rw [e]
  unfold halF
  rw [if_neg (by simp), if_pos (by simp), List.getD_cons_zero]
theorem halN_step {n k : Nat} (X : Nat → Nat) (h : 2 ≤ n) (hk : n / 2 = k) : halN n X = addW (halN k X) (halN (n - k) (fun i => X (k + i))) := by
  obtain ⟨f, rfl⟩ : ∃ f, n = f + 1 := ⟨n - 1, by omega⟩
  unfold halN
  conv => lhs; unfold halF
  rw [els_len, if_neg (by omega), if_neg (by omega), hk, els_take (by omega), els_drop (by omega)]
  rw [hal_fuel f k _ (by rw [els_len]; omega) (by rw [els_len]; omega), hal_fuel f (f + 1 - k) _ (by rw [els_len]; omega) (by rw [els_len]; omega)]
theorem hal_bd : ∀ (n : Nat) (X : Nat → Nat), n ≤ 64 → (∀ j, j < n → finB (X j) = true) → Bd 4286578687 2139095039 n (halN n X) := by
  intro n
  induction n using Nat.strongRecOn with
  | ind n ih =>
    intro X hn h
    by_cases l0 : n = 0
    · subst l0; rw [halN_zero]; exact Bd.zero _ _
    · by_cases l1 : n = 1
      · subst l1
        obtain ⟨f, l, u⟩ := all_btw (x := X 0) (h 0 (by omega))
        rw [halN_one]
        exact Bd.leaf fn_lo fn_hi f l u
      · obtain ⟨k, hk⟩ : ∃ k, n / 2 = k := ⟨_, rfl⟩
        rw [halN_step X (by omega) hk]
        have a := ih k (by omega) X (by omega) (fun j hj => h j (by omega))
        have b := ih (n - k) (by omega) (fun i => X (k + i)) (by omega) (fun j hj => h (k + j) (by omega))
        have := (a.add fn_lo fn_hi b (by omega)).2.1
        rwa [show k + (n - k) = n by omega] at this
theorem hal_step {n k : Nat} {X : Nat → Nat} (h2 : 2 ≤ n) (hn : n ≤ 64) (hk : n / 2 = k) (h : ∀ j, j < n → finB (X j) = true) :
    floatBits .add .f64 (halN k X) (halN (n - k) (fun i => X (k + i))) = some (halN n X) := by
  have a := hal_bd k X (by omega) (fun j hj => h j (by omega))
  have b := hal_bd (n - k) (fun i => X (k + i)) (by omega) (fun j hj => h (k + j) (by omega))
  rw [halN_step X h2 hk]
  exact (a.add fn_lo fn_hi b (by omega)).1
/-! the program of the model -/
theorem good_any (a : Option Addr) (len cap : Nat) (X : Nat → Nat) (w : World) (hl : len ≤ 1048576) (h : LstF w a len X) :
    Calls Try.prog 112 #[.slice a len cap] w fun e w' => e = .returned (.bool (goodB len X)) ∧ ∃ n, w' = w.drewN n := by
  by_cases h64 : 64 < len
  · go_enter Try.func112, Try.ntmps112
    go_wp2
    go_ret
    exact ⟨ret_bool (good_out h64), 0, rfl⟩
  · have H := Lib.hid h
    clear h
    go_enter Try.func112, Try.ntmps112
    go_wp2
    go_loopw [3] (fun i wr => ∃ k m : Nat, i = .int .i64 k ∧ k ≤ len ∧ wr = w.drewN m ∧ Hid (∀ j, j < k → finB (X j) = true))
      (fun i _ => len - (intOf i).toNat)
    case atStart => exact ⟨0, 0, rfl, Nat.zero_le _, rfl, Lib.hid fun j hj => absurd hj (Nat.not_lt_zero _)⟩
    case round =>
      obtain ⟨k, m, rfl, hk, hwr, hall⟩ := hrel
      subst hwr
      by_cases hkl : k < len
      · obtain ⟨b, off, ha, hlt, hc⟩ : ∃ b off, a = some ⟨b, off, none⟩ ∧ b < w.heap.size ∧ CellsF w b off len X := by
          rcases H.out.2 with e | e
          · omega
          · exact e
        subst ha
        have a0 := hc k hkl
        have k1 := fun w => run_widX (P := Try.prog) 24 28 (X k) (by rw [Try.underlying24]; rfl) Try.underlying28 w
        clear hc
        go_wp2_with fail
        refine (fineS_any _ _).mono ?_
        rintro e w1 ⟨rfl, n, rfl⟩
        rw [isFin_wid (widX_wid (X k) _)]
        cases c5 : finB (X k)
        · have Hno := Lib.hid (good_fail hkl c5)
          go_wp2_with fail
          go_ret
          exact ⟨ret_bool Hno.out, m + ndr (X k) + n, by first | rfl | rw [World.drewN_drewN, World.drewN_drewN]⟩
        · have Hc5 := Lib.hid c5
          clear c5 k1
          go_wp2_with fail
          go_roundw
          case rel => exact ⟨k + 1, m + ndr (X k) + n, by go_num, by omega, by first | rfl | rw [World.drewN_drewN, World.drewN_drewN], Lib.hid fun j hj => by
            by_cases e : j = k
            · rw [e]; exact Hc5.out
            · exact hall.out j (by omega)⟩
          case measure => simp [intOf]; omega
      · obtain rfl : k = len := by omega
        go_wp2
        go_ret
        exact ⟨ret_bool (good_all (by omega) hall.out), m, rfl⟩
theorem LstF.cells {w : World} {a : Option Addr} {len : Nat} {X : Nat → Nat} (h : LstF w a len X) (h0 : 0 < len) : ∃ b off, a = some ⟨b, off, none⟩ ∧ b < w.heap.size ∧ CellsF w b off len X := by
  rcases h.2 with e | e
  · omega
  · exact e
/-- what SumInOrder answers -/
def sumN (n : Nat) (X : Nat → Nat) : Nat := if goodB n X = true then sumF 0 (els n X) else 0
theorem run_widF {x : Nat} (h : finB x = true) (w : World) : (convert 24 28 (.float .f32 x)).run Try.prog w = .ok (.float .f64 (widen x)) w := by
  have hn : isNaN single x = false := fin_num h
  have := run_widX (P := Try.prog) 24 28 x (by rw [Try.underlying24]; rfl) Try.underlying28 w
  have hw := widX_wid x w
  rw [hw.2.2 hn] at this
  rw [this]
  have e0 : ndr x = 0 := by unfold ndr; rw [hn]; rfl
  rw [e0]
  rfl
set_option maxHeartbeats 400000 in
theorem spec_sum (a : Option Addr) (len cap : Nat) (X : Nat → Nat) (w : World) (hl : len ≤ 1048576) (h : LstF w a len X) :
    Calls Try.prog 99 #[.slice a len cap] w fun e w' => e = .returned (.tuple #[.float .f64 (sumN len X), .bool (goodB len X)]) ∧ ∃ n, w' = w.drewN n := by
  have H := Lib.hid h
  clear h
  cases hg : goodB len X
  · have Hs := Lib.hid (show 0 = sumN len X by unfold sumN; rw [if_neg (by rw [hg]; exact Bool.false_ne_true)])
    go_enter Try.func99, Try.ntmps99
    go_wp2_with fail
    refine (good_any _ _ _ X _ hl H.out).mono ?_
    rintro e w1 ⟨rfl, n, rfl⟩
    rw [hg]
    go_wp2_with fail
    go_ret2
    exact ⟨by rw [← Hs.out]; rfl, n, rfl⟩
  · have Hs := Lib.hid (show sumF 0 (els len X) = sumN len X by unfold sumN; rw [if_pos hg])
    obtain ⟨h64, hfin⟩ := good_iff.1 hg
    have Hfin := Lib.hid hfin
    clear hfin
    go_enter Try.func99, Try.ntmps99
    go_wp2_with fail
    refine (good_any _ _ _ X _ hl H.out).mono ?_
    rintro e w1 ⟨rfl, n, rfl⟩
    rw [hg]
    clear hg
    go_wp2_with fail
    go_loopw [4, 5] (fun s i wr => ∃ k : Nat, i = .int .i64 k ∧ s = .float .f64 (sumF 0 (els k X)) ∧ k ≤ len ∧ wr = w.drewN n)
      (fun _ i _ => len - (intOf i).toNat)
    case atStart => exact ⟨0, rfl, rfl, Nat.zero_le _, rfl⟩
    case round =>
      obtain ⟨k, rfl, rfl, hk, hwr⟩ := hrel
      subst hwr
      by_cases hkl : k < len
      · obtain ⟨b, off, ha, hlt, hc⟩ := LstF.cells H.out (by omega)
        subst ha
        have a0 := hc k hkl
        have k1 := run_widF (Hfin.out k hkl)
        have k2 := fun w => run_float_arith (P := Try.prog) w .add 28 .f64 _ _ _ (sum_step (by omega) (fun j hj => Hfin.out j (by omega)) (Hfin.out k hkl))
        clear hc
        generalize sumF 0 (els k X) = s0 at *
        obtain ⟨s1, hs1⟩ : ∃ s1, sumF 0 (els (k + 1) X) = s1 := ⟨_, rfl⟩
        rw [hs1] at k2
        go_wp2_with fail
        go_roundw
        case rel => exact ⟨k + 1, by go_num, by rw [hs1], by omega, by first | rfl | trivial⟩
        case measure => simp [intOf]; omega
      · obtain rfl : k = len := by omega
        go_wp2_with fail
        go_ret2
        exact ⟨by rw [← Hs.out]; rfl, n, rfl⟩
/-! the sum by halves -/
theorem run_front (b off n cap k : Nat) (w : World) (h : k ≤ cap) :
    (Instr.slice 53 (.slice (some ⟨b, off, none⟩) n cap) none (some (.int .i64 (k : Int))) none).run Try.prog w = .ok (.slice (some ⟨b, off, none⟩) k cap) w := by
  obtain ⟨i0, hi, hz0, hz1, hz2⟩ := info_partsF
  have h0 : (0 : Int) ≤ k := by omega
  have h1 : (k : Int) ≤ cap := by omega
  simp [Instr.slice, run_underlying Try.underlying53, Instr.sliceBounds, run_sliceBound, sizeOf, typeInfo, hi, h0, h1, Addr.add]
theorem run_back (b off n cap k : Nat) (w : World) (h : k < n) (hc : n ≤ cap) :
    (Instr.slice 53 (.slice (some ⟨b, off, none⟩) n cap) (some (.int .i64 (k : Int))) none none).run Try.prog w = .ok (.slice (some ⟨b, off + k, none⟩) (n - k) (cap - k)) w := by
  obtain ⟨i0, hi, hz0, hz1, hz2⟩ := info_partsF
  have h0 : (0 : Int) ≤ k := by omega
  have h1 : (k : Int) ≤ n := by omega
  simp only [Instr.slice, Instr.sliceBounds]
  simp [run_underlying Try.underlying53, run_sliceBound, sizeOf, typeInfo, hi, h0, h1, Addr.add, hz1]
  rw [if_neg (by omega)]
  by_cases h4 : k = 0
  · subst h4; simp
  · rw [if_neg h4]
set_option maxHeartbeats 400000 in
/-- what PairSum answers -/
def pairN (n : Nat) (X : Nat → Nat) : Nat := if goodB n X = true then halN n X else 0
theorem LstF.drew {w : World} {a : Option Addr} {len : Nat} {X : Nat → Nat} (h : LstF w a len X) (n : Nat) : LstF (w.drewN n) a len X := h.keep (below_drewN (Below.refl _ _) n)
set_option maxHeartbeats 400000 in
/-- what MeanOf answers -/
def meanB (n : Nat) (X : Nat → Nat) : Bool := goodB n X && decide (1 ≤ n)
def meanN (n : Nat) (X : Nat → Nat) : Nat := if meanB n X = true then meanW (sumF 0 (els n X)) n else 0
theorem mean_facts {n : Nat} {X : Nat → Nat} (h : meanB n X = true) : n ≤ 64 ∧ 1 ≤ n ∧
    floatBits .quo .f64 (sumN n X) (floatOfInt .f64 (n : Int)) = some (quoW (sumN n X) n) ∧ floatToFloatBits .f64 (quoW (sumN n X) n) .f32 = some (meanN n X) := by
  have hq := h
  unfold meanB at hq
  rw [Bool.and_eq_true, decide_eq_true_iff] at hq
  obtain ⟨hg, h1⟩ := hq
  obtain ⟨h64, hf⟩ := good_iff.1 hg
  obtain ⟨a, b, _⟩ := mean_bd fn_lo fn_hi h1 (by omega) (sum_bd h64 hf)
  unfold meanN
  rw [if_pos h]
  unfold sumN
  rw [if_pos hg]
  exact ⟨h64, h1, a, b⟩
set_option maxHeartbeats 400000 in
theorem spec_mean (a : Option Addr) (len cap : Nat) (X : Nat → Nat) (w : World) (hl : len ≤ 1048576) (h : LstF w a len X) :
    Calls Try.prog 70 #[.slice a len cap] w fun e w' => e = .returned (.tuple #[.float .f32 (meanN len X), .bool (meanB len X)]) ∧ ∃ n, w' = w.drewN n := by
  have H := Lib.hid h
  clear h
  cases hg : meanB len X
  · have Hs := Lib.hid (show 0 = meanN len X by unfold meanN; rw [if_neg (by rw [hg]; exact Bool.false_ne_true)])
    cases hq : goodB len X
    · go_enter Try.func70, Try.ntmps70
      go_wp2_with fail
      refine (spec_sum _ _ _ X _ hl H.out).mono ?_
      rintro e w1 ⟨rfl, n, rfl⟩
      rw [hq]
      go_wp2_with fail
      go_ret2
      exact ⟨by rw [← Hs.out]; rfl, n, rfl⟩
    · have h0 : Hid (len = 0) := Lib.hid <| by
        unfold meanB at hg
        rw [hq, Bool.true_and] at hg
        have := of_decide_eq_false hg
        omega
      go_enter Try.func70, Try.ntmps70
      go_wp2_with fail
      refine (spec_sum _ _ _ X _ hl H.out).mono ?_
      rintro e w1 ⟨rfl, n, rfl⟩
      rw [hq]
      have h1 : (len : Int) = 0 := by rw [h0.out]; rfl
      go_wp2_with fail
      go_ret2
      exact ⟨by rw [← Hs.out]; rfl, n, rfl⟩
  · obtain ⟨h64, h1, f1, f2⟩ := mean_facts hg
    have hq : goodB len X = true := by unfold meanB at hg; rw [Bool.and_eq_true] at hg; exact hg.1
    have k1 := fun w => run_float_arith (P := Try.prog) w .quo 28 .f64 _ _ _ f1
    have k2 := fun w => run_convert_float_float (P := Try.prog) w 28 24 .f64 .f32 _ _ (by rw [Try.underlying28]; rfl) Try.underlying24 f2
    have k3 := fun w => run_convert_int_float (P := Try.prog) w 3 28 .i64 .f64 (len : Int) (by rw [Try.underlying3]; rfl) Try.underlying28
    have e0 : ¬ (len : Int) = 0 := by omega
    clear f1 f2
    go_enter Try.func70, Try.ntmps70
    go_wp2_with fail
    refine (spec_sum _ _ _ X _ hl H.out).mono ?_
    rintro e w1 ⟨rfl, n, rfl⟩
    rw [hq]
    clear hq
    obtain ⟨m, hm⟩ : ∃ m, meanN len X = m := ⟨_, rfl⟩
    rw [hm] at k2
    have Hm := Lib.hid hm
    clear hm
    generalize sumN len X = s at *
    generalize quoW s len = q at *
    generalize floatOfInt .f64 (len : Int) = l at *
    go_wp2_with fail
    go_ret2
    exact ⟨by rw [Hm.out]; rfl, n, rfl⟩
end Go.Proofs.Ytjmmcpeknaaaiaa.Avg
