/- The program's sums, means and drift: sumOf, sumByHalves, meanOf, driftOf; SumInOrder, PairSum, MeanOf, DriftOf; CountEqual. -/
import Derived.Test.YtlbapogmcnpmeaaRec
import Derived.Test.YtlbapogmcnpmeaaAvgN
namespace Go.Proofs.Ytlbapogmcnpmeaa.Avg
open Go.ChangeShapes Go.WideShapes Go.ChangeAt Go.RowKit Go.Deep Go.Proofs.Ytlbapogmcnpmeaa Go.Proofs.Ytlbapogmcnpmeaa.Flt Go.Proofs.Ytlbapogmcnpmeaa.Mth Go.Proofs.Ytlbapogmcnpmeaa.Sgl
open Ieee (single double)
set_option linter.unusedVariables false
set_option linter.unusedSimpArgs false
theorem reck_all_D (g : FuncId) (hcf : ∀ args w, (callFunc g args).run Try.prog w = .ok (.enter g args) w) (least : Nat) (hle2 : least ≤ 2) (s : Nat) (ok : Bool) (a : Option Addr) (len cap : Nat) (X : Nat → Nat) (w : World) (hl : len ≤ 1048576) (h : LstF w a len X) (hok : ok = (goodB len X && decide (least ≤ len)))
    (hcall : goodB len X = true → least ≤ len → len ≤ 64 → ∀ w1, LstF w1 a len X → Calls Try.prog g #[.slice a len cap] w1 fun e wX => e = .returned (.float .f64 s) ∧ Below w1.heap.size w1 wX) :
    Calls Try.prog 42 #[.slice a len cap, .int .i64 (least : Int), .func (.func g) #[] #[]] w fun e w' => e = .returned (.tuple #[.float .f64 (if ok = true then s else 0), .bool ok]) ∧ Below w.heap.size w w' := by
  by_cases h1 : len < least ∨ 64 < len
  · have hk : ok = false := by
      rw [hok]
      rcases h1 with h1 | h1
      · rw [decide_eq_false (by omega), Bool.and_false]
      · rw [← good_out h1, Bool.false_and]
    subst hk
    refine (reck_few_D a len cap least _ w hl hle2 h1).mono ?_
    rintro e w' ⟨rfl, hb⟩
    exact ⟨rfl, hb⟩
  · have hle : least ≤ len := by omega
    have h64 : len ≤ 64 := by omega
    rw [decide_eq_true hle, Bool.and_true] at hok
    cases hq : goodB len X
    · rw [hq] at hok
      subst hok
      refine (reck_bad_D a len cap least _ X w hle h64 h hq).mono ?_
      rintro e w' ⟨rfl, hb⟩
      exact ⟨rfl, hb⟩
    · rw [hq] at hok
      subst hok
      refine (reck_go_D (fun v _ => v = .float .f64 s) False g #[] hcf a len cap least X w hle h64 h hq (fun w1 hL _ _ => ?_)).mono ?_
      · refine (hcall hq hle h64 w1 hL).mono ?_
        rintro e wX ⟨rfl, hb⟩
        exact ⟨hb, .inl ⟨_, rfl, rfl⟩⟩
      · rintro e w' ⟨hb, hr⟩
        rcases hr with ⟨v, wX, rfl, rfl, _⟩ | ⟨_, hf⟩
        · exact ⟨rfl, hb⟩
        · exact hf.elim
theorem reck_all_F (g : FuncId) (hcf : ∀ args w, (callFunc g args).run Try.prog w = .ok (.enter g args) w) (least : Nat) (hle2 : least ≤ 2) (s : Nat) (ok : Bool) (a : Option Addr) (len cap : Nat) (X : Nat → Nat) (w : World) (hl : len ≤ 1048576) (h : LstF w a len X) (hok : ok = (goodB len X && decide (least ≤ len)))
    (hcall : goodB len X = true → least ≤ len → len ≤ 64 → ∀ w1, LstF w1 a len X → Calls Try.prog g #[.slice a len cap] w1 fun e wX => e = .returned (.float .f32 s) ∧ Below w1.heap.size w1 wX) :
    Calls Try.prog 46 #[.slice a len cap, .int .i64 (least : Int), .func (.func g) #[] #[]] w fun e w' => e = .returned (.tuple #[.float .f32 (if ok = true then s else 0), .bool ok]) ∧ Below w.heap.size w w' := by
  by_cases h1 : len < least ∨ 64 < len
  · have hk : ok = false := by
      rw [hok]
      rcases h1 with h1 | h1
      · rw [decide_eq_false (by omega), Bool.and_false]
      · rw [← good_out h1, Bool.false_and]
    subst hk
    refine (reck_few_F a len cap least _ w hl hle2 h1).mono ?_
    rintro e w' ⟨rfl, hb⟩
    exact ⟨rfl, hb⟩
  · have hle : least ≤ len := by omega
    have h64 : len ≤ 64 := by omega
    rw [decide_eq_true hle, Bool.and_true] at hok
    cases hq : goodB len X
    · rw [hq] at hok
      subst hok
      refine (reck_bad_F a len cap least _ X w hle h64 h hq).mono ?_
      rintro e w' ⟨rfl, hb⟩
      exact ⟨rfl, hb⟩
    · rw [hq] at hok
      subst hok
      refine (reck_go_F (fun v _ => v = .float .f32 s) False g #[] hcf a len cap least X w hle h64 h hq (fun w1 hL _ _ => ?_)).mono ?_
      · refine (hcall hq hle h64 w1 hL).mono ?_
        rintro e wX ⟨rfl, hb⟩
        exact ⟨hb, .inl ⟨_, rfl, rfl⟩⟩
      · rintro e w' ⟨hb, hr⟩
        rcases hr with ⟨v, wX, rfl, rfl, _⟩ | ⟨_, hf⟩
        · exact ⟨rfl, hb⟩
        · exact hf.elim
theorem ent (f : FuncId) (fn : Func) (c : Code) (h1 : Try.prog.funcs[f]? = some fn) (h2 : (fn.name == "runtime.NumGoroutine") = false) (h3 : fn.body = some c) : ∀ args w, (callFunc f args).run Try.prog w = .ok (.enter f args) w :=
  fun args w => run_enter ⟨fn, c, h1, h2, h3⟩ args w
theorem ent_sum : ∀ args w, (callFunc 43 args).run Try.prog w = .ok (.enter 43 args) w := ent _ _ _ Try.func43 (by kernel_rfl) rfl
theorem ent_hal : ∀ args w, (callFunc 45 args).run Try.prog w = .ok (.enter 45 args) w := ent _ _ _ Try.func45 (by kernel_rfl) rfl
theorem ent_mean : ∀ args w, (callFunc 47 args).run Try.prog w = .ok (.enter 47 args) w := ent _ _ _ Try.func47 (by kernel_rfl) rfl
theorem ent_drift : ∀ args w, (callFunc 56 args).run Try.prog w = .ok (.enter 56 args) w := ent _ _ _ Try.func56 (by kernel_rfl) rfl
set_option maxHeartbeats 400000 in
theorem sumOf_any (a : Option Addr) (len cap : Nat) (X : Nat → Nat) (w : World) (h64 : len ≤ 64) (hfin : ∀ j, j < len → finB (X j) = true) (h : LstF w a len X) :
    Calls Try.prog 43 #[.slice a len cap] w fun e w' => e = .returned (.float .f64 (sumF 0 (els len X))) ∧ w' = w := by
  have H := Lib.hid h
  have Hfin := Lib.hid hfin
  clear h hfin
  go_enter Try.func43, Try.ntmps43
  go_wp2_with fail
  go_loopw [3, 8] (fun s i wr => ∃ k : Nat, i = .int .i64 k ∧ s = .float .f64 (sumF 0 (els k X)) ∧ k ≤ len ∧ wr = w)
    (fun _ i _ => len - (intOf i).toNat)
  case atStart => exact ⟨0, rfl, rfl, Nat.zero_le _, by first | rfl | trivial⟩
  case round =>
    obtain ⟨k, rfl, rfl, hk, hwr⟩ := hrel
    subst hwr
    by_cases hkl : k < len
    · obtain ⟨b, off, ha, hlt, hc⟩ := LstF.cells H.out (by omega)
      subst ha
      have a0 := hc k hkl
      have k1 := run_widF (Hfin.out k hkl)
      have k2 := fun w => run_float_arith (P := Try.prog) w .add 23 .f64 _ _ _ (sum_step (by omega) (fun j hj => Hfin.out j (by omega)) (Hfin.out k hkl))
      clear hc
      generalize sumF 0 (els k X) = s0 at *
      obtain ⟨s1, hs1⟩ : ∃ s1, sumF 0 (els (k + 1) X) = s1 := ⟨_, rfl⟩
      rw [hs1] at k2
      go_wp2_with fail
      go_roundw
      case rel => exact ⟨k + 1, by go_num, by rw [hs1], by omega, by first | rfl | trivial⟩
      case measure => simp [intOf]; omega
    · obtain rfl : k = len := by omega
      go_wp2_with fail
      go_ret
      exact ⟨rfl, rfl⟩
theorem impl_sum (a : Option Addr) (len cap : Nat) (X : Nat → Nat) (w : World) (hl : len ≤ 1048576) (h : LstF w a len X) :
    Calls Try.prog 18 #[.slice a len cap] w fun e w' => e = .returned (.tuple #[.float .f64 (sumN len X), .bool (goodB len X)]) ∧ Below w.heap.size w w' := by
  have HR := Lib.hid (reck_all_D _ ent_sum 0 (by omega) (sumF 0 (els len X)) (goodB len X) a len cap X w hl h (by simp) (fun hq _ h64 w1 hL => (sumOf_any a len cap X w1 h64 (good_iff.1 hq).2 hL).mono (by rintro e wX ⟨rfl, hw⟩; subst hw; exact ⟨rfl, Below.refl _ _⟩)))
  have Hs := Lib.hid (show (if goodB len X = true then sumF 0 (els len X) else 0) = sumN len X from rfl)
  rw [Hs.out] at HR
  clear h
  go_enter Try.func18, Try.ntmps18
  go_wp2_with fail
  refine HR.out.mono ?_
  rintro e w' ⟨rfl, hb⟩
  have Hb := Lib.hid hb
  clear hb
  go_wp2_with fail
  go_ret2
  exact ⟨rfl, Hb.out⟩
set_option maxHeartbeats 400000 in
theorem halves_any (b : Nat) : ∀ (n : Nat) (off cap : Nat) (X : Nat → Nat) (w : World), n ≤ 64 → n ≤ cap → cap ≤ maxLen → CellsF w b off n X → (∀ j, j < n → finB (X j) = true) →
    Calls Try.prog 45 #[.slice (some ⟨b, off, none⟩) n cap] w fun e w' => e = .returned (.float .f64 (halN n X)) ∧ ∃ m, w' = w.drewN m := by
  intro n
  induction n using Nat.strongRecOn with
  | ind n ih =>
    intro off cap X w hn hcap hcm hc hfin
    by_cases l0 : n = 0
    · subst l0
      clear ih hc hfin
      go_enter Try.func45, Try.ntmps45
      go_wp2_with fail
      go_ret
      exact ⟨rfl, 0, rfl⟩
    · by_cases l1 : n = 1
      · subst l1
        have a0 : w.cell? ⟨b, off, none⟩ = some (.float .f32 (X 0)) := hc 0 (by omega)
        have k1 := run_widF (hfin 0 (by omega))
        have Hv := Lib.hid (halN_one X)
        clear ih hc hfin
        go_enter Try.func45, Try.ntmps45
        go_wp2_with fail
        go_ret
        exact ⟨by rw [Hv.out]; rfl, 0, rfl⟩
      · obtain ⟨k, hk⟩ : ∃ k, n / 2 = k := ⟨_, rfl⟩
        have f1 : (n : Int).tdiv 2 = (k : Int) := by
          rw [Int.tdiv_eq_ediv_of_nonneg (by omega)]; omega
        have s1 := fun w => run_front b off n cap k w (by omega)
        have s2 := fun w => run_back b off n cap k w (by omega) hcap
        have Hk := fun w => run_float_arith (P := Try.prog) w .add 23 .f64 _ _ _ (hal_step (by omega) hn hk hfin)
        have hi1 := Lib.hid (fun m => ih k (by omega) off cap X (w.drewN m) (by omega) (by omega) hcm (fun i hi => hc i (by omega)) (fun j hj => hfin j (by omega)))
        have hi2 := Lib.hid (fun m => ih (n - k) (by omega) (off + k) (cap - k) (fun i => X (k + i)) (w.drewN m) (by omega) (by omega) (by omega) (fun i hi => by rw [Nat.add_assoc]; exact hc (k + i) (by omega)) (fun j hj => hfin (k + j) (by omega)))
        have hw1 : IntKind.i64.wrap (k : Int) = (k : Int) := by rw [IntKind.wrap_i64]; omega
        have e0 : ¬ ((n : Int) = 0) := by omega
        have e1 : ¬ ((n : Int) = 1) := by omega
        clear ih hc hfin hk
        go_enter Try.func45, Try.ntmps45
        generalize halN (n - k) (fun i => X (k + i)) = v2 at *
        generalize halN k X = v1 at *
        generalize halN n X = v at *
        go_wp2_with fail
        go_quiet (first | (with_reducible exact Calls.quiet_of (hi1.out _)) | (with_reducible exact Calls.quiet_of (hi2.out _)))
        go_wp2_with fail
        go_ret
        exact ⟨rfl, _, rfl⟩
theorem halves0 (a : Option Addr) (cap : Nat) (X : Nat → Nat) (w : World) :
    Calls Try.prog 45 #[.slice a 0 cap] w fun e w' => e = .returned (.float .f64 (halN 0 X)) ∧ ∃ m, w' = w.drewN m := by
  go_enter Try.func45, Try.ntmps45
  go_wp2_with fail
  go_ret
  exact ⟨rfl, 0, rfl⟩
theorem halvesL (a : Option Addr) (len cap : Nat) (X : Nat → Nat) (w : World) (h : LstF w a len X) (hn : len ≤ 64) (hc : len ≤ cap) (hm : cap ≤ maxLen) (hf : ∀ j, j < len → finB (X j) = true) :
    Calls Try.prog 45 #[.slice a len cap] w fun e w' => e = .returned (.float .f64 (halN len X)) ∧ ∃ m, w' = w.drewN m := by
  rcases h.2 with e | ⟨b, off, e, hlt, hcs⟩
  · subst e; exact halves0 a cap X w
  · subst e; exact halves_any b len off cap X w hn hc hm hcs hf
theorem impl_pair (a : Option Addr) (len cap : Nat) (X : Nat → Nat) (w : World) (hl : len ≤ cap) (h0 : len ≤ 1048576) (hm : cap ≤ maxLen) (h : LstF w a len X) :
    Calls Try.prog 22 #[.slice a len cap] w fun e w' => e = .returned (.tuple #[.float .f64 (pairN len X), .bool (goodB len X)]) ∧ Below w.heap.size w w' := by
  have HR := Lib.hid (reck_all_D _ ent_hal 0 (by omega) (halN len X) (goodB len X) a len cap X w h0 h (by simp) (fun hq _ h64 w1 hL => (halvesL a len cap X w1 hL h64 hl hm (good_iff.1 hq).2).mono (by rintro e wX ⟨rfl, m, rfl⟩; exact ⟨rfl, below_drewN (Below.refl _ _) _⟩)))
  have Hs := Lib.hid (show (if goodB len X = true then halN len X else 0) = pairN len X from rfl)
  rw [Hs.out] at HR
  clear h
  go_enter Try.func22, Try.ntmps22
  go_wp2_with fail
  refine HR.out.mono ?_
  rintro e w' ⟨rfl, hb⟩
  have Hb := Lib.hid hb
  clear hb
  go_wp2_with fail
  go_ret2
  exact ⟨rfl, Hb.out⟩
theorem meanOf_any (a : Option Addr) (len cap : Nat) (X : Nat → Nat) (w : World) (hg : meanB len X = true) (h : LstF w a len X) :
    Calls Try.prog 47 #[.slice a len cap] w fun e w' => e = .returned (.float .f32 (meanN len X)) ∧ w' = w := by
  have H := Lib.hid h
  clear h
  obtain ⟨h64, h1, f1, f2⟩ := mean_facts hg
  have hq : goodB len X = true := by unfold meanB at hg; rw [Bool.and_eq_true] at hg; exact hg.1
  have hs : sumF 0 (els len X) = sumN len X := by unfold sumN; rw [if_pos hq]
  have hsum := Lib.hid (sumOf_any a len cap X w h64 (good_iff.1 hq).2 H.out)
  rw [hs] at hsum
  have k1 := fun w => run_float_arith (P := Try.prog) w .quo 23 .f64 _ _ _ f1
  have k2 := fun w => run_convert_float_float (P := Try.prog) w 23 30 .f64 .f32 _ _ (by rw [Try.underlying23]; rfl) Try.underlying30 f2
  have k3 := fun w => run_convert_int_float (P := Try.prog) w 3 23 .i64 .f64 (len : Int) (by rw [Try.underlying3]; rfl) Try.underlying23
  clear f1 f2 hs hq hg
  go_enter Try.func47, Try.ntmps47
  obtain ⟨m, hm⟩ : ∃ m, meanN len X = m := ⟨_, rfl⟩
  rw [hm] at k2
  have Hm := Lib.hid hm
  clear hm
  generalize sumN len X = s at *
  generalize quoW s len = q at *
  generalize floatOfInt .f64 (len : Int) = l at *
  go_wp2_with fail
  refine hsum.out.mono ?_
  rintro e w1 ⟨rfl, hw⟩
  subst w1
  go_wp2_with fail
  go_ret
  exact ⟨by rw [Hm.out]; rfl, rfl⟩
theorem impl_mean (a : Option Addr) (len cap : Nat) (X : Nat → Nat) (w : World) (hl : len ≤ 1048576) (h : LstF w a len X) :
    Calls Try.prog 24 #[.slice a len cap] w fun e w' => e = .returned (.tuple #[.float .f32 (meanN len X), .bool (meanB len X)]) ∧ Below w.heap.size w w' := by
  have HR := Lib.hid (reck_all_F _ ent_mean 1 (by omega) (meanN len X) (meanB len X) a len cap X w hl h rfl (fun hq h1 h64 w1 hL => (meanOf_any a len cap X w1 (by unfold meanB; rw [hq, decide_eq_true h1]; rfl) hL).mono (by rintro e wX ⟨rfl, hw⟩; subst hw; exact ⟨rfl, Below.refl _ _⟩)))
  have Hs := Lib.hid (show (if meanB len X = true then meanN len X else 0) = meanN len X by
    split
    · rfl
    · rename_i hb; unfold meanN; rw [if_neg hb])
  rw [Hs.out] at HR
  clear h
  go_enter Try.func24, Try.ntmps24
  go_wp2_with fail
  refine HR.out.mono ?_
  rintro e w' ⟨rfl, hb⟩
  have Hb := Lib.hid hb
  clear hb
  go_wp2_with fail
  go_ret2
  exact ⟨rfl, Hb.out⟩
set_option maxHeartbeats 800000 in
theorem driftOf_any (a : Option Addr) (len cap : Nat) (X : Nat → Nat) (w : World) (h64 : len ≤ 64) (h2 : 2 ≤ len) (hfin : ∀ j, j < len → finB (X j) = true) (h : LstF w a len X) :
    Calls Try.prog 56 #[.slice a len cap] w fun e w' => e = .returned (.float .f64 (drF len X)) ∧ w' = w := by
  have H := Lib.hid h
  have Hfin := Lib.hid hfin
  have k0 := run_int_dbl
  clear h hfin
  go_enter Try.func56, Try.ntmps56
  go_wp2_with fail
  go_loopw [4, 11] (fun s i wr => ∃ k : Nat, i = .int .i64 k ∧ s = .float .f64 (drS len X k) ∧ k ≤ len ∧ wr = w)
    (fun _ i _ => len - (intOf i).toNat)
  case atStart => exact ⟨0, rfl, rfl, Nat.zero_le _, by first | rfl | trivial⟩
  case round =>
    obtain ⟨k, rfl, rfl, hk, hwr⟩ := hrel
    subst hwr
    by_cases hkl : k < len
    · obtain ⟨b, off, ha, hlt, hc⟩ := LstF.cells H.out (by omega)
      subst ha
      have a0 := hc k hkl
      obtain ⟨p1, p2, _⟩ := dr_step h64 Hfin.out hkl
      have k1 := run_widF (Hfin.out k hkl)
      have k2 := fun w => run_float_arith (P := Try.prog) w .mul 23 .f64 _ _ _ p1
      have k3 := fun w => run_float_arith (P := Try.prog) w .add 23 .f64 _ _ _ p2
      have w0 : IntKind.i64.wrap ((2 : Int) * (k : Int)) = 2 * (k : Int) := by rw [IntKind.wrap_i64]; omega
      have w1 : IntKind.i64.wrap ((len : Int) - 1) = (len : Int) - 1 := by rw [IntKind.wrap_i64]; omega
      have w2 : IntKind.i64.wrap ((2 : Int) * (k : Int) - ((len : Int) - 1)) = drC len k := by rw [IntKind.wrap_i64]; unfold drC; omega
      clear hc p1 p2
      generalize drS len X k = s0 at *
      obtain ⟨s1, hs1⟩ : ∃ s1, drS len X (k + 1) = s1 := ⟨_, rfl⟩
      rw [hs1] at k3
      generalize mulD (floatOfInt .f64 (drC len k)) (widen (X k)) = p at *
      go_wp2_with fail
      go_roundw
      case rel => exact ⟨k + 1, by go_num, by rw [hs1], by omega, by first | rfl | trivial⟩
      case measure => simp [intOf]; omega
    · obtain rfl : k = len := by omega
      obtain ⟨p1, p2, _⟩ := dr_end h2 h64 Hfin.out
      have k2 := fun w => run_float_arith (P := Try.prog) w .mul 23 .f64 _ _ _ p1
      have k3 := fun w => run_float_arith (P := Try.prog) w .quo 23 .f64 _ _ _ p2
      have hm1 : k * k ≤ 64 * 64 := Nat.mul_le_mul h64 h64
      have hm2 : 2 * 2 ≤ k * k := Nat.mul_le_mul h2 h2
      have hm3 : k * (k * k - 1) ≤ 64 * (64 * 64) := Nat.mul_le_mul h64 (by omega)
      have e1 : wrap64 (wrap64 ((k : Int) * (k : Int)) - 1) = ((k * k - 1 : Nat) : Int) := by
        unfold wrap64; rw [← Int.natCast_mul]; omega
      have hW := Lib.hid (show wrap64 ((k : Int) * wrap64 (wrap64 ((k : Int) * (k : Int)) - 1)) = (drD k : Int) by
        rw [e1, ← Int.natCast_mul]
        unfold wrap64 drD
        omega)
      clear e1
      clear p1 p2 hm1 hm2 hm3
      generalize drT k X = t at *
      obtain ⟨r, hr⟩ : ∃ r, drF k X = r := ⟨_, rfl⟩
      rw [hr] at k3
      have Hr := Lib.hid hr
      clear hr
      go_wp2_with fail
      rw [hW.out, k3]
      go_wp2_with fail
      go_ret
      exact ⟨by rw [Hr.out]; rfl, rfl⟩
theorem impl_drift (a : Option Addr) (len cap : Nat) (X : Nat → Nat) (w : World) (hl : len ≤ 1048576) (h : LstF w a len X) :
    Calls Try.prog 34 #[.slice a len cap] w fun e w' => e = .returned (.tuple #[.float .f64 (driftN len X), .bool (driftB len X)]) ∧ Below w.heap.size w w' := by
  have HR := Lib.hid (reck_all_D _ ent_drift 2 (by omega) (drF len X) (driftB len X) a len cap X w hl h rfl (fun hq h1 h64 w1 hL => (driftOf_any a len cap X w1 h64 h1 (good_iff.1 hq).2 hL).mono (by rintro e wX ⟨rfl, hw⟩; subst hw; exact ⟨rfl, Below.refl _ _⟩)))
  have Hs := Lib.hid (show (if driftB len X = true then drF len X else 0) = driftN len X from rfl)
  rw [Hs.out] at HR
  clear h
  go_enter Try.func34, Try.ntmps34
  go_wp2_with fail
  refine HR.out.mono ?_
  rintro e w' ⟨rfl, hb⟩
  have Hb := Lib.hid hb
  clear hb
  go_wp2_with fail
  go_ret2
  exact ⟨rfl, Hb.out⟩
set_option maxHeartbeats 400000 in
theorem impl_count (a : Option Addr) (len cap : Nat) (X : Nat → Nat) (x : Nat) (w : World) (hl : len ≤ 1048576) (h : LstF w a len X) :
    Calls Try.prog 38 #[.slice a len cap, .float .f32 x] w fun e w' => e = .returned (.int .i64 (cntN len X x : Int)) ∧ w' = w := by
  have H := Lib.hid h
  clear h
  by_cases h64 : 64 < len
  · have Hs := Lib.hid (show cntN len X x = 0 by unfold cntN; rw [if_neg (by omega)])
    go_enter Try.func38, Try.ntmps38
    go_wp2_with fail
    go_ret
    exact ⟨by rw [Hs.out]; rfl, rfl⟩
  · have Hs := Lib.hid (show cntN len X x = cnt X x len by unfold cntN; rw [if_pos (by omega)])
    have h65 : (len : Int) ≤ 64 := by omega
    go_enter Try.func38, Try.ntmps38
    go_wp2_with fail
    go_loopw [5, 13] (fun c i wr => ∃ k : Nat, i = .int .i64 k ∧ c = .int .i64 (cnt X x k : Int) ∧ k ≤ len ∧ wr = w)
      (fun _ i _ => len - (intOf i).toNat)
    case atStart => exact ⟨0, rfl, rfl, Nat.zero_le _, by first | rfl | trivial⟩
    case round =>
      obtain ⟨k, rfl, rfl, hk, hwr⟩ := hrel
      subst hwr
      by_cases hkl : k < len
      · obtain ⟨b, off, ha, hlt, hc⟩ := LstF.cells H.out (by omega)
        subst ha
        have a0 := hc k hkl
        have hkl' : (k : Int) < len := by omega
        have hcn := cnt_le X x k
        obtain ⟨c0, hc0⟩ : ∃ c, cnt X x k = c := ⟨_, rfl⟩
        rw [hc0] at hcn ⊢
        obtain ⟨b1, hb1⟩ : ∃ c, eqB (X k) x = c := ⟨_, rfl⟩
        have Hn := Lib.hid (show cnt X x (k + 1) = c0 + if b1 = true then 1 else 0 by
          show cnt X x k + _ = _
          rw [hc0, hb1])
        unfold eqB at hb1
        have hw1 : IntKind.i64.wrap ((c0 : Int) + 1) = ((c0 + 1 : Nat) : Int) := by rw [IntKind.wrap_i64]; omega
        clear hc hc0
        cases b1
        · go_wp2_with fail
          go_roundw
          case rel => exact ⟨k + 1, by go_num, by rw [Hn.out]; rfl, by omega, by first | rfl | trivial⟩
          case measure => simp [intOf]; omega
        · go_wp2_with fail
          go_roundw
          case rel => exact ⟨k + 1, by go_num, by rw [Hn.out]; rfl, by omega, by first | rfl | trivial⟩
          case measure => simp [intOf]; omega
      · obtain rfl : k = len := by omega
        have hkl' : ¬ (k : Int) < k := by omega
        go_wp2_with fail
        go_ret
        exact ⟨by rw [Hs.out]; rfl, rfl⟩
end Go.Proofs.Ytlbapogmcnpmeaa.Avg
