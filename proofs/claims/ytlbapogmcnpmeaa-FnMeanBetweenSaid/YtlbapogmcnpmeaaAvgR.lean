/- Spread and middle one in the model: SpreadOf, MiddleOf. -/
import Derived.Test.YtlbapogmcnpmeaaAvgS
namespace Go.Proofs.Ytlbapogmcnpmeaa.Avg
open Go.ChangeShapes Go.WideShapes Go.ChangeAt Go.RowKit Go.Deep Go.Proofs.Ytlbapogmcnpmeaa Go.Proofs.Ytlbapogmcnpmeaa.Flt Go.Proofs.Ytlbapogmcnpmeaa.Mth Go.Proofs.Ytlbapogmcnpmeaa.Sgl
open Ieee (single double)
set_option linter.unusedVariables false
/-- what is sorted is of the list -/
theorem srt_mem (X : Nat → Nat) : ∀ n j, j < n → ∃ i, i < n ∧ srt X n j = X i
  | 0, j, h => absurd h (Nat.not_lt_zero _)
  | n + 1, j, h => by
    have hp := posn_le (srt X n) (X n) n
    show ∃ i, i < n + 1 ∧ insF (srt X n) (posn (srt X n) (X n) n) (X n) j = X i
    unfold insF
    by_cases h1 : j < posn (srt X n) (X n) n
    · obtain ⟨i, hi, e⟩ := srt_mem X n j (by omega)
      exact ⟨i, by omega, by rw [if_pos h1]; exact e⟩
    · rw [if_neg h1]
      by_cases h2 : j = posn (srt X n) (X n) n
      · exact ⟨n, by omega, by rw [if_pos h2]⟩
      · obtain ⟨i, hi, e⟩ := srt_mem X n (j - 1) (by omega)
        exact ⟨i, by omega, by rw [if_neg h2]; exact e⟩
/-- what MiddleOf answers -/
def midN (n : Nat) (X : Nat → Nat) : Nat := if meanB n X = true then srt X n ((n - 1) / 2) else 0
/-- the difference of the last and the first -/
def sprD (n : Nat) (X : Nat → Nat) : Nat := subB (srt X n (n - 1)) (srt X n 0)
def sprB (n : Nat) (X : Nat → Nat) : Bool := meanB n X && finB (sprD n X)
def sprN (n : Nat) (X : Nat → Nat) : Nat := if sprB n X = true then sprD n X else 0
theorem meanB_iff {n : Nat} {X : Nat → Nat} : meanB n X = true ↔ goodB n X = true ∧ 1 ≤ n := by
  unfold meanB; rw [Bool.and_eq_true, decide_eq_true_iff]
set_option maxHeartbeats 400000 in
theorem spec_middle (a : Option Addr) (len cap : Nat) (X : Nat → Nat) (w : World) (hl : len ≤ 1048576) (h : LstF w a len X) :
    Calls Try.prog 27 #[.slice a len cap] w fun e w' => e = .returned (.tuple #[.float .f32 (midN len X), .bool (meanB len X)]) ∧ Below w.heap.size w w' := by
  have H := Lib.hid h
  have Hst := Lib.hid (Below.refl w.heap.size w)
  clear h
  cases hg : meanB len X
  · have Hs := Lib.hid (show 0 = midN len X by unfold midN; rw [if_neg (by rw [hg]; exact Bool.false_ne_true)])
    cases hq : goodB len X
    · go_enter Try.func27, Try.ntmps27
      go_wp2_with fail
      refine (good_any _ _ _ X _ hl H.out).mono ?_
      rintro e w1 ⟨rfl, n, rfl⟩
      rw [hq]
      go_wp2_with fail
      go_ret2
      exact ⟨by rw [← Hs.out]; rfl, below_drewN Hst.out n⟩
    · have h0 : Hid (len = 0) := Lib.hid <| by
        unfold meanB at hg
        rw [hq, Bool.true_and] at hg
        have := of_decide_eq_false hg
        omega
      go_enter Try.func27, Try.ntmps27
      go_wp2_with fail
      refine (good_any _ _ _ X _ hl H.out).mono ?_
      rintro e w1 ⟨rfl, n, rfl⟩
      rw [hq]
      have h1 : (len : Int) = 0 := by rw [h0.out]; rfl
      go_wp2_with fail
      go_ret2
      exact ⟨by rw [← Hs.out]; rfl, below_drewN Hst.out n⟩
  · obtain ⟨hq, h1⟩ := meanB_iff.1 hg
    have h64 := (good_iff.1 hq).1
    have Hs := Lib.hid (show midN len X = srt X len ((len - 1) / 2) by unfold midN; rw [if_pos hg])
    obtain ⟨k, hk⟩ : ∃ k, (len - 1) / 2 = k := ⟨_, rfl⟩
    rw [hk] at Hs
    have hkl : k < len := by omega
    have e0 : ¬ (len : Int) = 0 := by omega
    have hw1 : IntKind.i64.wrap ((len : Int) - 1) = (len : Int) - 1 := by rw [IntKind.wrap_i64]; omega
    have f1 : ((len : Int) - 1).tdiv 2 = (k : Int) := by rw [Int.tdiv_eq_ediv_of_nonneg (by omega)]; omega
    have hw2 : IntKind.i64.wrap (k : Int) = (k : Int) := by rw [IntKind.wrap_i64]; omega
    clear hg hk
    go_enter Try.func27, Try.ntmps27
    go_wp2_with fail
    refine (good_any _ _ _ X _ hl H.out).mono ?_
    rintro e w1 ⟨rfl, n, rfl⟩
    rw [hq]
    clear hq
    go_wp2_with fail
    refine (spec_sorted _ _ _ X _ h64 (LstF.drew H.out n)).mono ?_
    rintro e w2 ⟨g, cp, rfl, hown, hbel⟩
    have hc := (ownF_cells hown).2.2.2 k hkl
    rw [Nat.zero_add] at hc
    have H2 := Lib.hid (show Below w.heap.size w w2 from (below_drewN Hst.out n).trans hbel)
    obtain ⟨y, hy⟩ : ∃ y, srt X len k = y := ⟨_, rfl⟩
    rw [hy] at hc
    have Hy := Lib.hid hy
    clear hown hbel hy
    go_wp2_with fail
    go_ret2
    exact ⟨by rw [Hs.out, Hy.out]; rfl, H2.out⟩
set_option maxHeartbeats 400000 in
theorem spec_spread (a : Option Addr) (len cap : Nat) (X : Nat → Nat) (w : World) (hl : len ≤ 1048576) (h : LstF w a len X) :
    Calls Try.prog 25 #[.slice a len cap] w fun e w' => e = .returned (.tuple #[.float .f32 (sprN len X), .bool (sprB len X)]) ∧ Below w.heap.size w w' := by
  have H := Lib.hid h
  have Hst := Lib.hid (Below.refl w.heap.size w)
  clear h
  cases hg : meanB len X
  · have Hs := Lib.hid (show 0 = sprN len X ∧ false = sprB len X by
      have : sprB len X = false := by unfold sprB; rw [hg]; rfl
      unfold sprN; rw [if_neg (by rw [this]; exact Bool.false_ne_true), this]; exact ⟨rfl, rfl⟩)
    cases hq : goodB len X
    · go_enter Try.func25, Try.ntmps25
      go_wp2_with fail
      refine (good_any _ _ _ X _ hl H.out).mono ?_
      rintro e w1 ⟨rfl, n, rfl⟩
      rw [hq]
      go_wp2_with fail
      go_ret2
      exact ⟨by rw [← Hs.out.1, ← Hs.out.2]; rfl, below_drewN Hst.out n⟩
    · have h0 : Hid (len = 0) := Lib.hid <| by
        unfold meanB at hg
        rw [hq, Bool.true_and] at hg
        have := of_decide_eq_false hg
        omega
      go_enter Try.func25, Try.ntmps25
      go_wp2_with fail
      refine (good_any _ _ _ X _ hl H.out).mono ?_
      rintro e w1 ⟨rfl, n, rfl⟩
      rw [hq]
      have h1 : (len : Int) = 0 := by rw [h0.out]; rfl
      go_wp2_with fail
      go_ret2
      exact ⟨by rw [← Hs.out.1, ← Hs.out.2]; rfl, below_drewN Hst.out n⟩
  · obtain ⟨hq, h1⟩ := meanB_iff.1 hg
    obtain ⟨h64, hfin⟩ := good_iff.1 hq
    obtain ⟨i0, hi0, m0⟩ := srt_mem X len 0 (by omega)
    obtain ⟨i1, hi1, m1⟩ := srt_mem X len (len - 1) (by omega)
    have f0 : finB (srt X len 0) = true := by rw [m0]; exact hfin i0 hi0
    have f1 : finB (srt X len (len - 1)) = true := by rw [m1]; exact hfin i1 hi1
    have Hd := Lib.hid (show subB (srt X len (len - 1)) (srt X len 0) = sprD len X from rfl)
    have ks := fun w => run_float_arith (P := Try.prog) w .sub 30 .f32 _ _ _ (sub_fin f1 f0)
    rw [Hd.out] at ks
    have Hb := Lib.hid (show sprB len X = finB (sprD len X) by unfold sprB; rw [hg]; rfl)
    have Hv := Lib.hid (show sprN len X = if finB (sprD len X) = true then sprD len X else 0 by unfold sprN; rw [Hb.out])
    obtain ⟨k, hk⟩ : ∃ k, len - 1 = k := ⟨_, rfl⟩
    rw [hk] at ks
    have hkl : k < len := by omega
    have e0 : ¬ (len : Int) = 0 := by omega
    have hw1 : IntKind.i64.wrap ((len : Int) - 1) = (k : Int) := by rw [IntKind.wrap_i64]; omega
    clear hg m0 m1 f0 f1 hfin
    go_enter Try.func25, Try.ntmps25
    go_wp2_with fail
    refine (good_any _ _ _ X _ hl H.out).mono ?_
    rintro e w1 ⟨rfl, n, rfl⟩
    rw [hq]
    clear hq
    go_wp2_with fail
    refine (spec_sorted _ _ _ X _ h64 (LstF.drew H.out n)).mono ?_
    rintro e w2 ⟨g, cp, rfl, hown, hbel⟩
    have hc := (ownF_cells hown).2.2.2 k hkl
    have hc0 := (ownF_cells hown).2.2.2 0 (by omega)
    rw [Nat.zero_add] at hc
    have hc1 : w2.cell? ⟨g, 0, none⟩ = some (.float .f32 (srt X len 0)) := hc0
    have H2 := Lib.hid (show Below w.heap.size w w2 from (below_drewN Hst.out n).trans hbel)
    obtain ⟨d, hd⟩ : ∃ d, sprD len X = d := ⟨_, rfl⟩
    rw [hd] at ks
    have Hdd := Lib.hid hd
    have kw := fun w => run_widX (P := Try.prog) 30 23 d (by rw [Try.underlying30]; rfl) Try.underlying23 w
    clear hown hbel hd hc0
    generalize srt X len k = y at *
    generalize srt X len 0 = z at *
    go_wp2_with fail
    go_quiet (fail)
    go_wp2_with fail
    refine (fineS_any _ _).mono ?_
    rintro e w3 ⟨rfl, n3, rfl⟩
    rw [isFin_wid (widX_wid d _)]
    have H3 := Lib.hid (fun q : Nat => below_drewN H2.out q)
    cases hf : finB d
    · have Hf := Lib.hid (show sprN len X = 0 ∧ sprB len X = false by
        rw [Hb.out, Hv.out, Hdd.out, hf]; exact ⟨rfl, rfl⟩)
      go_wp2_with fail
      go_ret2
      exact ⟨by rw [Hf.out.1, Hf.out.2]; rfl, H3.out _⟩
    · have Hf := Lib.hid (show sprN len X = d ∧ sprB len X = true by
        rw [Hb.out, Hv.out, Hdd.out, hf]; exact ⟨rfl, rfl⟩)
      go_wp2_with fail
      go_ret2
      exact ⟨by rw [Hf.out.1, Hf.out.2]; rfl, H3.out _⟩
end Go.Proofs.Ytlbapogmcnpmeaa.Avg
