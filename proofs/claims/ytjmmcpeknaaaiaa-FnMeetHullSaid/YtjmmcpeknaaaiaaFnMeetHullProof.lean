/- Proves FnMeetHull: for every input the law returns true and its arguments read as before. No further condition. -/
import Derived.Test.YtjmmcpeknaaaiaaRows
import Derived.WalkKit
import Derived.WalkLawsBesides
import Derived.ProofKit
import Derived.OpenShut
import Derived.ShutString
import Derived.ChangeOld
import Derived.Below
import Derived.Test.YtjmmcpeknaaaiaaFacts
import Derived.Test.YtjmmcpeknaaaiaaSpnW
import Derived.Test.YtjmmcpeknaaaiaaSpnE
import Derived.Test.YtjmmcpeknaaaiaaSpnS
import Derived.Deep.RegionHeld
import Derived.Test.YtjmmcpeknaaaiaaSpnD

namespace Go.Proofs.Ytjmmcpeknaaaiaa.Spn
open Go.ChangeShapes Go.WideShapes Go.ChangeAt Go.RowKit Go.Deep Go.Proofs.Ytjmmcpeknaaaiaa Go.Proofs.Ytjmmcpeknaaaiaa.Flt Go.Proofs.Ytjmmcpeknaaaiaa.Mth
open Ieee (single double)
set_option linter.unusedVariables false
set_option linter.unusedSimpArgs false
set_option maxRecDepth 20000
theorem impl_holds (x y v : Nat) (w : World) :
    Calls Try.prog 35 #[pv x y, .float .f64 v] w fun e w' => e = .returned (.bool (hdB x y v)) ∧ Below w.heap.size w w' := by
  have h := fun w => impl_ok x y w
  cases hl : leB x y
  · rw [show hdB x y v = false by unfold hdB; rw [hl]; rfl]
    rw [hl] at h
    clear hl
    unfold pv at h ⊢
    go_enter Try.func35, Try.ntmps35
    go_wp2_with fail
    refine (h _).mono ?_
    rintro e w' ⟨rfl, rfl⟩
    go_wp2_with fail
    go_ret
    exact ⟨rfl, by go_grown⟩
  · obtain ⟨nx, ny, _⟩ := le_iff.1 hl
    have kx := run_wid nx
    have ky := run_wid ny
    rw [show hdB x y v = (geD v (widen x) && leD v (widen y)) by unfold hdB; rw [hl]; rfl]
    rw [hl] at h
    clear hl nx ny
    unfold pv at h ⊢
    generalize widen x = p at *
    generalize widen y = q at *
    cases hg : geD v p
    · unfold geD at hg
      go_enter Try.func35, Try.ntmps35
      go_wp2_with fail
      refine (h _).mono ?_
      rintro e w' ⟨rfl, rfl⟩
      go_wp2_with fail
      go_ret
      exact ⟨rfl, by go_grown⟩
    · unfold geD at hg
      obtain ⟨b, hb⟩ : ∃ b, leD v q = b := ⟨_, rfl⟩
      rw [hb]
      unfold leD at hb
      go_enter Try.func35, Try.ntmps35
      go_wp2_with fail
      refine (h _).mono ?_
      rintro e w' ⟨rfl, rfl⟩
      go_wp2_with fail
      go_ret
      exact ⟨ret_bool (by simp [*]), by go_grown⟩
theorem spec_holds (x y v : Nat) (w : World) :
    Calls Try.prog 46 #[pv x y, .float .f64 v] w fun e w' => e = .returned (.bool (hdB x y v)) ∧ Below w.heap.size w w' := by
  have h := fun w => spec_ok x y w
  cases hl : leB x y
  · rw [show hdB x y v = false by unfold hdB; rw [hl]; rfl]
    rw [hl] at h
    clear hl
    unfold pv at h ⊢
    go_enter Try.func46, Try.ntmps46
    go_wp2_with fail
    refine (h _).mono ?_
    rintro e w' ⟨rfl, rfl⟩
    go_wp2_with fail
    go_ret
    exact ⟨rfl, by go_grown⟩
  · obtain ⟨nx, ny, _⟩ := le_iff.1 hl
    have kx := run_wid nx
    have ky := run_wid ny
    rw [show hdB x y v = (geD v (widen x) && leD v (widen y)) by unfold hdB; rw [hl]; rfl]
    rw [hl] at h
    clear hl nx ny
    unfold pv at h ⊢
    generalize widen x = p at *
    generalize widen y = q at *
    cases hg : geD v p
    · unfold geD at hg
      go_enter Try.func46, Try.ntmps46
      go_wp2_with fail
      refine (h _).mono ?_
      rintro e w' ⟨rfl, rfl⟩
      go_wp2_with fail
      go_ret
      exact ⟨rfl, by go_grown⟩
    · unfold geD at hg
      obtain ⟨b, hb⟩ : ∃ b, leD v q = b := ⟨_, rfl⟩
      rw [hb]
      unfold leD at hb
      go_enter Try.func46, Try.ntmps46
      go_wp2_with fail
      refine (h _).mono ?_
      rintro e w' ⟨rfl, rfl⟩
      go_wp2_with fail
      go_ret
      exact ⟨ret_bool (by simp [*]), by go_grown⟩
theorem l07fine (x y : Nat) (w : World) :
    Calls Try.prog 82 #[pv x y] w fun e w' => e = .returned (.bool (widB x y)) ∧ Below w.heap.size w w' := by
  have h := fun w => spec_ok x y w
  cases hl : leB x y
  · rw [show widB x y = false by unfold widB; rw [hl]; rfl]
    rw [hl] at h
    clear hl
    unfold pv at h ⊢
    go_enter Try.func82, Try.ntmps82
    go_wp2_with fail
    refine (h _).mono ?_
    rintro e w' ⟨rfl, rfl⟩
    go_wp2_with fail
    go_ret
    exact ⟨rfl, by go_grown⟩
  · obtain ⟨nx, ny, _⟩ := le_iff.1 hl
    have kx := run_wid nx
    have ky := run_wid ny
    have fx := fun w => fine_any (widen x) w
    have fy := fun w => fine_any (widen y) w
    rw [show isFinD (widen x) = fnS x from isFin_widen x] at fx
    rw [show isFinD (widen y) = fnS y from isFin_widen y] at fy
    rw [show widB x y = (fnS x && fnS y) by unfold widB; rw [hl]; rfl]
    rw [hl] at h
    clear hl nx ny
    unfold pv at h ⊢
    generalize widen x = p at *
    generalize widen y = q at *
    cases hb : fnS x
    · rw [hb] at fx
      clear hb
      go_enter Try.func82, Try.ntmps82
      go_wp2_with fail
      refine (h _).mono ?_
      rintro e w' ⟨rfl, rfl⟩
      go_wp2_with fail
      refine (fx _).mono ?_
      rintro e w1 ⟨rfl, n, hw1⟩
      subst w1
      go_wp2_with fail
      go_ret
      exact ⟨rfl, below_drewN (by go_grown) _⟩
    · rw [hb] at fx
      generalize fnS y = c at *
      clear hb
      go_enter Try.func82, Try.ntmps82
      go_wp2_with fail
      refine (h _).mono ?_
      rintro e w' ⟨rfl, rfl⟩
      go_wp2_with fail
      refine (fx _).mono ?_
      rintro e w1 ⟨rfl, n, hw1⟩
      subst w1
      go_wp2_with fail
      refine (fy _).mono ?_
      rintro e w1 ⟨rfl, m, hw1⟩
      subst w1
      go_wp2_with fail
      go_ret
      exact ⟨rfl, below_drewN (by go_grown) _⟩
theorem spec_width (x y : Nat) (w : World) :
    Calls Try.prog 53 #[pv x y] w fun e w' => e = .returned (.float .f64 (widW x y)) ∧ Below w.heap.size w w' := by
  have h := fun w => l07fine x y w
  have hno : widB x y = false → widW x y = 13830554455654793216 := fun hb => by unfold widW; rw [hb]; rfl
  have hsub := fun hb : widB x y = true => fun w => run_float_arith (P := Try.prog) w .sub 28 .f64 _ _ _ (wid_sub hb)
  have hnan : widB x y = true → isNaN single x = false ∧ isNaN single y = false := fun hb => by
    unfold widB at hb
    rw [Bool.and_eq_true] at hb
    obtain ⟨n1, n2, _⟩ := le_iff.1 hb.1
    exact ⟨n1, n2⟩
  cases hb : widB x y
  · rw [hno hb]
    rw [hb] at h
    clear hno hsub hb hnan
    unfold pv at h ⊢
    go_enter Try.func53, Try.ntmps53
    go_wp2_with fail
    refine (h _).mono ?_
    rintro e w1 ⟨rfl, hb1⟩
    have H1 := Lib.hid (Below.trans (show Below w.heap.size w _ by go_grown) (hb1.mono (by simp)))
    clear hb1
    go_wp2_with fail
    go_ret
    exact ⟨rfl, H1.out⟩
  · have ks := hsub hb
    have kx := run_wid (hnan hb).1
    have ky := run_wid (hnan hb).2
    rw [hb] at h
    clear hno hsub hb hnan
    unfold pv at h ⊢
    generalize widen x = p at *
    generalize widen y = q at *
    generalize widW x y = d at *
    go_enter Try.func53, Try.ntmps53
    go_wp2_with fail
    refine (h _).mono ?_
    rintro e w1 ⟨rfl, hb1⟩
    have H1 := Lib.hid (Below.trans (show Below w.heap.size w _ by go_grown) (hb1.mono (by simp)))
    have d0 : w1.cell? ⟨w.heap.size, 0, none⟩ = some (.float .f32 x) := by rw [hb1.cell (by simp)]; go_cell
    have d1 : w1.cell? ⟨w.heap.size, 1, none⟩ = some (.float .f32 y) := by rw [hb1.cell (by simp)]; go_cell
    clear hb1
    go_wp2_with fail
    go_ret
    exact ⟨rfl, H1.out⟩
end Go.Proofs.Ytjmmcpeknaaaiaa.Spn

namespace Go.Proofs.Ytjmmcpeknaaaiaa.Spn
open Go.ChangeShapes Go.WideShapes Go.ChangeAt Go.RowKit Go.Deep Go.Proofs.Ytjmmcpeknaaaiaa Go.Proofs.Ytjmmcpeknaaaiaa.Flt Go.Proofs.Ytjmmcpeknaaaiaa.Mth
open Ieee (single double)
set_option linter.unusedVariables false
set_option linter.unusedSimpArgs false
set_option maxRecDepth 20000
/-- what is common to the first spans of a list, and whether they have anything in common -/
def agP (X : Nat → Nat) : Nat → Nat × Nat
  | 0 => (X 0, X 1)
  | k + 1 => meetS (agP X k).1 (agP X k).2 (X (k * 2)) (X (k * 2 + 1))
def agO (X : Nat → Nat) : Nat → Bool
  | 0 => true
  | k + 1 => agO X k && meetB (agP X k).1 (agP X k).2 (X (k * 2)) (X (k * 2 + 1))
def okA (n : Nat) (X : Nat → Nat) : Bool := decide (1 ≤ n) && (decide (n ≤ 64) && agO X n)
def agS (n : Nat) (X : Nat → Nat) : Nat × Nat := if okA n X = true then agP X n else (0, 0)
theorem agP_wf {X : Nat → Nat} {n : Nat} (h1 : 1 ≤ n) (hw : Wf n X) : ∀ k, k ≤ n → (Lit.float .f32 (agP X k).1).wf = true ∧ (Lit.float .f32 (agP X k).2).wf = true
  | 0, _ => hw 0 h1
  | k + 1, hk => by
    obtain ⟨a1, a2⟩ := agP_wf h1 hw k (by omega)
    obtain ⟨b1, b2⟩ := hw k (by omega)
    show (Lit.float .f32 (meetS _ _ _ _).1).wf = true ∧ (Lit.float .f32 (meetS _ _ _ _).2).wf = true
    unfold meetS
    split
    · unfold meetL meetH
      exact ⟨by dsimp only; split <;> assumption, by dsimp only; split <;> assumption⟩
    · exact ⟨by decide, by decide⟩
theorem agO_no {X : Nat → Nat} : ∀ n k, k ≤ n → agO X k = false → agO X n = false
  | 0, k, hk, h => by rw [show k = 0 by omega] at h; exact h
  | n + 1, k, hk, h => by
    by_cases e : k = n + 1
    · rw [e] at h; exact h
    · have := agO_no n k (by omega) h
      show (agO X n && _) = false
      rw [this]; rfl
theorem okA_few {n : Nat} {X : Nat → Nat} (h : n < 1 ∨ 64 < n) : okA n X = false := by
  unfold okA
  rcases h with h | h
  · rw [decide_eq_false (by omega), Bool.false_and]
  · rw [decide_eq_false (p := n ≤ 64) (by omega), Bool.false_and, Bool.and_false]
theorem okA_ag {n : Nat} {X : Nat → Nat} (h1 : 1 ≤ n) (h2 : n ≤ 64) : okA n X = agO X n := by
  unfold okA
  rw [decide_eq_true h1, decide_eq_true h2, Bool.true_and, Bool.true_and]
theorem agS_no {n : Nat} {X : Nat → Nat} (h : okA n X = false) : agS n X = (0, 0) := by unfold agS; rw [h]; rfl
theorem agS_yes {n : Nat} {X : Nat → Nat} (h : okA n X = true) : agS n X = agP X n := by unfold agS; rw [h]; rfl
/-- what holds ahead of each round: the result's block and the common span's -/
structure Rnd (w : World) (X : Nat → Nat) (k : Nat) (wr : World) : Prop where
  b : Below w.heap.size w wr
  a : Blk wr w.heap.size #[.float .f32 0, .float .f32 0] 32
  c : Blk wr (w.heap.size + 1) #[.float .f32 (agP X k).1, .float .f32 (agP X k).2] 32
  o : agO X k = true
theorem Rnd.start (w : World) (X : Nat → Nat) : Rnd w X 0 ((w.alloc (.cells #[.float .f32 0, .float .f32 0] 32)).alloc (.cells #[.float .f32 (X 0), .float .f32 (X 1)] 32)) :=
  ⟨by go_grown, Blk.alloc (Blk.new rfl) _, Blk.new (by simp), rfl⟩
set_option maxHeartbeats 1000000 in
theorem impl_agree (a : Option Addr) (len cap : Nat) (X : Nat → Nat) (w : World) (hl : len ≤ 1048576) (h : Lst w a len X) :
    Calls Try.prog 38 #[.slice a len cap] w fun e w' => e = .returned (.tuple #[pv (agS len X).1 (agS len X).2, .bool (okA len X)]) ∧ Below w.heap.size w w' := by
  have H := Lib.hid h
  clear h
  by_cases hf : len < 1 ∨ 64 < len
  · rw [agS_no (okA_few (X := X) hf), okA_few hf]
    unfold pv
    rcases hf with hf | hf
    · have hf' : (len : Int) < 1 := by omega
      go_enter Try.func38, Try.ntmps38
      go_wp2_with fail
      refine bodyPost_ret (by simp [results, Try.results38, go_sem]; try rfl) rfl ?_
      exact ⟨rfl, by go_grown⟩
    · have hf' : ¬ (len : Int) < 1 := by omega
      have hg : (64 : Int) < len := by omega
      go_enter Try.func38, Try.ntmps38
      go_wp2_with fail
      refine bodyPost_ret (by simp [results, Try.results38, go_sem]; try rfl) rfl ?_
      exact ⟨rfl, by go_grown⟩
  · have h1 : 1 ≤ len := by omega
    have h2 : len ≤ 64 := by omega
    have hf' : ¬ (len : Int) < 1 := by omega
    have hg : ¬ (64 : Int) < len := by omega
    have hpos : (0 : Int) < len := by omega
    obtain ⟨b, off, ha, hlt, hc⟩ := Lst.cells H.out (by omega)
    subst ha
    have a0 : w.cell? ⟨b, off, none⟩ = some (.float .f32 (X 0)) := (hc 0 (by omega)).1
    have a1 : w.cell? ⟨b, off + 1, none⟩ = some (.float .f32 (X 1)) := (hc 0 (by omega)).2
    have Hc := Lib.hid hc
    have Hw := Lib.hid (agP_wf h1 H.out.1)
    have H12 := Lib.hid (And.intro h1 h2)
    have HS := Lib.hid (Rnd.start w X)
    clear hc hf h1 h2
    unfold pv
    generalize X 0 = x0 at a0 HS
    generalize X 1 = x1 at a1 HS
    go_enter Try.func38, Try.ntmps38
    go_wp2_with fail
    go_loopw [23] (fun i wr => ∃ k : Nat, i = .int .i64 k ∧ k ≤ len ∧ Rnd w X k wr)
      (fun i _ => len - (intOf i).toNat)
    case atStart => exact ⟨0, rfl, Nat.zero_le _, HS.out⟩
    case round =>
      obtain ⟨k, rfl, hk, hr⟩ := hrel
      have Hr := Lib.hid hr
      clear hr
      have c0 := Hr.out.c.cell 0 rfl
      have c1 := Hr.out.c.cell 1 rfl
      have r0 := Hr.out.a.cell 0 rfl
      have r1 := Hr.out.a.cell 1 rfl
      have z0 := Hr.out.a.free 0
      have z1 := Hr.out.a.free 1
      have nC := Hr.out.c.lt
      by_cases hkl : k < len
      · have w4 := Hw.out k (by omega)
        have w5 := H.out.1 k hkl
        have e0 : wr.cell? ⟨b, off + k * 2, none⟩ = some (.float .f32 (X (k * 2))) := (Hr.out.b.cell (by exact hlt)).trans (Hc.out k hkl).1
        have e1 : wr.cell? ⟨b, off + k * 2 + 1, none⟩ = some (.float .f32 (X (k * 2 + 1))) := (Hr.out.b.cell (by exact hlt)).trans (Hc.out k hkl).2
        have hm := fun w => impl_meet (agP X k).1 (agP X k).2 (X (k * 2)) (X (k * 2 + 1)) w w4.1 w4.2 w5.1 w5.2
        have Hstep := Lib.hid (show agP X (k + 1) = meetS (agP X k).1 (agP X k).2 (X (k * 2)) (X (k * 2 + 1)) ∧ agO X (k + 1) = (agO X k && meetB (agP X k).1 (agP X k).2 (X (k * 2)) (X (k * 2 + 1))) from ⟨rfl, rfl⟩)
        clear w4 w5
        generalize meetS (agP X k).1 (agP X k).2 (X (k * 2)) (X (k * 2 + 1)) = m at *
        generalize meetB (agP X k).1 (agP X k).2 (X (k * 2)) (X (k * 2 + 1)) = ok at *
        obtain ⟨lo, hlo⟩ : ∃ lo, (agP X k).1 = lo := ⟨_, rfl⟩
        obtain ⟨hi, hhi⟩ : ∃ hi, (agP X k).2 = hi := ⟨_, rfl⟩
        rw [hlo, hhi] at c0 c1 hm
        have hcc := Hr.out.c
        rw [hlo, hhi] at hcc
        have Hcc := Lib.hid hcc
        clear hlo hhi hcc
        generalize X (k * 2) = x at *
        generalize X (k * 2 + 1) = y at *
        unfold pv at hm
        go_wp2_with fail
        refine (hm _).mono ?_
        rintro e w1 ⟨rfl, hb1⟩
        have HA := Lib.hid ((Blk.alloc Hr.out.a _).keep hb1)
        have HC := Lib.hid ((Blk.alloc Hcc.out _).keep hb1)
        have HB := Lib.hid ((Below.alloc Hr.out.b Hr.out.b.size _).trans (hb1.mono (Below.alloc Hr.out.b Hr.out.b.size _).size))
        clear c0 c1 r0 r1 z0 z1 e0 e1 nC hb1
        have c0 := HC.out.cell 0 rfl
        have c1 := HC.out.cell 1 rfl
        have r0 := HA.out.cell 0 rfl
        have r1 := HA.out.cell 1 rfl
        have z0 := HA.out.free 0
        have z1 := HA.out.free 1
        have y0 := HC.out.free 0
        have y1 := HC.out.free 1
        have nA : w.heap.size < w1.heap.size := HA.out.lt
        have nC : w.heap.size + 1 < w1.heap.size := HC.out.lt
        cases ok
        · have ho : okA len X = false := (okA_ag H12.out.1 H12.out.2).trans (agO_no len (k + 1) (by omega) (by rw [Hstep.out.2, Bool.and_false]))
          have E := Lib.hid (And.intro (agS_no ho) ho)
          clear ho
          go_wp2_with fail
          obtain ⟨d0, d1, _⟩ := HA.out.two 0 0
          have d2 := cell_alloc (.cells #[.float .f32 m.fst, .float .f32 m.snd] 32) d0
          have d3 := cell_alloc (.cells #[.float .f32 m.fst, .float .f32 m.snd] 32) d1
          refine bodyPost_ret (by simp [results, Try.results38, go_sem, d2, d3]; try rfl) rfl ?_
          refine ⟨by rw [E.out.1, E.out.2], ?_⟩
          exact Below.alloc ((HB.out.setCell (Nat.le_refl _) _).setCell (Nat.le_refl _) _) (by have := HB.out.size; simp; omega) _
        · go_wp2_with fail
          go_roundw
          case rel =>
            refine ⟨k + 1, by go_num, by omega, ?_, ?_, ?_, ?_⟩
            · exact Below.alloc ((HB.out.setCell (by simp) _).setCell (by simp) _) (by have := HB.out.size; simp; omega) _
            · exact Blk.alloc (Blk.other (Blk.other HA.out (by simp) _) (by simp) _) _
            · rw [Hstep.out.1]
              exact Blk.alloc (HC.out.two m.1 m.2).2.2 _
            · rw [Hstep.out.2, Hr.out.o]; rfl
          case measure => simp [intOf]; omega
      · obtain rfl : k = len := by omega
        have ho : okA k X = true := (okA_ag H12.out.1 H12.out.2).trans Hr.out.o
        have E := Lib.hid (And.intro (agS_yes ho) ho)
        clear ho
        obtain ⟨d0, d1, _⟩ := Hr.out.a.two (agP X k).1 (agP X k).2
        go_wp2_with fail
        refine bodyPost_ret (by simp [results, Try.results38, go_sem, d0, d1]; try rfl) rfl ?_
        refine ⟨by rw [E.out.1, E.out.2], ?_⟩
        exact (Hr.out.b.setCell (Nat.le_refl _) _).setCell (Nat.le_refl _) _
end Go.Proofs.Ytjmmcpeknaaaiaa.Spn

namespace Go.Proofs.Ytjmmcpeknaaaiaa.fnMeetHull
open Go.ChangeShapes Go.WideShapes Go.ChangeAt Go.RowKit Go.Deep Go.Proofs.Ytjmmcpeknaaaiaa Go.Proofs.Ytjmmcpeknaaaiaa.Flt Go.Proofs.Ytjmmcpeknaaaiaa.Mth Go.Proofs.Ytjmmcpeknaaaiaa.Spn
open Ieee (single double)
set_option linter.unusedVariables false
set_option linter.unusedSimpArgs false
set_option maxRecDepth 20000
/-- the three spans of the list -/
def six (a b c d : Nat) : Nat → Nat := fun i => if i = 0 ∨ i = 4 then a else if i = 1 ∨ i = 5 then b else if i = 2 then c else d
theorem agree3 {a b c d : Nat} (h : Vs a b) (k : Vs c d) : okA 3 (six a b c d) = meetB a b c d ∧ (meetB a b c d = true → agS 3 (six a b c d) = meetS a b c d) := by
  obtain ⟨s1, s2⟩ := meet_self h
  have p1 : agP (six a b c d) 1 = (a, b) := s2
  have o1 : agO (six a b c d) 1 = true := by
    show (true && meetB a b a b) = true
    rw [s1]; rfl
  have p2 : agP (six a b c d) 2 = meetS a b c d := by
    show meetS (agP (six a b c d) 1).1 (agP (six a b c d) 1).2 c d = _
    rw [p1]
  have o2 : agO (six a b c d) 2 = meetB a b c d := by
    show (agO (six a b c d) 1 && meetB (agP (six a b c d) 1).1 (agP (six a b c d) 1).2 c d) = _
    rw [p1, o1]; rfl
  have ho : okA 3 (six a b c d) = agO (six a b c d) 3 := okA_ag (by omega) (by omega)
  have o3 : agO (six a b c d) 3 = (agO (six a b c d) 2 && meetB (agP (six a b c d) 2).1 (agP (six a b c d) 2).2 a b) := rfl
  have p3 : agP (six a b c d) 3 = meetS (agP (six a b c d) 2).1 (agP (six a b c d) 2).2 a b := rfl
  cases hb : meetB a b c d
  · rw [ho, o3, o2, hb]
    exact ⟨rfl, fun e => by cases e⟩
  · obtain ⟨m1, m2⟩ := meet_again h k hb
    have e : meetS a b c d = (meetL a c, meetH b d) := by unfold meetS; rw [if_pos hb]
    have ok3 : okA 3 (six a b c d) = true := by
      rw [ho, o3, o2, p2, hb, e]
      show (true && meetB (meetL a c) (meetH b d) a b) = true
      rw [m1]; rfl
    refine ⟨ok3, fun _ => ?_⟩
    rw [agS_yes ok3, p3, p2, e]
    exact m2
theorem six_lst {a b c d k : Nat} {w : World} (h : Blk w k #[.float .f32 a, .float .f32 b, .float .f32 c, .float .f32 d, .float .f32 a, .float .f32 b] 32)
    (wa : (Lit.float .f32 a).wf = true) (wb : (Lit.float .f32 b).wf = true) (wc : (Lit.float .f32 c).wf = true) (wd : (Lit.float .f32 d).wf = true) : Lst w (some ⟨k, 0, none⟩) 3 (six a b c d) := by
  refine ⟨fun i hi => ?_, .inr ⟨k, 0, rfl, h.lt, fun i hi => ?_⟩⟩
  · have : i = 0 ∨ i = 1 ∨ i = 2 := by omega
    rcases this with rfl | rfl | rfl
    · exact ⟨wa, wb⟩
    · exact ⟨wc, wd⟩
    · exact ⟨wa, wb⟩
  · have : i = 0 ∨ i = 1 ∨ i = 2 := by omega
    rcases this with rfl | rfl | rfl
    · exact ⟨h.cell 0 rfl, h.cell 1 rfl⟩
    · exact ⟨h.cell 2 rfl, h.cell 3 rfl⟩
    · exact ⟨h.cell 4 rfl, h.cell 5 rfl⟩
/-- what lies in memory during the loop -/
structure Rel (w : World) (P Q R S L : Nat) (a b c d m n h g : Nat) (v : Nat → Nat) (wr : World) : Prop where
  low : Below w.heap.size w wr
  bp : Blk wr P #[.float .f32 a, .float .f32 b] 32
  bq : Blk wr Q #[.float .f32 c, .float .f32 d] 32
  br : Blk wr R #[.float .f32 m, .float .f32 n] 32
  bs : Blk wr S #[.float .f32 h, .float .f32 g] 32
  bl : ∀ k, k < 5 → wr.cell? ⟨L, k, none⟩ = some (.float .f64 (v k))
theorem Rel.keep {w : World} {P Q R S L a b c d m n h g : Nat} {v : Nat → Nat} {wr w' : World} (x : Rel w P Q R S L a b c d m n h g v wr) (hb : Below wr.heap.size wr w') : Rel w P Q R S L a b c d m n h g v w' :=
  ⟨x.low.trans (hb.mono x.low.size), x.bp.keep hb, x.bq.keep hb, x.br.keep hb, x.bs.keep hb, fun k hk => (hb.cell (World.block_lt_of_cell? wr _ (x.bl k hk))).trans (x.bl k hk)⟩
theorem Rel.drewN {w : World} {P Q R S L a b c d m n h g : Nat} {v : Nat → Nat} {wr : World} (x : Rel w P Q R S L a b c d m n h g v wr) (k : Nat) : Rel w P Q R S L a b c d m n h g v (wr.drewN k) :=
  x.keep (below_drewN (Below.refl _ _) k)
def five (v0 v1 v2 v3 : Nat) : Nat → Nat := fun i => if i = 0 then v0 else if i = 1 then v1 else if i = 2 then v2 else if i = 3 then v3 else 0
theorem five_cells {w : World} {L v0 v1 v2 v3 : Nat} {T : TypeId} (h : Blk w L #[.float .f64 v0, .float .f64 v1, .float .f64 v2, .float .f64 v3, .float .f64 0] T) : ∀ k, k < 5 → w.cell? ⟨L, k, none⟩ = some (.float .f64 (five v0 v1 v2 v3 k))
  | 0, _ => h.cell 0 rfl
  | 1, _ => h.cell 1 rfl
  | 2, _ => h.cell 2 rfl
  | 3, _ => h.cell 3 rfl
  | 4, _ => h.cell 4 rfl
  | n + 5, hk => absurd hk (by omega)
theorem rel_start {w w3 : World} {P Q R a b c d m n h g v0 v1 v2 v3 : Nat} (hb : Below w.heap.size w w3) (h1 : Blk w3 P #[.float .f32 a, .float .f32 b] 32) (h2 : Blk w3 Q #[.float .f32 c, .float .f32 d] 32) (h3 : Blk w3 R #[.float .f32 m, .float .f32 n] 32) :
    Rel w P Q R w3.heap.size (w3.heap.size + 1) a b c d m n h g (five v0 v1 v2 v3) ((w3.alloc (.cells #[.float .f32 h, .float .f32 g] 32)).alloc (.cells #[.float .f64 v0, .float .f64 v1, .float .f64 v2, .float .f64 v3, .float .f64 0] 28)) :=
  ⟨Below.alloc (Below.alloc hb hb.size _) (by have := hb.size; simp; omega) _, (h1.alloc _).alloc _, (h2.alloc _).alloc _, (h3.alloc _).alloc _, Blk.alloc (Blk.new rfl) _, five_cells (Blk.new (by simp))⟩
set_option maxHeartbeats 8000000 in
theorem walk (ad : Option Addr) (len cap : Nat) (zs : List Int) (w : World) (hr : IsRow .u8 w ad len cap zs) :
    Calls Try.prog 6 #[.slice ad len cap] w fun x w' => x = .returned (.bool true) ∧ Below w.heap.size w w' := by
  by_cases hl : (len : Int) ≤ 1048576
  · go_enter Try.func6, Try.ntmps6
    go_wp2_with fail
    refine (Drw.big_no _ _ _ _ hl).mono ?_
    rintro e w9 ⟨rfl, hw9⟩
    subst w9
    go_wp2_with fail
    refine (spans_any ad len cap zs _ hr).mono ?_
    rintro e w1 ⟨a, b, c, d, x, y, hab, hcd, hx, hy, rfl, hb1⟩
    have HV1 : Vs a b := ⟨hab.1.fn, hab.2.1.fn, hab.2.2⟩
    have HV2 : Vs c d := ⟨hcd.1.fn, hcd.2.1.fn, hcd.2.2⟩
    have wa := wf_single hab.1.1
    have wb := wf_single hab.2.1.1
    have wc := wf_single hcd.1.1
    have wd := wf_single hcd.2.1.1
    have hM := fun w => impl_meet a b c d w wa wb wc wd
    have hH := fun w => impl_hull a b c d w wa wb wc wd
    have hG := Lib.hid (fun k W (h : Blk W k #[.float .f32 a, .float .f32 b, .float .f32 c, .float .f32 d, .float .f32 a, .float .f32 b] 32) => impl_agree (some ⟨k, 0, none⟩) 3 3 (six a b c d) W (by omega) (six_lst h wa wb wc wd))
    obtain ⟨g1, g2⟩ := agree3 HV1 HV2
    have hboth := fun v => both_meet HV1 HV2 v
    have heither := fun v h => either_hull HV1 HV2 v h
    have hhB := (hull_valid HV1 HV2).1
    have hmn : meetB a b c d = true → isNaN single (meetS a b c d).1 = false ∧ isNaN single (meetS a b c d).2 = false := fun e => by
      have e2 : meetS a b c d = (meetL a c, meetH b d) := by unfold meetS; rw [if_pos e]
      rw [e2]
      exact ⟨fn_num (meetL_fn HV1.1 HV2.1).1, fn_num (meetH_fn HV1.2.1 HV2.2.1).1⟩
    rw [hhB] at hH
    have kx := run_wid' hx.1
    have ky := run_wid' hy.1
    have kb := run_wid' (fn_num HV1.2.1)
    have kc := run_wid' (fn_num HV2.1)
    have hA := fun v w => impl_holds a b v w
    have hB := fun v w => impl_holds c d v w
    have hC := fun v w => impl_holds (meetS a b c d).1 (meetS a b c d).2 v w
    have hD := fun v w => impl_holds (hullS a b c d).1 (hullS a b c d).2 v w
    have HB1 := Lib.hid hb1
    have G := Lib.hid (And.intro g1 g2)
    have Hboth := Lib.hid hboth
    have Heither := Lib.hid heither
    have Hmn := Lib.hid hmn
    clear hb1 g1 g2 hboth heither hmn hhB HV1 HV2 wa wb wc wd hab hcd hx hy hr
    generalize (hullS a b c d).1 = h1 at *
    generalize (hullS a b c d).2 = h2 at *
    obtain ⟨m1, hm1⟩ : ∃ m1, (meetS a b c d).1 = m1 := ⟨_, rfl⟩
    obtain ⟨m2, hm2⟩ : ∃ m2, (meetS a b c d).2 = m2 := ⟨_, rfl⟩
    rw [hm1] at hM hC Hboth Hmn
    rw [hm2] at hM hC Hboth Hmn
    have Hm := Lib.hid (And.intro hm1 hm2)
    clear hm1 hm2
    obtain ⟨ok, hok⟩ : ∃ ok, meetB a b c d = ok := ⟨_, rfl⟩
    rw [hok] at hM Hboth G Hmn
    clear hok
    generalize widen x = v0 at *
    generalize widen y = v1 at *
    generalize widen b = v2 at *
    generalize widen c = v3 at *
    unfold pv at hM hH hA hB hC hD ⊢
    go_wp2_with fail
    refine (hM _).mono ?_
    rintro e w2 ⟨rfl, hb2⟩
    have HP2 := Lib.hid (And.intro (Blk.keep (R := w1.heap.size) (vs := #[.float .f32 a, .float .f32 b]) (T := 32) (Blk.alloc (Blk.new rfl) _) hb2) (Blk.keep (R := w1.heap.size + 1) (vs := #[.float .f32 c, .float .f32 d]) (T := 32) (Blk.new (by simp)) hb2))
    have HB2 : Hid (Below w.heap.size w w2) := Lib.hid (Below.trans (Below.alloc (Below.alloc HB1.out HB1.out.size _) (by have := HB1.out.size; simp; omega) _) (hb2.mono (by have := HB1.out.size; simp; omega)))
    clear hb2
    have a0 := HP2.out.1.cell 0 rfl
    have a1 := HP2.out.1.cell 1 rfl
    have q0 := HP2.out.2.cell 0 rfl
    have q1 := HP2.out.2.cell 1 rfl
    have n0 := HP2.out.1.lt
    have n1 := HP2.out.2.lt
    go_wp2_with fail
    refine (hH _).mono ?_
    rintro e w3 ⟨rfl, hb3⟩
    have HP3 := Lib.hid (And.intro ((HP2.out.1.alloc _).keep hb3) (And.intro ((HP2.out.2.alloc _).keep hb3) (Blk.keep (R := w2.heap.size) (vs := #[.float .f32 m1, .float .f32 m2]) (T := 32) (Blk.new rfl) hb3)))
    have HB3 : Hid (Below w.heap.size w w3) := Lib.hid (Below.trans (Below.alloc HB2.out HB2.out.size _) (hb3.mono (by have := HB2.out.size; simp; omega)))
    clear hb3 a0 a1 q0 q1 n0 n1
    have a0 := HP3.out.1.cell 0 rfl
    have a1 := HP3.out.1.cell 1 rfl
    have q0 := HP3.out.2.1.cell 0 rfl
    have q1 := HP3.out.2.1.cell 1 rfl
    have n0 := HP3.out.1.lt
    have n1 := HP3.out.2.1.lt
    have n2 := HP3.out.2.2.lt
    go_wp2_with fail
    have HS := Lib.hid (rel_start (v0 := v0) (v1 := v1) (v2 := v2) (v3 := v3) (h := h1) (g := h2) HB3.out HP3.out.1 HP3.out.2.1 HP3.out.2.2)
    clear a0 a1 q0 q1 n0 n1 n2 HP2 HP3 HB2 HB3 hM hH kx ky kb kc
    generalize five v0 v1 v2 v3 = V at *
    go_loopw [12] (fun i wr => ∃ k : Nat, i = .int .i64 k ∧ k ≤ 5 ∧ Rel w w1.heap.size (w1.heap.size + 1) w2.heap.size w3.heap.size (w3.heap.size + 1) a b c d m1 m2 h1 h2 V wr)
      (fun i _ => 5 - (intOf i).toNat)
    case atStart => exact ⟨0, rfl, Nat.zero_le _, HS.out⟩
    case round =>
      obtain ⟨k, rfl, hk, hrr⟩ := hrel
      have HR := Lib.hid hrr
      clear hrr
      have a0 := HR.out.bp.cell 0 rfl
      have a1 := HR.out.bp.cell 1 rfl
      have q0 := HR.out.bq.cell 0 rfl
      have q1 := HR.out.bq.cell 1 rfl
      have r0 := HR.out.br.cell 0 rfl
      have r1 := HR.out.br.cell 1 rfl
      have s0 := HR.out.bs.cell 0 rfl
      have s1 := HR.out.bs.cell 1 rfl
      by_cases hk5 : k < 5
      · have e0 := HR.out.bl k hk5
        have hk5' : (k : Int) < 5 := by omega
        obtain ⟨v, hv⟩ : ∃ v, V k = v := ⟨_, rfl⟩
        rw [hv] at e0
        clear hv
        have hbo := Hboth.out v
        have hei := Heither.out v
        replace hA := fun w => hA v w
        replace hB := fun w => hB v w
        replace hC := fun w => hC v w
        replace hD := fun w => hD v w
        generalize hdB a b v = pa at *
        generalize hdB c d v = pb at *
        generalize hdB m1 m2 v = pm at *
        generalize hdB h1 h2 v = ph at *
        cases pa <;> cases pb <;> cases ok <;> cases pm <;> cases ph
        all_goals first
          | (exfalso; revert hbo hei; simp; done)
          | skip
        all_goals
          clear hbo hei
          go_wp2_with (go_at_call 35; (first | (with_reducible refine (hA _).mono ?_) | (with_reducible refine (hB _).mono ?_) | (with_reducible refine (hC _).mono ?_) | (with_reducible refine (hD _).mono ?_)); rintro e w9 ⟨rfl, hb9⟩; have HR := Lib.hid (HR.out.keep hb9); have a0 := HR.out.bp.cell 0 rfl; have a1 := HR.out.bp.cell 1 rfl; have q0 := HR.out.bq.cell 0 rfl; have q1 := HR.out.bq.cell 1 rfl; have r0 := HR.out.br.cell 0 rfl; have r1 := HR.out.br.cell 1 rfl; have s0 := HR.out.bs.cell 0 rfl; have s1 := HR.out.bs.cell 1 rfl; clear hb9)
          go_roundw
          case rel => exact ⟨k + 1, by go_num, by omega, HR.out⟩
          case measure => first | (simp [intOf]; done) | (simp [intOf]; omega)
      · obtain rfl : k = 5 := by omega
        clear hA hB hC hD
        have hg := fun k W h => hG.out k W h
        rw [G.out.1] at hg
        cases ok
        · generalize (agS 3 (six a b c d)).1 = g1 at *
          generalize (agS 3 (six a b c d)).2 = g2 at *
          unfold pv at hg
          have Hg := Lib.hid hg
          clear hg
          go_wp2_with fail
          refine (Hg.out _ _ (Blk.new rfl)).mono ?_
          rintro e w5 ⟨rfl, hb5⟩
          have HB5 : Hid (Below w.heap.size w w5) := Lib.hid (Below.trans (Below.alloc HR.out.low HR.out.low.size _) (hb5.mono (by have := HR.out.low.size; simp; omega)))
          clear hb5
          go_wp2_with fail
          go_ret
          exact ⟨rfl, Below.alloc HB5.out HB5.out.size _⟩
        · rw [G.out.2 (by first | rfl | trivial), Hm.out.1, Hm.out.2] at hg
          unfold pv at hg
          have Hg := Lib.hid hg
          clear hg
          obtain ⟨nm1, nm2⟩ := Hmn.out (by first | rfl | trivial)
          have o1 : (FloatKind.f32.format.order m1 m1 == some .eq) = true := by rw [eq32, eqW_self, nm1]; rfl
          have o2 : (FloatKind.f32.format.order m2 m2 == some .eq) = true := by rw [eq32, eqW_self, nm2]; rfl
          clear nm1 nm2
          go_wp2_with fail
          refine (Hg.out _ _ (Blk.new rfl)).mono ?_
          rintro e w5 ⟨rfl, hb5⟩
          have HB5 : Hid (Below w.heap.size w w5) := Lib.hid (Below.trans (Below.alloc HR.out.low HR.out.low.size _) (hb5.mono (by have := HR.out.low.size; simp; omega)))
          have HR5 := Lib.hid ((HR.out.br.alloc _).keep hb5)
          clear hb5 a0 a1 q0 q1 r0 r1 s0 s1
          have r0 := HR5.out.cell 0 rfl
          have r1 := HR5.out.cell 1 rfl
          have rl := HR5.out.lt
          go_wp2_with fail
          go_ret
          exact ⟨rfl, Below.alloc HB5.out HB5.out.size _⟩
  · go_enter Try.func6, Try.ntmps6
    go_wp2_with fail
    refine (Drw.big_yes _ _ _ _ (by omega)).mono ?_
    rintro e w9 ⟨rfl, hw9⟩
    subst w9
    go_wp2_with fail
    go_ret
    exact ⟨rfl, Below.refl _ _⟩
end Go.Proofs.Ytjmmcpeknaaaiaa.fnMeetHull

namespace Go.Proofs.Ytjmmcpeknaaaiaa.fnMeetHull
open Go.ChangeShapes Go.WideShapes Go.ChangeAt Go.RowKit
open Go.ChangeMaps (open_string shut_string)
set_option linter.unusedVariables false

theorem own : ownKnob Try.prog.godebug = none := by kernel_rfl
theorem laidOut : laidOutB Try.prog = true := by kernel_rfl

set_option maxRecDepth 100000 in
theorem lifted (os : Os) (started : os.Started) (H : Type) (enc : TypeId × Value → H) :
    ReturnsInHanded {} Try.checked os 6 .any (Rows.fnMeetHullSpec.pre6 enc Try.prog Try.f6 Rows.fnMeetHullRow.domain false) (Rows.fnMeetHullSpec.post enc Try.prog Try.f6 false true false false) := by
  refine returnsInHanded_of_change (C := Try.checked) own started (by kernel_rfl) Try.func6
    (ChangeSpec.witness6 (enc := enc) (C := Try.checked) false ⟨#[], #[.slice none 0 0], []⟩ 8 (by kernel_rfl) (by kernel_rfl) (by kernel_rfl) (by kernel_rfl)) ?_
  intro W base args ds gs before hval0 hW hcnd _
  have hval : ∀ (j : Nat) t v, Try.f6.params[j]? = some t → args[j]? = some v → Value.okWide Try.prog W .any base t v := hval0
  have hW' := hW
  obtain ⟨p, q, hA0, hV, rfl, hfz, hnd⟩ := hW
  have hA : DataW.TrodAll enc Try.prog W 0 (fun _ => true) true Try.f6.params.toList args.toList ds p := hA0
  rw [Try.params6] at hA hval
  obtain ⟨v0, vs0, d0, ds0, p0, q0, hargs, rfl, rfl, h0, r0⟩ := trodAll_cons hA
  obtain ⟨rfl, rfl, rfl⟩ := trodAll_nil r0
  obtain rfl : args = #[v0] := by cases args; simp_all
  obtain ⟨rfl, rfl⟩ := trodVars_none hV
  obtain ⟨a0, len0, cap0, rfl⟩ := okWide_slice Try.underlying22 (hval 0 22 v0 rfl rfl)
  have k0 := h0
  have lt0 : ∀ x ∈ p0, x.block < W.heap.size := by obtain ⟨m, hm⟩ := k0; exact DataW.trod_lt m _ _ _ hm
  obtain ⟨z0, w0⟩ : ∃ zs, IsRow .u8 W a0 len0 cap0 zs := by
    obtain ⟨fuel, hf⟩ := h0
    rcases open_ints Try.underlying22 Try.underlying5 (by kernel_rfl) hf with ⟨hcs, _⟩ | ⟨x, l, c, zs, hcs, _, hl, hm, hz, _, hcell, hwz⟩
    · simp [Value.cells] at hcs
      obtain ⟨rfl, rfl, rfl⟩ := hcs
      exact ⟨[], .inl ⟨rfl, rfl, rfl, rfl⟩⟩
    · simp [Value.cells] at hcs
      obtain ⟨rfl, rfl, rfl⟩ := hcs
      exact ⟨zs, .inr ⟨_, rfl, hl, hm, by simpa using hz, hcell, hwz⟩⟩
  clear hA0 hval0
  refine (walk a0 len0 cap0 z0 W w0).mono fun e W' ⟨he, bel⟩ => ?_
  subst he
  exact ⟨_, rfl, _, _, _, [], _, [], hW', trodAll_mk1 (shut_bool Try.underlying4 _), (trodAll_cons_mk (Below.trod laidOut (by kernel_rfl) (of_decide_eq_true (by kernel_rfl)) k0 bel lt0) trodAll_mk0), rfl, bel.frame _, fun h => by cases h⟩

theorem closed : joinedFacts Try.pinned.checked.prog 6 Try.f6 Rows.fnMeetHullSpec Rows.fnMeetHullRow = true := by
  unfold joinedFacts
  rw [Facts.may_enter, Facts.make_is, Facts.lifts_final]
  kernel_rfl
theorem over : Rows.fnMeetHullRow.holds Try.pinned (OpenSpec.ofChange Rows.fnMeetHullSpec) :=
  OpenClaim.holds_of_wide 6 Try.f6 rfl rfl rfl rfl rfl rfl rfl ⟨rfl, rfl, rfl, rfl, rfl⟩ rfl rfl rfl rfl rfl (by kernel_rfl) Try.func6 closed
    (of_decide_eq_true (by kernel_rfl)) (by unfold Func.isWrapper; first | (rw [if_pos (by decide +kernel)]; kernel_rfl) | (rw [if_neg (by decide +kernel)]; exact ⟨rfl, rfl⟩))
    (fun os started H enc _ => lifted os started H enc)

theorem proved : Rows.FnMeetHullSaid := over
#print axioms proved
end Go.Proofs.Ytjmmcpeknaaaiaa.fnMeetHull
