/- Agree, in the program and in the model. -/
import Derived.Test.YtjmmcpeknaaaiaaSpnE
import Derived.Test.YtjmmcpeknaaaiaaSpnS
import Derived.Deep.RegionHeld
namespace Go.Proofs.Ytjmmcpeknaaaiaa.Spn
open Go.ChangeShapes Go.WideShapes Go.ChangeAt Go.RowKit Go.Deep Go.Proofs.Ytjmmcpeknaaaiaa Go.Proofs.Ytjmmcpeknaaaiaa.Flt Go.Proofs.Ytjmmcpeknaaaiaa.Mth
open Ieee (single double)
set_option linter.unusedVariables false
set_option linter.unusedSimpArgs false
set_option maxRecDepth 20000
/-- what is common to the first spans of a list, and whether they have anything in common -/
def agP (X : Nat → Nat) : Nat → Nat × Nat
  | 0 => (X 0, X 1)
  | k + 1 => meetS (agP X k).1 (agP X k).2 (X (k * 2)) (X (k * 2 + 1))
def agO (X : Nat → Nat) : Nat → Bool
  | 0 => true
  | k + 1 => agO X k && meetB (agP X k).1 (agP X k).2 (X (k * 2)) (X (k * 2 + 1))
def okA (n : Nat) (X : Nat → Nat) : Bool := decide (1 ≤ n) && (decide (n ≤ 64) && agO X n)
def agS (n : Nat) (X : Nat → Nat) : Nat × Nat := if okA n X = true then agP X n else (0, 0)
theorem agP_wf {X : Nat → Nat} {n : Nat} (h1 : 1 ≤ n) (hw : Wf n X) : ∀ k, k ≤ n → (Lit.float .f32 (agP X k).1).wf = true ∧ (Lit.float .f32 (agP X k).2).wf = true
  | 0, _ => hw 0 h1
  | k + 1, hk => by
    obtain ⟨a1, a2⟩ := agP_wf h1 hw k (by omega)
    obtain ⟨b1, b2⟩ := hw k (by omega)
    show (Lit.float .f32 (meetS _ _ _ _).1).wf = true ∧ (Lit.float .f32 (meetS _ _ _ _).2).wf = true
    unfold meetS
    split
    · unfold meetL meetH
      exact ⟨by dsimp only; split <;> assumption, by dsimp only; split <;> assumption⟩
    · exact ⟨by decide, by decide⟩
theorem agO_no {X : Nat → Nat} : ∀ n k, k ≤ n → agO X k = false → agO X n = false
  | 0, k, hk, h => by rw [show k = 0 by omega] at h; exact h
  | n + 1, k, hk, h => by
    by_cases e : k = n + 1
    · rw [e] at h; exact h
    · have := agO_no n k (by omega) h
      show (agO X n && _) = false
      rw [this]; rfl
theorem okA_few {n : Nat} {X : Nat → Nat} (h : n < 1 ∨ 64 < n) : okA n X = false := by
  unfold okA
  rcases h with h | h
  · rw [decide_eq_false (by omega), Bool.false_and]
  · rw [decide_eq_false (p := n ≤ 64) (by omega), Bool.false_and, Bool.and_false]
theorem okA_ag {n : Nat} {X : Nat → Nat} (h1 : 1 ≤ n) (h2 : n ≤ 64) : okA n X = agO X n := by
  unfold okA
  rw [decide_eq_true h1, decide_eq_true h2, Bool.true_and, Bool.true_and]
theorem agS_no {n : Nat} {X : Nat → Nat} (h : okA n X = false) : agS n X = (0, 0) := by unfold agS; rw [h]; rfl
theorem agS_yes {n : Nat} {X : Nat → Nat} (h : okA n X = true) : agS n X = agP X n := by unfold agS; rw [h]; rfl
/-- what holds ahead of each round: the result's block and the common span's -/
structure Rnd (w : World) (X : Nat → Nat) (k : Nat) (wr : World) : Prop where
  b : Below w.heap.size w wr
  a : Blk wr w.heap.size #[.float .f32 0, .float .f32 0] 32
  c : Blk wr (w.heap.size + 1) #[.float .f32 (agP X k).1, .float .f32 (agP X k).2] 32
  o : agO X k = true
theorem Rnd.start (w : World) (X : Nat → Nat) : Rnd w X 0 ((w.alloc (.cells #[.float .f32 0, .float .f32 0] 32)).alloc (.cells #[.float .f32 (X 0), .float .f32 (X 1)] 32)) :=
  ⟨by go_grown, Blk.alloc (Blk.new rfl) _, Blk.new (by simp), rfl⟩
set_option maxHeartbeats 1000000 in
theorem impl_agree (a : Option Addr) (len cap : Nat) (X : Nat → Nat) (w : World) (hl : len ≤ 1048576) (h : Lst w a len X) :
    Calls Try.prog 38 #[.slice a len cap] w fun e w' => e = .returned (.tuple #[pv (agS len X).1 (agS len X).2, .bool (okA len X)]) ∧ Below w.heap.size w w' := by
  have H := Lib.hid h
  clear h
  by_cases hf : len < 1 ∨ 64 < len
  · rw [agS_no (okA_few (X := X) hf), okA_few hf]
    unfold pv
    rcases hf with hf | hf
    · have hf' : (len : Int) < 1 := by omega
      go_enter Try.func38, Try.ntmps38
      go_wp2_with fail
      refine bodyPost_ret (by simp [results, Try.results38, go_sem]; try rfl) rfl ?_
      exact ⟨rfl, by go_grown⟩
    · have hf' : ¬ (len : Int) < 1 := by omega
      have hg : (64 : Int) < len := by omega
      go_enter Try.func38, Try.ntmps38
      go_wp2_with fail
      refine bodyPost_ret (by simp [results, Try.results38, go_sem]; try rfl) rfl ?_
      exact ⟨rfl, by go_grown⟩
  · have h1 : 1 ≤ len := by omega
    have h2 : len ≤ 64 := by omega
    have hf' : ¬ (len : Int) < 1 := by omega
    have hg : ¬ (64 : Int) < len := by omega
    have hpos : (0 : Int) < len := by omega
    obtain ⟨b, off, ha, hlt, hc⟩ := Lst.cells H.out (by omega)
    subst ha
    have a0 : w.cell? ⟨b, off, none⟩ = some (.float .f32 (X 0)) := (hc 0 (by omega)).1
    have a1 : w.cell? ⟨b, off + 1, none⟩ = some (.float .f32 (X 1)) := (hc 0 (by omega)).2
    have Hc := Lib.hid hc
    have Hw := Lib.hid (agP_wf h1 H.out.1)
    have H12 := Lib.hid (And.intro h1 h2)
    have HS := Lib.hid (Rnd.start w X)
    clear hc hf h1 h2
    unfold pv
    generalize X 0 = x0 at a0 HS
    generalize X 1 = x1 at a1 HS
    go_enter Try.func38, Try.ntmps38
    go_wp2_with fail
    go_loopw [23] (fun i wr => ∃ k : Nat, i = .int .i64 k ∧ k ≤ len ∧ Rnd w X k wr)
      (fun i _ => len - (intOf i).toNat)
    case atStart => exact ⟨0, rfl, Nat.zero_le _, HS.out⟩
    case round =>
      obtain ⟨k, rfl, hk, hr⟩ := hrel
      have Hr := Lib.hid hr
      clear hr
      have c0 := Hr.out.c.cell 0 rfl
      have c1 := Hr.out.c.cell 1 rfl
      have r0 := Hr.out.a.cell 0 rfl
      have r1 := Hr.out.a.cell 1 rfl
      have z0 := Hr.out.a.free 0
      have z1 := Hr.out.a.free 1
      have nC := Hr.out.c.lt
      by_cases hkl : k < len
      · have w4 := Hw.out k (by omega)
        have w5 := H.out.1 k hkl
        have e0 : wr.cell? ⟨b, off + k * 2, none⟩ = some (.float .f32 (X (k * 2))) := (Hr.out.b.cell (by exact hlt)).trans (Hc.out k hkl).1
        have e1 : wr.cell? ⟨b, off + k * 2 + 1, none⟩ = some (.float .f32 (X (k * 2 + 1))) := (Hr.out.b.cell (by exact hlt)).trans (Hc.out k hkl).2
        have hm := fun w => impl_meet (agP X k).1 (agP X k).2 (X (k * 2)) (X (k * 2 + 1)) w w4.1 w4.2 w5.1 w5.2
        have Hstep := Lib.hid (show agP X (k + 1) = meetS (agP X k).1 (agP X k).2 (X (k * 2)) (X (k * 2 + 1)) ∧ agO X (k + 1) = (agO X k && meetB (agP X k).1 (agP X k).2 (X (k * 2)) (X (k * 2 + 1))) from ⟨rfl, rfl⟩)
        clear w4 w5
        generalize meetS (agP X k).1 (agP X k).2 (X (k * 2)) (X (k * 2 + 1)) = m at *
        generalize meetB (agP X k).1 (agP X k).2 (X (k * 2)) (X (k * 2 + 1)) = ok at *
        obtain ⟨lo, hlo⟩ : ∃ lo, (agP X k).1 = lo := ⟨_, rfl⟩
        obtain ⟨hi, hhi⟩ : ∃ hi, (agP X k).2 = hi := ⟨_, rfl⟩
        rw [hlo, hhi] at c0 c1 hm
        have hcc := Hr.out.c
        rw [hlo, hhi] at hcc
        have Hcc := Lib.hid hcc
        clear hlo hhi hcc
        generalize X (k * 2) = x at *
        generalize X (k * 2 + 1) = y at *
        unfold pv at hm
        go_wp2_with fail
        refine (hm _).mono ?_
        rintro e w1 ⟨rfl, hb1⟩
        have HA := Lib.hid ((Blk.alloc Hr.out.a _).keep hb1)
        have HC := Lib.hid ((Blk.alloc Hcc.out _).keep hb1)
        have HB := Lib.hid ((Below.alloc Hr.out.b Hr.out.b.size _).trans (hb1.mono (Below.alloc Hr.out.b Hr.out.b.size _).size))
        clear c0 c1 r0 r1 z0 z1 e0 e1 nC hb1
        have c0 := HC.out.cell 0 rfl
        have c1 := HC.out.cell 1 rfl
        have r0 := HA.out.cell 0 rfl
        have r1 := HA.out.cell 1 rfl
        have z0 := HA.out.free 0
        have z1 := HA.out.free 1
        have y0 := HC.out.free 0
        have y1 := HC.out.free 1
        have nA : w.heap.size < w1.heap.size := HA.out.lt
        have nC : w.heap.size + 1 < w1.heap.size := HC.out.lt
        cases ok
        · have ho : okA len X = false := (okA_ag H12.out.1 H12.out.2).trans (agO_no len (k + 1) (by omega) (by rw [Hstep.out.2, Bool.and_false]))
          have E := Lib.hid (And.intro (agS_no ho) ho)
          clear ho
          go_wp2_with fail
          obtain ⟨d0, d1, _⟩ := HA.out.two 0 0
          have d2 := cell_alloc (.cells #[.float .f32 m.fst, .float .f32 m.snd] 32) d0
          have d3 := cell_alloc (.cells #[.float .f32 m.fst, .float .f32 m.snd] 32) d1
          refine bodyPost_ret (by simp [results, Try.results38, go_sem, d2, d3]; try rfl) rfl ?_
          refine ⟨by rw [E.out.1, E.out.2], ?_⟩
          exact Below.alloc ((HB.out.setCell (Nat.le_refl _) _).setCell (Nat.le_refl _) _) (by have := HB.out.size; simp; omega) _
        · go_wp2_with fail
          go_roundw
          case rel =>
            refine ⟨k + 1, by go_num, by omega, ?_, ?_, ?_, ?_⟩
            · exact Below.alloc ((HB.out.setCell (by simp) _).setCell (by simp) _) (by have := HB.out.size; simp; omega) _
            · exact Blk.alloc (Blk.other (Blk.other HA.out (by simp) _) (by simp) _) _
            · rw [Hstep.out.1]
              exact Blk.alloc (HC.out.two m.1 m.2).2.2 _
            · rw [Hstep.out.2, Hr.out.o]; rfl
          case measure => simp [intOf]; omega
      · obtain rfl : k = len := by omega
        have ho : okA k X = true := (okA_ag H12.out.1 H12.out.2).trans Hr.out.o
        have E := Lib.hid (And.intro (agS_yes ho) ho)
        clear ho
        obtain ⟨d0, d1, _⟩ := Hr.out.a.two (agP X k).1 (agP X k).2
        go_wp2_with fail
        refine bodyPost_ret (by simp [results, Try.results38, go_sem, d0, d1]; try rfl) rfl ?_
        refine ⟨by rw [E.out.1, E.out.2], ?_⟩
        exact (Hr.out.b.setCell (Nat.le_refl _) _).setCell (Nat.le_refl _) _
end Go.Proofs.Ytjmmcpeknaaaiaa.Spn
