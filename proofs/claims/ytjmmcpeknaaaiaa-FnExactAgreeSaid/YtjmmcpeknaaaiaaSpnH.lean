/- Agree in the model. -/
import Derived.Test.YtjmmcpeknaaaiaaSpnG
namespace Go.Proofs.Ytjmmcpeknaaaiaa.Spn
open Go.ChangeShapes Go.WideShapes Go.ChangeAt Go.RowKit Go.Deep Go.Proofs.Ytjmmcpeknaaaiaa Go.Proofs.Ytjmmcpeknaaaiaa.Flt Go.Proofs.Ytjmmcpeknaaaiaa.Mth
open Ieee (single double)
set_option linter.unusedVariables false
set_option linter.unusedSimpArgs false
set_option maxRecDepth 20000
theorem in_anyG (n a b : Int) (w : World) :
    Calls Try.prog 83 #[.int .i64 n, .int .i64 a, .int .i64 b] w fun e w' => e = .returned (.bool (decide (a ≤ n) && decide (n ≤ b))) ∧ w' = w := by
  go_enter Try.func83, Try.ntmps83
  go_wp2
  all_goals
    go_ret
    exact ⟨ret_bool (by simp <;> omega), rfl⟩
/-- four cells -/
def Four (p q r s : Addr) (a b c d : Nat) (w : World) : Prop :=
  w.cell? p = some (.float .f32 a) ∧ w.cell? q = some (.float .f32 b) ∧ w.cell? r = some (.float .f32 c) ∧ w.cell? s = some (.float .f32 d)
theorem Four.out {p q r s : Addr} {a b c d : Nat} {w : World} (h : Four p q r s a b c d w) : w.cell? p = some (.float .f32 a) ∧ w.cell? q = some (.float .f32 b) ∧ w.cell? r = some (.float .f32 c) ∧ w.cell? s = some (.float .f32 d) := h
theorem Four.alloc {p q r s : Addr} {a b c d : Nat} {w : World} (h : Four p q r s a b c d w) (o : Obj) : Four p q r s a b c d (w.alloc o) := ⟨cell_alloc o h.1, cell_alloc o h.2.1, cell_alloc o h.2.2.1, cell_alloc o h.2.2.2⟩
theorem Four.drew {p q r s : Addr} {a b c d : Nat} {w : World} (h : Four p q r s a b c d w) : Four p q r s a b c d w.drew := h
theorem Four.keep {p q r s : Addr} {a b c d : Nat} {w w' : World} (h : Four p q r s a b c d w) (hb : Below w.heap.size w w') : Four p q r s a b c d w' :=
  ⟨(hb.cell (World.block_lt_of_cell? w _ h.1)).trans h.1, (hb.cell (World.block_lt_of_cell? w _ h.2.1)).trans h.2.1, (hb.cell (World.block_lt_of_cell? w _ h.2.2.1)).trans h.2.2.1, (hb.cell (World.block_lt_of_cell? w _ h.2.2.2)).trans h.2.2.2⟩
theorem Four.setCell {p q r s : Addr} {a b c d : Nat} {w : World} (h : Four p q r s a b c d w) {x : Addr} (h0 : x.block ≠ p.block) (h1 : x.block ≠ q.block) (h2 : x.block ≠ r.block) (h3 : x.block ≠ s.block) (u : Value) : Four p q r s a b c d (w.setCell x u) :=
  ⟨cell_set h.1 h0, cell_set h.2.1 h1, cell_set h.2.2.1 h2, cell_set h.2.2.2 h3⟩
set_option maxHeartbeats 1000000 in
theorem spec_agree (a : Option Addr) (len cap : Nat) (X : Nat → Nat) (w : World) (hl : len ≤ 1048576) (h : Lst w a len X) :
    Calls Try.prog 59 #[.slice a len cap] w fun e w' => e = .returned (.tuple #[pv (agS len X).1 (agS len X).2, .bool (okA len X)]) ∧ Below w.heap.size w w' := by
  have H := Lib.hid h
  clear h
  by_cases hf : len < 1 ∨ 64 < len
  · rw [agS_no (okA_few (X := X) hf), okA_few hf]
    unfold pv
    have hi := fun w => in_anyG (len : Int) 1 64 w
    rw [show (decide (1 ≤ (len : Int)) && decide ((len : Int) ≤ 64)) = false by rcases hf with hf | hf <;> simp <;> omega] at hi
    clear hf
    go_enter Try.func59, Try.ntmps59
    go_wp2_with fail
    refine (hi _).mono ?_
    rintro e w9 ⟨rfl, hw9⟩
    subst w9
    go_wp2_with fail
    refine bodyPost_ret (by simp [results, Try.results59, go_sem]; try rfl) rfl ?_
    exact ⟨rfl, by go_grown⟩
  · have h1 : 1 ≤ len := by omega
    have h2 : len ≤ 64 := by omega
    have hi := fun w => in_anyG (len : Int) 1 64 w
    rw [show (decide (1 ≤ (len : Int)) && decide ((len : Int) ≤ 64)) = true by simp <;> omega] at hi
    have hpos : (0 : Int) < len := by omega
    obtain ⟨b, off, ha, hlt, hc⟩ := Lst.cells H.out (by omega)
    subst ha
    have a0 : w.cell? ⟨b, off, none⟩ = some (.float .f32 (X 0)) := (hc 0 (by omega)).1
    have a1 : w.cell? ⟨b, off + 1, none⟩ = some (.float .f32 (X 1)) := (hc 0 (by omega)).2
    have Hc := Lib.hid hc
    have Hw := Lib.hid (agP_wf h1 H.out.1)
    have H12 := Lib.hid (And.intro h1 h2)
    have HS := Lib.hid (Rnd.start w X)
    clear hc hf h1 h2
    unfold pv
    generalize X 0 = x0 at a0 HS
    generalize X 1 = x1 at a1 HS
    go_enter Try.func59, Try.ntmps59
    go_wp2_with fail
    refine (hi _).mono ?_
    rintro e w9 ⟨rfl, hw9⟩
    subst w9
    go_wp2_with fail
    go_loopw [5] (fun i wr => ∃ k : Nat, i = .int .i64 k ∧ k ≤ len ∧ Rnd w X k wr)
      (fun i _ => len - (intOf i).toNat)
    case atStart => exact ⟨0, rfl, Nat.zero_le _, HS.out⟩
    case round =>
      obtain ⟨k, rfl, hk, hr⟩ := hrel
      have Hr := Lib.hid hr
      clear hr
      have c0 := Hr.out.c.cell 0 rfl
      have c1 := Hr.out.c.cell 1 rfl
      have r0 := Hr.out.a.cell 0 rfl
      have r1 := Hr.out.a.cell 1 rfl
      have z0 := Hr.out.a.free 0
      have z1 := Hr.out.a.free 1
      have nC := Hr.out.c.lt
      by_cases hkl : k < len
      · have w4 := Hw.out k (by omega)
        have w5 := H.out.1 k hkl
        have e0 : wr.cell? ⟨b, off + k * 2, none⟩ = some (.float .f32 (X (k * 2))) := (Hr.out.b.cell (by exact hlt)).trans (Hc.out k hkl).1
        have e1 : wr.cell? ⟨b, off + k * 2 + 1, none⟩ = some (.float .f32 (X (k * 2 + 1))) := (Hr.out.b.cell (by exact hlt)).trans (Hc.out k hkl).2
        have hm := fun w => spec_meet (agP X k).1 (agP X k).2 (X (k * 2)) (X (k * 2 + 1)) w
        have Hstep := Lib.hid (show agP X (k + 1) = meetS (agP X k).1 (agP X k).2 (X (k * 2)) (X (k * 2 + 1)) ∧ agO X (k + 1) = (agO X k && meetB (agP X k).1 (agP X k).2 (X (k * 2)) (X (k * 2 + 1))) from ⟨rfl, rfl⟩)
        clear w4 w5
        generalize meetS (agP X k).1 (agP X k).2 (X (k * 2)) (X (k * 2 + 1)) = m at *
        generalize meetB (agP X k).1 (agP X k).2 (X (k * 2)) (X (k * 2 + 1)) = ok at *
        obtain ⟨lo, hlo⟩ : ∃ lo, (agP X k).1 = lo := ⟨_, rfl⟩
        obtain ⟨hi, hhi⟩ : ∃ hi, (agP X k).2 = hi := ⟨_, rfl⟩
        rw [hlo, hhi] at c0 c1 hm
        have hcc := Hr.out.c
        rw [hlo, hhi] at hcc
        have Hcc := Lib.hid hcc
        clear hlo hhi hcc
        generalize X (k * 2) = x at *
        generalize X (k * 2 + 1) = y at *
        unfold pv at hm
        have nCr : w.heap.size + 1 < wr.heap.size := nC
        go_wp2_with fail
        rename_i K hK
        have hQ : ∀ r w1, (Below w.heap.size w w1 ∧ Blk w1 w.heap.size #[.float .f32 0, .float .f32 0] 32 ∧ Blk w1 (w.heap.size + 1) #[.float .f32 lo, .float .f32 hi] 32 ∧ Blk w1 r #[.float .f32 m.1, .float .f32 m.2] 32 ∧ w.heap.size + 1 < r) → K
          ({ tmps := #[.slice (some ⟨b, off, none⟩) len cap, undef, .pointer (some ⟨w.heap.size, 0, none⟩), u3, .pointer (some ⟨w.heap.size + 1, 0, none⟩), .int .i64 (k : Int), .pointer (some ⟨r, 0, none⟩), .bool ok,
            .slice (some ⟨b, off, none⟩) len cap, .int .i64 (len : Int), .bool true, .bool false, undef, .slice (some ⟨b, off, none⟩) len cap, .pointer (some ⟨b, off, none⟩), .agg #[.float .f32 x0, .float .f32 x1], .int .i64 (k : Int), .slice (some ⟨b, off, none⟩) len cap, .int .i64 (len : Int), .bool true, u20, u21,
            .tuple #[.agg #[.float .f32 m.1, .float .f32 m.2], .bool ok], .agg #[.float .f32 lo, .float .f32 hi], .slice (some ⟨b, off, none⟩) len cap, .int .i64 (k : Int), .pointer (some ⟨b, off + k * 2, none⟩), .agg #[.float .f32 x, .float .f32 y], .tuple #[.agg #[.float .f32 m.1, .float .f32 m.2], .bool ok], .agg #[.float .f32 m.1, .float .f32 m.2], .bool ok, u31, u32, u33, u34, undef], defers := [] }) w1 := by
          rintro r w1 ⟨hb1, hA1, hC1, hR1, hrn⟩
          have HB := Lib.hid hb1
          have HA := Lib.hid hA1
          have HC := Lib.hid hC1
          have HR := Lib.hid hR1
          clear c0 c1 r0 r1 z0 z1 e0 e1 nC nCr hb1 hA1 hC1 hR1
          have c0 := HC.out.cell 0 rfl
          have c1 := HC.out.cell 1 rfl
          have r0 := HA.out.cell 0 rfl
          have r1 := HA.out.cell 1 rfl
          have z0 := HA.out.free 0
          have z1 := HA.out.free 1
          have y0 := HC.out.free 0
          have y1 := HC.out.free 1
          have s0 := HR.out.cell 0 rfl
          have s1 := HR.out.cell 1 rfl
          apply hK
          cases ok
          · have ho : okA len X = false := (okA_ag H12.out.1 H12.out.2).trans (agO_no len (k + 1) (by omega) (by rw [Hstep.out.2, Bool.and_false]))
            have E := Lib.hid (And.intro (agS_no ho) ho)
            clear ho
            go_wp2_with fail
            obtain ⟨d0, d1, _⟩ := HA.out.two 0 0
            refine bodyPost_ret (by simp [results, Try.results59, go_sem, d0, d1]; try rfl) rfl ?_
            refine ⟨by rw [E.out.1, E.out.2], ?_⟩
            exact (HB.out.setCell (Nat.le_refl _) _).setCell (Nat.le_refl _) _
          · go_wp2_with fail
            go_roundw
            case rel =>
              refine ⟨k + 1, by go_num, by omega, ?_, ?_, ?_, ?_⟩
              · exact (HB.out.setCell (by simp) _).setCell (by simp) _
              · exact Blk.other (Blk.other HA.out (by simp) _) (by simp) _
              · rw [Hstep.out.1]
                exact (HC.out.two m.1 m.2).2.2
              · rw [Hstep.out.2, Hr.out.o]; rfl
            case measure => simp [intOf]; omega
        have HQ := Lib.hid hQ
        clear hQ
        have HP := Lib.hid (show Four ⟨w.heap.size + 1, 0, none⟩ ⟨w.heap.size + 1, 1, none⟩ ⟨b, off + k * 2, none⟩ ⟨b, off + k * 2 + 1, none⟩ lo hi x y wr from ⟨c0, c1, e0, e1⟩)
        have n0 := World.new_ne wr _ c0
        have n2 := World.new_ne wr _ e0
        have nb : b < wr.heap.size := by omega
        go_region_held (fun w' => w'.cell? ⟨w.heap.size + 1, 0, none⟩ = some (.float .f32 lo) ∧ w'.cell? ⟨w.heap.size + 1, 1, none⟩ = some (.float .f32 hi) ∧ w'.cell? ⟨b, off + k * 2, none⟩ = some (.float .f32 x) ∧ w'.cell? ⟨b, off + k * 2 + 1, none⟩ = some (.float .f32 y)) ((refine Four.out ?_; (repeat (first | (with_reducible refine Four.alloc ?_ _) | (with_reducible refine Four.drew ?_) | (with_reducible refine Four.setCell ?_ ?_ ?_ ?_ ?_ _))); all_goals first | exact HP.out | exact Hp9.out | omega | (simp; omega))) (first
          | (go_at_call 51; refine (hm _).mono ?_; rintro e w9 ⟨rfl, hb9⟩; have hp9 : Four ⟨w.heap.size + 1, 0, none⟩ ⟨w.heap.size + 1, 1, none⟩ ⟨b, off + k * 2, none⟩ ⟨b, off + k * 2 + 1, none⟩ lo hi x y w9 := Four.keep (by (repeat (first | (with_reducible refine Four.alloc ?_ _) | (with_reducible refine Four.drew ?_))); exact HP.out) hb9; have Hp9 := Lib.hid hp9; clear hp9; have hB9 : Below wr.heap.size wr w9 := Below.trans (by go_grown) (hb9.mono (by simp; try omega)); have HB9 := Lib.hid hB9; clear hB9; (first | (refine Blk.thenKeep (R := wr.heap.size) (vs := #[.float .f32 0, .float .f32 0]) (T := 32) ?_ hb9 ?_; (focus ((repeat (first | (with_reducible refine Blk.drew ?_) | (refine Blk.new ?_; (simp; done)) | (with_reducible refine Blk.alloc ?_ _))); done)); intro qb; have q0 := qb.cell 0 rfl; have q1 := qb.cell 1 rfl; have q2 := qb.free 0; have q3 := qb.free 1; have q4 := qb.lt; have Qb := Lib.hid qb; clear qb) | skip); clear hb9))
        all_goals
          refine HQ.out _ _ ⟨?_, ?_, ?_, ?_, ?_⟩
          · have hb := Hr.out.b.trans (HB9.out.mono Hr.out.b.size)
            (repeat' (first | exact hb | refine Below.setCell ?_ ?_ _ | refine Below.alloc ?_ ?_ _ | exact Below.drew ?_))
            all_goals first | done | (simp; omega) | (have h1 := hb.size; have h2 := Hr.out.b.size; simp; omega)
          · have ha9 := Blk.keep Hr.out.a HB9.out
            (repeat' (first | exact ha9 | refine Blk.other ?_ ?_ _ | (with_reducible refine Blk.drew ?_) | (with_reducible refine Blk.alloc ?_ _)))
            all_goals first | done | (simp; omega)
          · have hc9 := Blk.keep Hcc.out HB9.out
            (repeat' (first | exact hc9 | refine Blk.other ?_ ?_ _ | (with_reducible refine Blk.drew ?_) | (with_reducible refine Blk.alloc ?_ _)))
            all_goals first | done | (simp; omega)
          · first
              | exact (Blk.two Qb.out m.1 m.2).2.2
              | (repeat (first | (with_reducible refine Blk.drew ?_) | (refine Blk.new ?_; (simp; done)) | (with_reducible refine Blk.alloc ?_ _)))
          · first | omega | (have := HB9.out.size; simp; omega)
      · obtain rfl : k = len := by omega
        have ho : okA k X = true := (okA_ag H12.out.1 H12.out.2).trans Hr.out.o
        have E := Lib.hid (And.intro (agS_yes ho) ho)
        clear ho
        obtain ⟨d0, d1, _⟩ := Hr.out.a.two (agP X k).1 (agP X k).2
        go_wp2_with fail
        refine bodyPost_ret (by simp [results, Try.results59, go_sem, d0, d1]; try rfl) rfl ?_
        refine ⟨by rw [E.out.1, E.out.2], ?_⟩
        exact (Hr.out.b.setCell (Nat.le_refl _) _).setCell (Nat.le_refl _) _
end Go.Proofs.Ytjmmcpeknaaaiaa.Spn
