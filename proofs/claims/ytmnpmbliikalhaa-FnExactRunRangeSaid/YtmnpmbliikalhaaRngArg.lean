/- A list of ranges among the arguments: its cells. And the contracts of Rng, RngOk at any such list. -/
import Derived.Test.YtmnpmbliikalhaaRngOkI
import Derived.Deep.Slices
import Derived.Deep.Fields
import Derived.ChangeSame
namespace Go.Proofs.Ytmnpmbliikalhaa.Rng
open Go.ChangeShapes Go.WideShapes Go.ChangeAt Go.RowKit Go.Deep Go.Proofs.Ytmnpmbliikalhaa Go.Proofs.Ytmnpmbliikalhaa.Flt Go.Proofs.Ytmnpmbliikalhaa.Mth
set_option linter.unusedVariables false
theorem trod_f32 {H : Type} {enc : TypeId × Value → H} {P : Program} {w : World} {base : Nat} {spare : Nat → Bool} {held : Bool} {t : TypeId} {n : Nat} {v : Value} {y : DataW H × List MemPlace} (ht : P.underlying t = some (.float .f32))
    (h : DataW.trod enc P w base spare held n t [v] = some y) : ∃ b, v = .float .f32 b ∧ (Lit.float .f32 b).wf = true := by
  cases n with
  | zero => simp [DataW.trod] at h
  | succ n =>
    cases v <;> simp only [DataW.trod, ht] at h <;> try cases h
    rename_i k b
    by_cases hw : k = .f32 ∧ (Lit.float .f32 b).wf = true
    · obtain ⟨rfl, hw⟩ := hw
      exact ⟨b, rfl, hw⟩
    · cases k
      · simp_all
      · simp_all
def bitsAt (w : World) (b off k : Nat) : Nat := match w.cell? ⟨b, off + k, none⟩ with
  | some (.float .f32 x) => x
  | _ => 0
theorem bitsAt_eq {w : World} {b off k x : Nat} (h : w.cell? ⟨b, off + k, none⟩ = some (.float .f32 x)) : bitsAt w b off k = x := by
  unfold bitsAt; rw [h]
/-- a list of 'len' ranges behind a slice's address -/
def Lst (w : World) (a : Option Addr) (len : Nat) (X : Nat → Nat) : Prop := Wf len X ∧ (len = 0 ∨ ∃ b off, a = some ⟨b, off, none⟩ ∧ b < w.heap.size ∧ Cells w b off len X)
theorem Lst.keep {w w' : World} {a : Option Addr} {len : Nat} {X : Nat → Nat} (h : Lst w a len X) (hb : Below w.heap.size w w') : Lst w' a len X := by
  obtain ⟨h1, h2⟩ := h
  refine ⟨h1, ?_⟩
  rcases h2 with h2 | ⟨b, off, rfl, hlt, hc⟩
  · exact .inl h2
  · exact .inr ⟨b, off, rfl, Nat.lt_of_lt_of_le hlt hb.size, hc.keep hlt hb⟩
theorem und_laws : ∃ f0 f1 f2 : Field, Try.prog.underlying 70 = some (.struct #[f0, f1, f2]) ∧ (f0.type = 25 ∧ f0.offset = 0) ∧ (f1.type = 25 ∧ f1.offset = 1) ∧ (f2.type = 25 ∧ f2.offset = 2) :=
  ⟨_, _, _, Try.underlying70, ⟨rfl, rfl⟩, ⟨rfl, rfl⟩, ⟨rfl, rfl⟩⟩
theorem cells_laws : Try.prog.cellsOf 70 = 3 := by kernel_rfl
theorem cells_f32 : Try.prog.cellsOf 25 = 1 := by kernel_rfl
theorem open_ranges {H : Type} {enc : TypeId × Value → H} {w : World} {base : Nat} {held : Bool} {fuel : Nat} {cs : List Value} {x : DataW H × List MemPlace}
    (h : DataW.trod enc Try.prog w base (fun _ => true) held fuel 39 cs = some x) :
    ∃ (a : Option Addr) (len cap : Nat) (X : Nat → Nat), cs = [.slice a len cap] ∧ len ≤ maxLen ∧ Lst w a len X := by
  rcases open_slice Try.underlying39 h with ⟨h0, _⟩ | ⟨a, len, cap, m, n, D, Pl, hcs, hb, hl, hm, hmm, hx, hi⟩
  · exact ⟨none, 0, 0, fun _ => 0, h0, Nat.zero_le _, fun i hi => absurd hi (Nat.not_lt_zero _), .inl rfl⟩
  · obtain ⟨f0, f1, f2, hu, ⟨t0, o0⟩, ⟨t1, o1⟩, ⟨t2, o2⟩⟩ := und_laws
    have key : ∀ i, i < len → ∃ x0 x1 x2 : Nat, w.cell? (a.add (i * 3)) = some (.float .f32 x0) ∧ w.cell? ((a.add (i * 3)).add 1) = some (.float .f32 x1) ∧ w.cell? ((a.add (i * 3)).add 2) = some (.float .f32 x2) ∧ (Lit.float .f32 x0).wf = true ∧ (Lit.float .f32 x1).wf = true ∧ (Lit.float .f32 x2).wf = true := by
      intro i hil
      obtain ⟨cs', hc, ht'⟩ := hi i (by simp at hmm; omega)
      rw [cells_laws] at hc
      obtain ⟨_, hcl, hat⟩ := World.cells?_some hc
      obtain ⟨xs, n', _, _, _, hxl, hf⟩ := DataW.trod_struct hu ht'
      match cs', hcl with
      | [c0, c1, c2], _ =>
        match xs, hxl with
        | [y0, y1, y2], _ =>
          have g0 := hf 0 f0 rfl
          have g1 := hf 1 f1 rfl
          have g2 := hf 2 f2 rfl
          rw [t0, o0, cells_f32] at g0
          rw [t1, o1, cells_f32] at g1
          rw [t2, o2, cells_f32] at g2
          obtain ⟨x0, rfl, w0⟩ := trod_f32 Try.underlying25 (y := y0) (by simpa using g0)
          obtain ⟨x1, rfl, w1⟩ := trod_f32 Try.underlying25 (y := y1) (by simpa using g1)
          obtain ⟨x2, rfl, w2⟩ := trod_f32 Try.underlying25 (y := y2) (by simpa using g2)
          exact ⟨x0, x1, x2, by simpa [Addr.add] using hat 0 (by omega), by simpa using hat 1 (by omega), by simpa using hat 2 (by omega), w0, w1, w2⟩
    have hlm : len ≤ maxLen := Nat.le_trans hl hm
    by_cases h0 : len = 0
    · subst h0
      exact ⟨some a, 0, cap, fun _ => 0, hcs, Nat.zero_le _, fun i hi => absurd hi (Nat.not_lt_zero _), .inl rfl⟩
    · obtain ⟨b, off, spot⟩ := a
      have hspot : spot = none := by
        obtain ⟨x0, _, _, hc0, _⟩ := key 0 (by omega)
        have := World.cell?_spot hc0
        simpa [Addr.add] using this
      subst hspot
      have e : ∀ k, (⟨b, off, none⟩ : Addr).add k = ⟨b, off + k, none⟩ := fun k => by unfold Addr.add; split <;> simp_all
      have hc : Cells w b off len (bitsAt w b off) := by
        intro i hi
        obtain ⟨x0, x1, x2, c0, c1, c2, _⟩ := key i hi
        rw [e] at c0 c1 c2
        have e2 : ∀ k j, (⟨b, off + k, none⟩ : Addr).add j = ⟨b, off + k + j, none⟩ := fun k j => by unfold Addr.add; split <;> simp_all
        rw [e2] at c1 c2
        refine ⟨?_, ?_, ?_⟩
        · rw [c0, bitsAt_eq c0]
        · rw [c1, bitsAt_eq (k := i * 3 + 1) c1]
        · rw [c2, bitsAt_eq (k := i * 3 + 2) c2]
      have hlt : b < w.heap.size := lt_of_cell (hc 0 (by omega)).1
      refine ⟨some ⟨b, off, none⟩, len, cap, bitsAt w b off, hcs, hlm, fun i hi => ?_, .inr ⟨b, off, rfl, hlt, hc⟩⟩
      obtain ⟨x0, x1, x2, c0, c1, c2, w0, w1, w2⟩ := key i hi
      obtain ⟨d0, d1, d2⟩ := hc i hi
      rw [e] at c0 c1 c2
      have e2 : ∀ k j, (⟨b, off + k, none⟩ : Addr).add j = ⟨b, off + k + j, none⟩ := fun k j => by unfold Addr.add; split <;> simp_all
      rw [e2] at c1 c2
      rw [c0] at d0
      rw [c1] at d1
      rw [c2] at d2
      simp only [Option.some.injEq, Value.float.injEq, true_and] at d0 d1 d2
      rw [← d0, ← d1, ← d2]
      exact ⟨w0, w1, w2⟩
theorem toR_any (a : Option Addr) (len cap : Nat) (X : Nat → Nat) (w : World) (hl : len ≤ 1048576) (h : Lst w a len X) :
    Calls Try.prog 27 #[.slice a len cap] w fun e w' => e = .returned (.slice (some ⟨w.heap.size, 0, none⟩) len len) ∧ Below w.heap.size w w' ∧ Lst w' (some ⟨w.heap.size, 0, none⟩) len X := by
  obtain ⟨h1, h2⟩ := h
  rcases h2 with rfl | ⟨b, off, rfl, hlt, hc⟩
  · refine (toRangeS_none a cap w).mono ?_
    rintro e w' ⟨rfl, hb⟩
    exact ⟨rfl, hb, h1, .inl rfl⟩
  · refine (toRangeS_any b off len cap X w hl hlt hc).mono ?_
    rintro e w' ⟨rfl, hb, hr⟩
    exact ⟨rfl, hb, h1, .inr ⟨_, 0, rfl, hr.lt, cells_of_row hr⟩⟩
theorem eqR_any (a a' : Option Addr) (len cap cap' : Nat) (X : Nat → Nat) (w : World) (hl : len ≤ 1048576) (h : Lst w a len X) (h' : Lst w a' len X) :
    Calls Try.prog 28 #[.slice a len cap, .slice a' len cap'] w fun e w' => e = .returned (.bool true) ∧ Below w.heap.size w w' := by
  obtain ⟨h1, h2⟩ := h
  obtain ⟨_, h2'⟩ := h'
  by_cases h0 : len = 0
  · subst h0
    refine (eqRangeS_none a a' cap cap' w).mono ?_
    rintro e w ⟨rfl, rfl⟩
    exact ⟨rfl, Below.refl _ _⟩
  · rcases h2 with rfl | ⟨b, off, rfl, hlt, hc⟩
    · exact absurd rfl h0
    rcases h2' with rfl | ⟨b', off', rfl, hlt', hc'⟩
    · exact absurd rfl h0
    exact eqRangeS_any b off b' off' len cap cap' X w hl hlt hlt' hc hc' h1
theorem specOk (a : Option Addr) (len cap : Nat) (X : Nat → Nat) (w : World) (hl : len ≤ 1048576) (h : Lst w a len X) :
    Calls Try.prog 26 #[.slice a len cap] w fun e w' => e = .returned (.bool (okB len X)) ∧ Below w.heap.size w w' := by
  obtain ⟨h1, h2⟩ := h
  by_cases hn : 1 ≤ len ∧ len ≤ 12
  · rcases h2 with rfl | ⟨b, off, rfl, hlt, hc⟩
    · omega
    · exact specOk_in b off len cap X w hn.1 hn.2 hlt hc
  · refine (specOk_out a len cap w hl hn).mono ?_
    rintro e w ⟨rfl, rfl⟩
    exact ⟨ret_bool (okB_out hn), Below.refl _ _⟩
theorem implOk (a : Option Addr) (len cap : Nat) (X : Nat → Nat) (w : World) (hl : len ≤ 1048576) (h : Lst w a len X) :
    Calls Try.prog 47 #[.slice a len cap] w fun e w' => e = .returned (.bool (okB len X)) ∧ Below w.heap.size w w' := by
  obtain ⟨h1, h2⟩ := h
  by_cases hn : 1 ≤ len ∧ len ≤ 12
  · rcases h2 with rfl | ⟨b, off, rfl, hlt, hc⟩
    · omega
    · exact implOk_in b off len cap X w hn.1 hn.2 hlt hc
  · refine (implOk_out a len cap w hl hn).mono ?_
    rintro e w ⟨rfl, rfl⟩
    exact ⟨ret_bool (okB_out hn), Below.refl _ _⟩
end Go.Proofs.Ytmnpmbliikalhaa.Rng
