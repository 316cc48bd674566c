/- A list of spans among the arguments: its cells. And the contracts of Spl at any such list. -/
import Derived.Test.YtjmmcpeknaaaiaaSpl
import Derived.Test.YtjmmcpeknaaaiaaOnly
import Derived.Deep.Slices
import Derived.Deep.Fields
import Derived.ChangeSame
namespace Go.Proofs.Ytjmmcpeknaaaiaa.Spn
open Go.ChangeShapes Go.WideShapes Go.ChangeAt Go.RowKit Go.Deep Go.Proofs.Ytjmmcpeknaaaiaa Go.Proofs.Ytjmmcpeknaaaiaa.Flt Go.Proofs.Ytjmmcpeknaaaiaa.Mth
set_option linter.unusedVariables false
theorem trod_f32 {H : Type} {enc : TypeId × Value → H} {P : Program} {w : World} {base : Nat} {spare : Nat → Bool} {held : Bool} {t : TypeId} {n : Nat} {v : Value} {y : DataW H × List MemPlace} (ht : P.underlying t = some (.float .f32))
    (h : DataW.trod enc P w base spare held n t [v] = some y) : ∃ b, v = .float .f32 b ∧ (Lit.float .f32 b).wf = true := by
  cases n with
  | zero => simp [DataW.trod] at h
  | succ n =>
    cases v <;> simp only [DataW.trod, ht] at h <;> try cases h
    rename_i k b
    by_cases hw : k = .f32 ∧ (Lit.float .f32 b).wf = true
    · obtain ⟨rfl, hw⟩ := hw
      exact ⟨b, rfl, hw⟩
    · cases k
      · simp_all
      · simp_all
/-- the same, with the datum -/
theorem trod_f32d {H : Type} {enc : TypeId × Value → H} {P : Program} {w : World} {base : Nat} {spare : Nat → Bool} {held : Bool} {t : TypeId} {n : Nat} {v : Value} {y : DataW H × List MemPlace} (ht : P.underlying t = some (.float .f32))
    (h : DataW.trod enc P w base spare held n t [v] = some y) : ∃ b, v = .float .f32 b ∧ y = (.lit (.float .f32 b), []) ∧ (Lit.float .f32 b).wf = true := by
  obtain ⟨b, rfl, hw⟩ := trod_f32 ht h
  refine ⟨b, rfl, ?_, hw⟩
  cases n with
  | zero => simp [DataW.trod] at h
  | succ n =>
    simp [DataW.trod, ht, hw] at h
    exact h.symm
def bitsAt (w : World) (b off k : Nat) : Nat := match w.cell? ⟨b, off + k, none⟩ with
  | some (.float .f32 x) => x
  | _ => 0
theorem bitsAt_eq {w : World} {b off k x : Nat} (h : w.cell? ⟨b, off + k, none⟩ = some (.float .f32 x)) : bitsAt w b off k = x := by
  unfold bitsAt; rw [h]
/-- a list of 'len' points behind a slice's address -/
def Lst (w : World) (a : Option Addr) (len : Nat) (X : Nat → Nat) : Prop := Wf len X ∧ (len = 0 ∨ ∃ b off, a = some ⟨b, off, none⟩ ∧ b < w.heap.size ∧ Cells w b off len X)
theorem Lst.keep {w w' : World} {a : Option Addr} {len : Nat} {X : Nat → Nat} (h : Lst w a len X) (hb : Below w.heap.size w w') : Lst w' a len X := by
  obtain ⟨h1, h2⟩ := h
  refine ⟨h1, ?_⟩
  rcases h2 with h2 | ⟨b, off, rfl, hlt, hc⟩
  · exact .inl h2
  · exact .inr ⟨b, off, rfl, Nat.lt_of_lt_of_le hlt hb.size, hc.keep hlt hb⟩
theorem Lst.cells {w : World} {a : Option Addr} {len : Nat} {X : Nat → Nat} (h : Lst w a len X) (h0 : 0 < len) : ∃ b off, a = some ⟨b, off, none⟩ ∧ b < w.heap.size ∧ Cells w b off len X := by
  rcases h.2 with e | e
  · omega
  · exact e
theorem und_laws : ∃ f0 f1 : Field, Try.prog.underlying 44 = some (.struct #[f0, f1]) ∧ (f0.type = 24 ∧ f0.offset = 0) ∧ (f1.type = 24 ∧ f1.offset = 1) :=
  ⟨_, _, Try.underlying44, ⟨rfl, rfl⟩, ⟨rfl, rfl⟩⟩
theorem cells_laws : Try.prog.cellsOf 44 = 2 := by kernel_rfl
theorem cells_f32 : Try.prog.cellsOf 24 = 1 := by kernel_rfl
set_option maxRecDepth 20000 in
theorem open_points {H : Type} {enc : TypeId × Value → H} {w : World} {base : Nat} {held : Bool} {fuel : Nat} {cs : List Value} {x : DataW H × List MemPlace}
    (h : DataW.trod enc Try.prog w base (fun _ => true) held fuel 58 cs = some x) :
    ∃ (a : Option Addr) (len cap : Nat) (X : Nat → Nat), cs = [.slice a len cap] ∧ len ≤ maxLen ∧ Lst w a len X := by
  rcases open_slice Try.underlying58 h with ⟨h0, _⟩ | ⟨a, len, cap, m, n, D, Pl, hcs, hb, hl, hm, hmm, hx, hi⟩
  · exact ⟨none, 0, 0, fun _ => 0, h0, Nat.zero_le _, fun i hi => absurd hi (Nat.not_lt_zero _), .inl rfl⟩
  · obtain ⟨f0, f1, hu, ⟨t0, o0⟩, ⟨t1, o1⟩⟩ := und_laws
    have key : ∀ i, i < len → ∃ x0 x1 : Nat, w.cell? (a.add (i * 2)) = some (.float .f32 x0) ∧ w.cell? ((a.add (i * 2)).add 1) = some (.float .f32 x1) ∧ (Lit.float .f32 x0).wf = true ∧ (Lit.float .f32 x1).wf = true := by
      intro i hil
      obtain ⟨cs', hc, ht'⟩ := hi i (by simp at hmm; omega)
      rw [cells_laws] at hc
      obtain ⟨_, hcl, hat⟩ := World.cells?_some hc
      obtain ⟨xs, n', _, _, _, hxl, hf⟩ := DataW.trod_struct hu ht'
      match cs', hcl with
      | [c0, c1], _ =>
        match xs, hxl with
        | [y0, y1], _ =>
          have g0 := hf 0 f0 rfl
          have g1 := hf 1 f1 rfl
          rw [t0, o0, cells_f32] at g0
          rw [t1, o1, cells_f32] at g1
          obtain ⟨x0, rfl, w0⟩ := trod_f32 Try.underlying24 (y := y0) (by simpa using g0)
          obtain ⟨x1, rfl, w1⟩ := trod_f32 Try.underlying24 (y := y1) (by simpa using g1)
          exact ⟨x0, x1, by simpa [Addr.add] using hat 0 (by omega), by simpa using hat 1 (by omega), w0, w1⟩
    have hlm : len ≤ maxLen := Nat.le_trans hl hm
    by_cases h0 : len = 0
    · subst h0
      exact ⟨some a, 0, cap, fun _ => 0, hcs, Nat.zero_le _, fun i hi => absurd hi (Nat.not_lt_zero _), .inl rfl⟩
    · obtain ⟨b, off, spot⟩ := a
      have hspot : spot = none := by
        obtain ⟨x0, _, hc0, _⟩ := key 0 (by omega)
        have := World.cell?_spot hc0
        simpa [Addr.add] using this
      subst hspot
      have e : ∀ k, (⟨b, off, none⟩ : Addr).add k = ⟨b, off + k, none⟩ := fun k => by unfold Addr.add; split <;> simp_all
      have e2 : ∀ k j, (⟨b, off + k, none⟩ : Addr).add j = ⟨b, off + k + j, none⟩ := fun k j => by unfold Addr.add; split <;> simp_all
      have hc : Cells w b off len (bitsAt w b off) := by
        intro i hi
        obtain ⟨x0, x1, c0, c1, _⟩ := key i hi
        rw [e] at c0 c1
        rw [e2] at c1
        refine ⟨?_, ?_⟩
        · rw [c0, bitsAt_eq c0]
        · rw [c1, bitsAt_eq (k := i * 2 + 1) c1]
      have hlt : b < w.heap.size := lt_of_cell (hc 0 (by omega)).1
      refine ⟨some ⟨b, off, none⟩, len, cap, bitsAt w b off, hcs, hlm, fun i hi => ?_, .inr ⟨b, off, rfl, hlt, hc⟩⟩
      obtain ⟨x0, x1, c0, c1, w0, w1⟩ := key i hi
      obtain ⟨d0, d1⟩ := hc i hi
      rw [e] at c0 c1
      rw [e2] at c1
      rw [c0] at d0
      rw [c1] at d1
      simp only [Option.some.injEq, Value.float.injEq, true_and] at d0 d1
      rw [← d0, ← d1]
      exact ⟨w0, w1⟩
/-- the copy, with its row -/
theorem toP_any (a : Option Addr) (len cap : Nat) (X : Nat → Nat) (w : World) (hl : len ≤ 1048576) (h : Lst w a len X) :
    Calls Try.prog 60 #[.slice a len cap] w fun e w' => e = .returned (.slice (some ⟨w.heap.size, 0, none⟩) len len) ∧ Below w.heap.size w w' ∧ Lst w' (some ⟨w.heap.size, 0, none⟩) len X ∧ ∃ f, w'.rowIs w.heap.size 32 (2 * len) f := by
  obtain ⟨h1, h2⟩ := h
  rcases h2 with rfl | ⟨b, off, rfl, hlt, hc⟩
  · refine (toSpanS_none a cap w).mono ?_
    rintro e w' ⟨rfl, hb, hr⟩
    exact ⟨rfl, hb, ⟨h1, .inl rfl⟩, _, hr⟩
  · refine (toSpanS_any b off len cap X w hl hlt hc).mono ?_
    rintro e w' ⟨rfl, hb, hr⟩
    exact ⟨rfl, hb, ⟨h1, .inr ⟨_, 0, rfl, hr.lt, cells_of_row hr⟩⟩, _, hr⟩
theorem eqP_any (a a' : Option Addr) (len cap cap' : Nat) (X : Nat → Nat) (w : World) (hl : len ≤ 1048576) (h : Lst w a len X) (h' : Lst w a' len X) :
    Calls Try.prog 61 #[.slice a len cap, .slice a' len cap'] w fun e w' => e = .returned (.bool true) ∧ Below w.heap.size w w' := by
  obtain ⟨h1, h2⟩ := h
  obtain ⟨_, h2'⟩ := h'
  by_cases h0 : len = 0
  · subst h0
    refine (eqSpanS_none a a' cap cap' w).mono ?_
    rintro e w ⟨rfl, rfl⟩
    exact ⟨rfl, Below.refl _ _⟩
  · rcases h2 with rfl | ⟨b, off, rfl, hlt, hc⟩
    · exact absurd rfl h0
    rcases h2' with rfl | ⟨b', off', rfl, hlt', hc'⟩
    · exact absurd rfl h0
    exact eqSpanS_any b off b' off' len cap cap' X w hl hlt hlt' hc hc' h1
end Go.Proofs.Ytjmmcpeknaaaiaa.Spn
