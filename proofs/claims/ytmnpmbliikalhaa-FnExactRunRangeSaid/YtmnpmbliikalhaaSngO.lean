/- A list of singles among the arguments: its cells; the copies and the comparison at any such list; the marks. -/
import Derived.Test.YtmnpmbliikalhaaSngL
import Derived.Test.YtmnpmbliikalhaaRngArg
namespace Go.Proofs.Ytmnpmbliikalhaa.Sgl
open Go.ChangeShapes Go.WideShapes Go.ChangeAt Go.RowKit Go.Deep Go.Proofs.Ytmnpmbliikalhaa Go.Proofs.Ytmnpmbliikalhaa.Flt Go.Proofs.Ytmnpmbliikalhaa.Mth Go.Proofs.Ytmnpmbliikalhaa.Rng
set_option linter.unusedVariables false
/-- a list of 'len' singles behind a slice's address -/
def LstF (w : World) (a : Option Addr) (len : Nat) (X : Nat → Nat) : Prop := WfF len X ∧ (len = 0 ∨ ∃ b off, a = some ⟨b, off, none⟩ ∧ b < w.heap.size ∧ CellsF w b off len X)
theorem LstF.keep {w w' : World} {a : Option Addr} {len : Nat} {X : Nat → Nat} (h : LstF w a len X) (hb : Below w.heap.size w w') : LstF w' a len X := by
  obtain ⟨h1, h2⟩ := h
  refine ⟨h1, ?_⟩
  rcases h2 with h2 | ⟨b, off, rfl, hlt, hc⟩
  · exact .inl h2
  · exact .inr ⟨b, off, rfl, Nat.lt_of_lt_of_le hlt hb.size, hc.keep hlt hb⟩
theorem open_floats {H : Type} {enc : TypeId × Value → H} {w : World} {base : Nat} {held : Bool} {fuel : Nat} {cs : List Value} {x : DataW H × List MemPlace}
    (h : DataW.trod enc Try.prog w base (fun _ => true) held fuel 45 cs = some x) :
    ∃ (a : Option Addr) (len cap : Nat) (X : Nat → Nat), cs = [.slice a len cap] ∧ len ≤ maxLen ∧ LstF w a len X := by
  rcases open_slice Try.underlying45 h with ⟨h0, _⟩ | ⟨a, len, cap, m, n, D, Pl, hcs, hb, hl, hm, hmm, hx, hi⟩
  · exact ⟨none, 0, 0, fun _ => 0, h0, Nat.zero_le _, fun i hi => absurd hi (Nat.not_lt_zero _), .inl rfl⟩
  · have key : ∀ i, i < len → ∃ x0 : Nat, w.cell? (a.add i) = some (.float .f32 x0) ∧ (Lit.float .f32 x0).wf = true := by
      intro i hil
      obtain ⟨cs', hc, ht'⟩ := hi i (by simp at hmm; omega)
      rw [cells_f32, Nat.mul_one] at hc
      obtain ⟨_, hcl, hat⟩ := World.cells?_some hc
      match cs', hcl with
      | [c0], _ =>
        obtain ⟨x0, rfl, w0⟩ := trod_f32 Try.underlying25 ht'
        exact ⟨x0, by simpa [Addr.add] using hat 0 (by omega), w0⟩
    have hlm : len ≤ maxLen := Nat.le_trans hl hm
    by_cases h0 : len = 0
    · subst h0
      exact ⟨some a, 0, cap, fun _ => 0, hcs, Nat.zero_le _, fun i hi => absurd hi (Nat.not_lt_zero _), .inl rfl⟩
    · obtain ⟨b, off, spot⟩ := a
      have hspot : spot = none := by
        obtain ⟨x0, hc0, _⟩ := key 0 (by omega)
        have := World.cell?_spot hc0
        simpa [Addr.add] using this
      subst hspot
      have e : ∀ k, (⟨b, off, none⟩ : Addr).add k = ⟨b, off + k, none⟩ := fun k => by unfold Addr.add; split <;> simp_all
      have hc : CellsF w b off len (bitsAt w b off) := by
        intro i hi
        obtain ⟨x0, c0, _⟩ := key i hi
        rw [e] at c0
        rw [c0, bitsAt_eq c0]
      have hlt : b < w.heap.size := lt_of_cell (hc 0 (by omega))
      refine ⟨some ⟨b, off, none⟩, len, cap, bitsAt w b off, hcs, hlm, fun i hi => ?_, .inr ⟨b, off, rfl, hlt, hc⟩⟩
      obtain ⟨x0, c0, w0⟩ := key i hi
      have d0 := hc i hi
      rw [e] at c0
      rw [c0] at d0
      simp only [Option.some.injEq, Value.float.injEq, true_and] at d0
      rw [← d0]
      exact w0
theorem toFL_any (a : Option Addr) (len cap : Nat) (X : Nat → Nat) (w : World) (hl : len ≤ 1048576) (h : LstF w a len X) :
    Calls Try.prog 32 #[.slice a len cap] w fun e w' => e = .returned (.slice (some ⟨w.heap.size, 0, none⟩) len len) ∧ Below w.heap.size w w' ∧ LstF w' (some ⟨w.heap.size, 0, none⟩) len X ∧ w'.rowIs w.heap.size 25 len (partF X len) := by
  obtain ⟨h1, h2⟩ := h
  rcases h2 with rfl | ⟨b, off, rfl, hlt, hc⟩
  · refine (toF_none a cap w).mono ?_
    rintro e w' ⟨rfl, hb, hr⟩
    exact ⟨rfl, hb, ⟨h1, .inl rfl⟩, hr.congr fun j hj => absurd hj (Nat.not_lt_zero _)⟩
  · refine (toF_any b off len cap X w hl hlt hc).mono ?_
    rintro e w' ⟨rfl, hb, hr⟩
    exact ⟨rfl, hb, ⟨h1, .inr ⟨_, 0, rfl, hr.lt, cellsF_of_row hr⟩⟩, hr⟩
theorem eqFL_any (a a' : Option Addr) (len cap cap' : Nat) (X : Nat → Nat) (w : World) (hl : len ≤ 1048576) (h : LstF w a len X) (h' : LstF w a' len X) :
    Calls Try.prog 35 #[.slice a len cap, .slice a' len cap'] w fun e w' => e = .returned (.bool true) ∧ Below w.heap.size w w' := by
  obtain ⟨h1, h2⟩ := h
  obtain ⟨_, h2'⟩ := h'
  by_cases h0 : len = 0
  · subst h0
    refine (eqF_none a a' cap cap' w).mono ?_
    rintro e w ⟨rfl, rfl⟩
    exact ⟨rfl, Below.refl _ _⟩
  · rcases h2 with rfl | ⟨b, off, rfl, hlt, hc⟩
    · exact absurd rfl h0
    rcases h2' with rfl | ⟨b', off', rfl, hlt', hc'⟩
    · exact absurd rfl h0
    exact eqF_any b off b' off' len cap cap' X w hl hlt hlt' hc hc' h1
/-- what a mark writes -/
def fl (k : Int) : Nat := floatOfInt .f32 k
theorem run_fl (k : Int) (w : World) : (convert 3 25 (.int .i64 k)).run Try.prog w = .ok (.float .f32 (fl k)) w := by
  unfold fl
  rw [run_convert_int_float w 3 25 .i64 .f32 k (by rw [Try.underlying3]; rfl) Try.underlying25]
set_option maxHeartbeats 400000 in
/-- singles are marked in the call's own memory -/
theorem markF_any (B len cap k0 : Nat) (f : Nat → Value) (w : World) (hl : len ≤ 1048576) (hk0 : k0 ≤ 4000000) (hr : w.rowIs B 25 len f) :
    Calls Try.prog 37 #[.slice (some ⟨B, 0, none⟩) len cap, .int .i64 (k0 : Int)] w fun e w' => e = .returned (.int .i64 ((k0 + len : Nat) : Int)) ∧ Only B w w' := by
  have Hr := Lib.hid hr
  have hc := run_fl
  clear hr
  go_enter Try.func37, Try.ntmps37
  go_wp2_with fail
  go_loopw [1, 5] (fun kv iv wr => ∃ (i k : Nat) (f : Nat → Value), i ≤ len ∧ k = k0 + i ∧ kv = .int .i64 (k : Int) ∧ iv = .int .i64 (i : Int) ∧ wr.rowIs B 25 len f ∧ Only B w wr) (fun _ iv _ => len - (intOf iv).toNat)
  case atStart => exact ⟨0, k0, f, Nat.zero_le _, rfl, rfl, rfl, Hr.out, Only.refl _ _⟩
  case round =>
    obtain ⟨i, k, g, hi, hki, rfl, rfl, hrow, hbel⟩ := hrel
    have Hk := Lib.hid hki
    have hkb : k ≤ 6000000 := by omega
    by_cases hin : i < len
    · have hin' : (i : Int) < len := by omega
      have d0 := hrow.cell (i := i) hin
      have f0 := hrow.frozen i
      have Hs := Lib.hid (And.intro (hrow.set i (.float .f32 (fl (k : Int)))) (hbel.setCell i (.float .f32 (fl (k : Int)))))
      clear hrow hbel hki
      generalize g i = gi at *
      go_wp2_with fail
      go_roundw
      case rel => exact ⟨i + 1, k + 1, _, hin, by rw [Hk.out]; omega, by go_num, by go_num, Hs.out.1, Hs.out.2⟩
      case measure => simp [intOf]; omega
    · have hin' : ¬ (i : Int) < len := by omega
      have Hf := Lib.hid (show (k : Int) = ((k0 + len : Nat) : Int) by omega)
      have Hb := Lib.hid hbel
      clear hrow hbel hki hc
      go_wp2_with fail
      go_ret
      exact ⟨ret_int Hf.out, Hb.out⟩
end Go.Proofs.Ytmnpmbliikalhaa.Sgl
