/- The walk of FnExactComposeTurns, one of three cases. -/
import Derived.Test.YtegcgbddoeoipaaRows
import Derived.Test.YtegcgbddoeoipaaTrn
import Derived.Deep.RegionHeld
namespace Go.Proofs.Ytegcgbddoeoipaa.fnExactComposeTurns
open Go.ChangeShapes Go.WideShapes Go.ChangeAt Go.RowKit Go.Proofs.Ytegcgbddoeoipaa Go.Proofs.Ytegcgbddoeoipaa.Trn
set_option linter.unusedVariables false
set_option maxHeartbeats 20000000 in
theorem walk4 (q p r s : Int) (w : World) (h1 : okT q p = false) :
    Calls Try.prog 10 #[.agg #[.int .i64 q, .int .i64 p], .agg #[.int .i64 r, .int .i64 s]] w fun x w' => x = .returned (.bool true) ∧ Below w.heap.size w w' := by
  have cS := fun W => specCom4 q p r s W h1
  have cI := fun W => implCom4 q p r s W h1
  unfold al at cS cI
  go_enter Try.func10, Try.ntmps10
  go_wp2_with fail
  obtain ⟨w0, hw0⟩ : ∃ w0, w0 = (w.alloc (.cells #[.int .i64 q, .int .i64 p] 54)).alloc (.cells #[.int .i64 r, .int .i64 s] 54) := ⟨_, rfl⟩
  have Hb0 := Lib.hid (show Below w.heap.size w w0 by rw [hw0]; go_grown)
  have hs0 : w.heap.size + 2 ≤ w0.heap.size := by rw [hw0]; simp
  have b0 : w0.cell? ⟨w.heap.size, 0, none⟩ = some (.int .i64 q) := by rw [hw0]; go_cell
  have b1 : w0.cell? ⟨w.heap.size, 1, none⟩ = some (.int .i64 p) := by rw [hw0]; go_cell
  have b2 : w0.cell? ⟨w.heap.size + 1, 0, none⟩ = some (.int .i64 r) := by rw [hw0]; go_cell
  have b3 : w0.cell? ⟨w.heap.size + 1, 1, none⟩ = some (.int .i64 s) := by rw [hw0]; go_cell
  rw [← hw0]
  clear hw0
  rename_i K hK
  have hQ : ∀ b w', (Below w.heap.size w w' ∧ b < w'.heap.size ∧ w.heap.size + 2 ≤ w'.heap.size ∧ w'.cell? ⟨b, 0, none⟩ = some (.int .i64 0) ∧ w'.cell? ⟨b, 1, none⟩ = some (.int .i64 0) ∧ w'.cell? ⟨w.heap.size, 0, none⟩ = some (.int .i64 q) ∧ w'.cell? ⟨w.heap.size, 1, none⟩ = some (.int .i64 p) ∧ w'.cell? ⟨w.heap.size + 1, 0, none⟩ = some (.int .i64 r) ∧ w'.cell? ⟨w.heap.size + 1, 1, none⟩ = some (.int .i64 s)) → K
    ({ tmps := #[.agg #[.int .i64 q, .int .i64 p],
      .agg #[.int .i64 r, .int .i64 s],
      .pointer (some ⟨w.heap.size, 0, none⟩),
      .pointer (some ⟨w.heap.size + 1, 0, none⟩),
      .bool false,
      .pointer (some ⟨b, 0, none⟩),
      .bool false,
      undef,
      undef,
      .tuple #[.agg #[.int .i64 0, .int .i64 0], .bool false],
      .agg #[.int .i64 q, .int .i64 p],
      .agg #[.int .i64 q, .int .i64 p],
      .agg #[.int .i64 r, .int .i64 s],
      .agg #[.int .i64 r, .int .i64 s],
      .tuple #[.agg #[.int .i64 0, .int .i64 0], .bool false],
      .agg #[.int .i64 0, .int .i64 0],
      .bool false,
      undef,
      undef,
      undef,
      undef,
      undef,
      undef,
      undef,
      undef,
      undef,
      undef,
      undef,
      undef,
      undef,
      undef,
      undef,
      undef,
      undef], defers := [] }) w' := by
    rintro b w1 ⟨hb1, hl, hs, d0, d1, c0, c1, c2, c3⟩
    have Hb1 := Lib.hid hb1
    clear hb1
    apply hK
    go_wp2_with fail
    rename_i K2 hK2
    have hQ2 : ∀ c w', (Below w.heap.size w w' ∧ c < w'.heap.size ∧ w.heap.size + 2 ≤ w'.heap.size ∧ w'.cell? ⟨c, 0, none⟩ = some (.int .i64 0) ∧ w'.cell? ⟨c, 1, none⟩ = some (.int .i64 0) ∧ w'.cell? ⟨b, 0, none⟩ = some (.int .i64 0) ∧ w'.cell? ⟨b, 1, none⟩ = some (.int .i64 0)) → K2
      ({ tmps := #[.agg #[.int .i64 q, .int .i64 p],
      .agg #[.int .i64 r, .int .i64 s],
      .pointer (some ⟨w.heap.size, 0, none⟩),
      .pointer (some ⟨w.heap.size + 1, 0, none⟩),
      .bool false,
      .pointer (some ⟨b, 0, none⟩),
      .bool false,
      .pointer (some ⟨c, 0, none⟩),
      .bool false,
      .tuple #[.agg #[.int .i64 0, .int .i64 0], .bool false],
      .agg #[.int .i64 q, .int .i64 p],
      .agg #[.int .i64 q, .int .i64 p],
      .agg #[.int .i64 r, .int .i64 s],
      .agg #[.int .i64 r, .int .i64 s],
      .tuple #[.agg #[.int .i64 0, .int .i64 0], .bool false],
      .agg #[.int .i64 0, .int .i64 0],
      .bool false,
      .tuple #[.agg #[.int .i64 0, .int .i64 0], .bool false],
      .agg #[.int .i64 q, .int .i64 p],
      .agg #[.int .i64 q, .int .i64 p],
      .agg #[.int .i64 r, .int .i64 s],
      .agg #[.int .i64 r, .int .i64 s],
      .tuple #[.agg #[.int .i64 0, .int .i64 0], .bool false],
      .agg #[.int .i64 0, .int .i64 0],
      .bool false,
      undef,
      undef,
      undef,
      undef,
      undef,
      undef,
      undef,
      undef,
      undef], defers := [] }) w' := by
      rintro c w2 ⟨hb2, hl2, hs2, f0, f1, d0, d1⟩
      have Hb2 := Lib.hid hb2
      clear hb2
      apply hK2
      go_wp2_with (go_at_call 35; refine (eqTurn_refl _ _ _).mono ?_; rintro e w3 ⟨rfl, hb3⟩; have Hb3 := Lib.hid (Hb2.out.trans (hb3.mono Hb2.out.size)); clear hb3)
      go_ret
      exact ⟨rfl, Hb3.out⟩
    have HQ2 := Lib.hid hQ2
    clear hQ2
    have HP1 := Lib.hid (show ParC w.heap.size q p r s w1 from ⟨c0, c1, c2, c3⟩)
    have n0 := World.new_ne w1 _ c0
    have n2 := World.new_ne w1 _ c2
    go_region_held (fun w' => w'.cell? ⟨w.heap.size, 0, none⟩ = some (.int .i64 q) ∧ w'.cell? ⟨w.heap.size, 1, none⟩ = some (.int .i64 p) ∧ w'.cell? ⟨w.heap.size + 1, 0, none⟩ = some (.int .i64 r) ∧ w'.cell? ⟨w.heap.size + 1, 1, none⟩ = some (.int .i64 s)) ((refine ParC.out ?_; (repeat (first | (with_reducible refine ParC.alloc ?_ _) | (with_reducible refine ParC.drew ?_) | (with_reducible refine ParC.setCell ?_ ?_ ?_ _))); all_goals first | exact HP1.out | omega | (simp; omega))) (first
      | (go_at_call 32; refine (toTurn_any _ _ _).mono ?_; rintro e w' ⟨rfl, rfl⟩)
      | (go_at_call 14; refine (cI _).mono ?_; rintro e w1 ⟨rfl, rfl⟩))
    all_goals
      refine HQ2.out _ _ ⟨?_, ?_, ?_, ?_, ?_, ?_, ?_⟩
      · exact Hb1.out.trans (Below.mono (show Below w1.heap.size w1 _ by go_grown) Hb1.out.size)
      all_goals first | go_cell | (first | (simp; done) | (simp; omega)) | (simp (maxDischargeDepth := 12) [*, World.cell?_alloc_some]; done)
  have HQ := Lib.hid hQ
  clear hQ
  have HP0 := Lib.hid (show ParC w.heap.size q p r s w0 from ⟨b0, b1, b2, b3⟩)
  have n0 := World.new_ne w0 _ b0
  have n2 := World.new_ne w0 _ b2
  go_region_held (fun w' => w'.cell? ⟨w.heap.size, 0, none⟩ = some (.int .i64 q) ∧ w'.cell? ⟨w.heap.size, 1, none⟩ = some (.int .i64 p) ∧ w'.cell? ⟨w.heap.size + 1, 0, none⟩ = some (.int .i64 r) ∧ w'.cell? ⟨w.heap.size + 1, 1, none⟩ = some (.int .i64 s)) ((refine ParC.out ?_; (repeat (first | (with_reducible refine ParC.alloc ?_ _) | (with_reducible refine ParC.drew ?_) | (with_reducible refine ParC.setCell ?_ ?_ ?_ _))); all_goals first | exact HP0.out | omega | (simp; omega))) (first
      | (go_at_call 32; refine (toTurn_any _ _ _).mono ?_; rintro e w' ⟨rfl, rfl⟩)
      | (go_at_call 34; refine (cS _).mono ?_; rintro e w1 ⟨rfl, rfl⟩))
  all_goals
    refine HQ.out _ _ ⟨?_, ?_, ?_, ?_, ?_, ?_, ?_, ?_, ?_⟩
    · exact Hb0.out.trans (Below.mono (show Below w0.heap.size w0 _ by go_grown) Hb0.out.size)
    all_goals first | go_cell | (first | (simp; done) | (simp; omega)) | (simp (maxDischargeDepth := 12) [*, World.cell?_alloc_some]; done)
end Go.Proofs.Ytegcgbddoeoipaa.fnExactComposeTurns
