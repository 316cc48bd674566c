/- Contracts of turns, of model and program: valid ones, two together, the inverse. -/
import Derived.Test.YtegcgbddoeoipaaChecked
import Derived.Test.YtegcgbddoeoipaaMathZ
import Derived.Handy
import Derived.Below
namespace Go.Proofs.Ytegcgbddoeoipaa.Trn
open Go.ChangeShapes Go.WideShapes Go.ChangeAt Go.RowKit Go.Proofs.Ytegcgbddoeoipaa Go.Proofs.Ytegcgbddoeoipaa.Flt Go.Proofs.Ytegcgbddoeoipaa.Mth
set_option linter.unusedVariables false
def okT (q p : Int) : Bool := decide (0 ≤ q) && decide (q ≤ 3) && (decide (-60 ≤ p) && decide (p ≤ 60))
theorem okT_iff {q p : Int} : okT q p = true ↔ (0 ≤ q ∧ q ≤ 3) ∧ -60 ≤ p ∧ p ≤ 60 := by simp [okT]
theorem okT_not {q p : Int} (h : ¬ ((0 ≤ q ∧ q ≤ 3) ∧ -60 ≤ p ∧ p ≤ 60)) : okT q p = false := by
  cases e : okT q p
  · rfl
  · exact absurd (okT_iff.1 e) h
theorem in_any (n a b : Int) (w : World) :
    Calls Try.prog 52 #[.int .i64 n, .int .i64 a, .int .i64 b] w fun e w' => e = .returned (.bool (decide (a ≤ n) && decide (n ≤ b))) ∧ w' = w := by
  go_enter Try.func52, Try.ntmps52
  go_wp2
  all_goals
    go_ret
    exact ⟨ret_bool (by simp <;> omega), rfl⟩
def tc (q p : Int) (T : TypeId) : Obj := .cells #[.int .i64 q, .int .i64 p] T
theorem specOk (q p : Int) (w : World) :
    Calls Try.prog 31 #[.agg #[.int .i64 q, .int .i64 p]] w fun e w' => e = .returned (.bool (okT q p)) ∧ w' = w.alloc (.cells #[.int .i64 q, .int .i64 p] 25) := by
  go_enter Try.func31, Try.ntmps31
  go_wp2_with fail
  refine (in_any _ _ _ _).mono ?_
  rintro e w' ⟨rfl, rfl⟩
  go_wp2_with fail
  · refine (in_any _ _ _ _).mono ?_
    rintro e w' ⟨rfl, rfl⟩
    go_wp2_with fail
    go_ret
    exact ⟨ret_bool (by unfold okT; simp; omega), rfl⟩
  · go_ret
    exact ⟨ret_bool (by rw [okT_not (by omega)]), rfl⟩
theorem implOk (q p : Int) (w : World) :
    Calls Try.prog 33 #[.agg #[.int .i64 q, .int .i64 p]] w fun e w' => e = .returned (.bool (okT q p)) ∧ w' = w.alloc (.cells #[.int .i64 q, .int .i64 p] 25) := by
  go_enter Try.func33, Try.ntmps33
  go_wp2_with fail
  · go_ret
    exact ⟨ret_bool (by unfold okT; simp [*] <;> omega), rfl⟩
  all_goals
    go_ret
    exact ⟨ret_bool (by rw [okT_not (by omega)]), rfl⟩
theorem toTurn_any (q p : Int) (w : World) :
    Calls Try.prog 32 #[.agg #[.int .i64 q, .int .i64 p]] w fun e w' => e = .returned (.agg #[.int .i64 q, .int .i64 p]) ∧
      w' = ((w.alloc (.cells #[.int .i64 q, .int .i64 p] 54)).alloc (.cells #[.int .i64 q, .int .i64 p] 25)).alloc (.cells #[.int .i64 q, .int .i64 p] 25) := by
  go_enter Try.func32, Try.ntmps32
  go_wp2_with fail
  go_returns
  exact ⟨rfl, rfl⟩
theorem eqTurn_any (q p r s : Int) (w : World) :
    Calls Try.prog 35 #[.agg #[.int .i64 q, .int .i64 p], .agg #[.int .i64 r, .int .i64 s]] w fun e w' => e = .returned (.bool (decide (q = r) && decide (p = s))) ∧ Below w.heap.size w w' := by
  go_enter Try.func35, Try.ntmps35
  go_wp2_with fail
  all_goals
    go_ret
    refine ⟨ret_bool ?_, by go_grown⟩
    simp_all
theorem eqTurn_refl (q p : Int) (w : World) :
    Calls Try.prog 35 #[.agg #[.int .i64 q, .int .i64 p], .agg #[.int .i64 q, .int .i64 p]] w fun e w' => e = .returned (.bool true) ∧ Below w.heap.size w w' :=
  (eqTurn_any q p q p w).mono fun e w' ⟨he, hw⟩ => ⟨by rw [he]; simp, hw⟩
theorem below_on {B : Nat} {w w1 w2 : World} (hb : Below w1.heap.size w1 w2) (h0 : Below B w w1) (hB : B ≤ w1.heap.size) : Below B w w2 := h0.trans (hb.mono hB)
/-- the turn that does both, if there is one -/
def com (q p r s : Int) : (Int × Int) × Bool := if okT q p && okT r s && okT ((q + r) % 4) (p + s) then (((q + r) % 4, p + s), true) else ((0, 0), false)
theorem com_no {q p r s : Int} (h : ¬ (okT q p = true ∧ okT r s = true ∧ okT ((q + r) % 4) (p + s) = true)) : com q p r s = ((0, 0), false) := by
  unfold com; rw [if_neg]; simp only [Bool.and_eq_true]; exact fun e => h ⟨e.1.1, e.1.2, e.2⟩
theorem com_yes {q p r s : Int} (h1 : okT q p = true) (h2 : okT r s = true) (h3 : okT ((q + r) % 4) (p + s) = true) : com q p r s = (((q + r) % 4, p + s), true) := by
  unfold com; rw [if_pos]; simp [h1, h2, h3]
theorem ret_tb {a b c d : Int} {x y : Bool} (h : ((a, b), x) = ((c, d), y)) : Ending.returned (.tuple #[.agg #[.int .i64 a, .int .i64 b], .bool x]) = .returned (.tuple #[.agg #[.int .i64 c, .int .i64 d], .bool y]) := by cases h; rfl
def al (x y : Int) (w : World) : World := w.alloc (.cells #[.int .i64 x, .int .i64 y] 25)
theorem specCom4 (q p r s : Int) (w : World) (h1 : okT q p = false) :
    Calls Try.prog 34 #[.agg #[.int .i64 q, .int .i64 p], .agg #[.int .i64 r, .int .i64 s]] w fun e w' =>
      e = .returned (.tuple #[.agg #[.int .i64 0, .int .i64 0], .bool false]) ∧ w' = al q p (al 0 0 (al r s (al q p w))) := by
  go_enter Try.func34, Try.ntmps34
  go_wp2_with (go_at_call 31; refine (specOk _ _ _).mono ?_; rintro e w' ⟨rfl, rfl⟩; try rw [h1])
  go_returns
  exact ⟨rfl, rfl⟩
theorem specCom5 (q p r s : Int) (w : World) (h1 : okT q p = true) (h2 : okT r s = false) :
    Calls Try.prog 34 #[.agg #[.int .i64 q, .int .i64 p], .agg #[.int .i64 r, .int .i64 s]] w fun e w' =>
      e = .returned (.tuple #[.agg #[.int .i64 0, .int .i64 0], .bool false]) ∧ w' = al r s (al q p (al 0 0 (al r s (al q p w)))) := by
  go_enter Try.func34, Try.ntmps34
  go_wp2_with (go_at_call 31; refine (specOk _ _ _).mono ?_; rintro e w' ⟨rfl, rfl⟩; first | rw [h1] | rw [h2])
  go_returns
  exact ⟨rfl, rfl⟩
theorem specCom7 (q p r s : Int) (w : World) (h1 : okT q p = true) (h2 : okT r s = true) :
    Calls Try.prog 34 #[.agg #[.int .i64 q, .int .i64 p], .agg #[.int .i64 r, .int .i64 s]] w fun e w' =>
      e = .returned (.tuple #[.agg #[.int .i64 (com q p r s).1.1, .int .i64 (com q p r s).1.2], .bool (com q p r s).2]) ∧
        w' = al ((q + r) % 4) (p + s) (al ((q + r) % 4) (p + s) (al r s (al q p (al (com q p r s).1.1 (com q p r s).1.2 (al r s (al q p w)))))) := by
  obtain ⟨⟨a1, a2⟩, a3, a4⟩ := okT_iff.1 h1
  obtain ⟨⟨b1, b2⟩, b3, b4⟩ := okT_iff.1 h2
  cases h3 : okT ((q + r) % 4) (p + s)
  · rw [com_no (by simp [h3])]
    go_enter Try.func34, Try.ntmps34
    go_wp2_with (go_at_call 31; refine (specOk _ _ _).mono ?_; rintro e w' ⟨rfl, rfl⟩; first | rw [h1] | rw [h2] | rw [h3])
    go_returns
    exact ⟨rfl, rfl⟩
  · rw [com_yes h1 h2 h3]
    go_enter Try.func34, Try.ntmps34
    go_wp2_with (go_at_call 31; refine (specOk _ _ _).mono ?_; rintro e w' ⟨rfl, rfl⟩; first | rw [h1] | rw [h2] | rw [h3])
    go_returns
    exact ⟨rfl, rfl⟩
theorem implCom4 (q p r s : Int) (w : World) (h1 : okT q p = false) :
    Calls Try.prog 14 #[.agg #[.int .i64 q, .int .i64 p], .agg #[.int .i64 r, .int .i64 s]] w fun e w' =>
      e = .returned (.tuple #[.agg #[.int .i64 0, .int .i64 0], .bool false]) ∧ w' = al q p (al 0 0 (al r s (al q p w))) := by
  go_enter Try.func14, Try.ntmps14
  go_wp2_with (go_at_call 33; refine (implOk _ _ _).mono ?_; rintro e w' ⟨rfl, rfl⟩; try rw [h1])
  go_returns
  exact ⟨rfl, rfl⟩
theorem implCom5 (q p r s : Int) (w : World) (h1 : okT q p = true) (h2 : okT r s = false) :
    Calls Try.prog 14 #[.agg #[.int .i64 q, .int .i64 p], .agg #[.int .i64 r, .int .i64 s]] w fun e w' =>
      e = .returned (.tuple #[.agg #[.int .i64 0, .int .i64 0], .bool false]) ∧ w' = al r s (al q p (al 0 0 (al r s (al q p w)))) := by
  go_enter Try.func14, Try.ntmps14
  go_wp2_with (go_at_call 33; refine (implOk _ _ _).mono ?_; rintro e w' ⟨rfl, rfl⟩; first | rw [h1] | rw [h2])
  go_returns
  exact ⟨rfl, rfl⟩
theorem implCom7 (q p r s : Int) (w : World) (h1 : okT q p = true) (h2 : okT r s = true) :
    Calls Try.prog 14 #[.agg #[.int .i64 q, .int .i64 p], .agg #[.int .i64 r, .int .i64 s]] w fun e w' =>
      e = .returned (.tuple #[.agg #[.int .i64 (com q p r s).1.1, .int .i64 (com q p r s).1.2], .bool (com q p r s).2]) ∧
        w' = al ((q + r) % 4) (p + s) (al ((q + r) % 4) (p + s) (al r s (al q p (al (com q p r s).1.1 (com q p r s).1.2 (al r s (al q p w)))))) := by
  obtain ⟨⟨a1, a2⟩, a3, a4⟩ := okT_iff.1 h1
  obtain ⟨⟨b1, b2⟩, b3, b4⟩ := okT_iff.1 h2
  cases h3 : okT ((q + r) % 4) (p + s)
  · rw [com_no (by simp [h3])]
    go_enter Try.func14, Try.ntmps14
    go_wp2_with (go_at_call 33; refine (implOk _ _ _).mono ?_; rintro e w' ⟨rfl, rfl⟩; first | rw [h1] | rw [h2] | rw [h3])
    go_returns
    exact ⟨rfl, rfl⟩
  · rw [com_yes h1 h2 h3]
    go_enter Try.func14, Try.ntmps14
    go_wp2_with (go_at_call 33; refine (implOk _ _ _).mono ?_; rintro e w' ⟨rfl, rfl⟩; first | rw [h1] | rw [h2] | rw [h3])
    go_returns
    exact ⟨rfl, rfl⟩
/-- the turn back -/
def inv (q p : Int) : (Int × Int) × Bool := if okT q p then ((-q % 4, -p), true) else ((0, 0), false)
theorem inv_no {q p : Int} (h : okT q p = false) : inv q p = ((0, 0), false) := by unfold inv; rw [h]; rfl
theorem inv_yes {q p : Int} (h : okT q p = true) : inv q p = ((-q % 4, -p), true) := by unfold inv; rw [h]; rfl
theorem specInv (q p : Int) (w : World) :
    Calls Try.prog 36 #[.agg #[.int .i64 q, .int .i64 p]] w fun e w' =>
      e = .returned (.tuple #[.agg #[.int .i64 (inv q p).1.1, .int .i64 (inv q p).1.2], .bool (inv q p).2]) ∧ w' = al q p (al (inv q p).1.1 (inv q p).1.2 (al q p w)) := by
  cases h1 : okT q p
  · rw [inv_no h1]
    go_enter Try.func36, Try.ntmps36
    go_wp2_with (go_at_call 31; refine (specOk _ _ _).mono ?_; rintro e w' ⟨rfl, rfl⟩; rw [h1])
    go_returns
    exact ⟨rfl, rfl⟩
  · obtain ⟨⟨a1, a2⟩, a3, a4⟩ := okT_iff.1 h1
    rw [inv_yes h1]
    go_enter Try.func36, Try.ntmps36
    go_wp2_with (go_at_call 31; refine (specOk _ _ _).mono ?_; rintro e w' ⟨rfl, rfl⟩; rw [h1])
    go_returns
    exact ⟨rfl, rfl⟩
theorem implInv (q p : Int) (w : World) :
    Calls Try.prog 17 #[.agg #[.int .i64 q, .int .i64 p]] w fun e w' =>
      e = .returned (.tuple #[.agg #[.int .i64 (inv q p).1.1, .int .i64 (inv q p).1.2], .bool (inv q p).2]) ∧ w' = al q p (al (inv q p).1.1 (inv q p).1.2 (al q p w)) := by
  cases h1 : okT q p
  · rw [inv_no h1]
    go_enter Try.func17, Try.ntmps17
    go_wp2_with (go_at_call 33; refine (implOk _ _ _).mono ?_; rintro e w' ⟨rfl, rfl⟩; rw [h1])
    go_returns
    exact ⟨rfl, rfl⟩
  · obtain ⟨⟨a1, a2⟩, a3, a4⟩ := okT_iff.1 h1
    rw [inv_yes h1]
    go_enter Try.func17, Try.ntmps17
    go_wp2_with (go_at_call 33; refine (implOk _ _ _).mono ?_; rintro e w' ⟨rfl, rfl⟩; rw [h1])
    go_returns
    exact ⟨rfl, rfl⟩
/-- the cells of two turns, the one behind the other -/
def ParC (x : Nat) (q p r s : Int) (w : World) : Prop :=
  w.cell? ⟨x, 0, none⟩ = some (.int .i64 q) ∧ w.cell? ⟨x, 1, none⟩ = some (.int .i64 p) ∧ w.cell? ⟨x + 1, 0, none⟩ = some (.int .i64 r) ∧ w.cell? ⟨x + 1, 1, none⟩ = some (.int .i64 s)
theorem ParC.out {x : Nat} {q p r s : Int} {w : World} (h : ParC x q p r s w) : w.cell? ⟨x, 0, none⟩ = some (.int .i64 q) ∧ w.cell? ⟨x, 1, none⟩ = some (.int .i64 p) ∧ w.cell? ⟨x + 1, 0, none⟩ = some (.int .i64 r) ∧ w.cell? ⟨x + 1, 1, none⟩ = some (.int .i64 s) := h
theorem cell_alloc {w : World} {a : Addr} {v : Value} (o : Obj) (h : w.cell? a = some v) : (w.alloc o).cell? a = some v := by
  rw [World.cell?_alloc_lt _ _ _ (World.block_lt_of_cell? w a h)]; exact h
theorem cell_set {w : World} {a b : Addr} {v u : Value} (h : w.cell? a = some v) (hn : b.block ≠ a.block) : (w.setCell b u).cell? a = some v := by
  rw [World.cell?_setCell_other w b a u (fun e => hn (by rw [e]))]; exact h
theorem ParC.alloc {x : Nat} {q p r s : Int} {w : World} (h : ParC x q p r s w) (o : Obj) : ParC x q p r s (w.alloc o) := ⟨cell_alloc o h.1, cell_alloc o h.2.1, cell_alloc o h.2.2.1, cell_alloc o h.2.2.2⟩
theorem ParC.drew {x : Nat} {q p r s : Int} {w : World} (h : ParC x q p r s w) : ParC x q p r s w.drew := h
theorem ParC.setCell {x : Nat} {q p r s : Int} {w : World} (h : ParC x q p r s w) {b : Addr} (h0 : b.block ≠ x) (h1 : b.block ≠ x + 1) (u : Value) : ParC x q p r s (w.setCell b u) := ⟨cell_set h.1 h0, cell_set h.2.1 h0, cell_set h.2.2.1 h1, cell_set h.2.2.2 h1⟩
end Go.Proofs.Ytegcgbddoeoipaa.Trn
