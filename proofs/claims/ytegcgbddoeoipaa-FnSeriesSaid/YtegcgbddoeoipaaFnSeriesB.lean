/- Contracts of RatioSeries over ones, and of FirstUnequal of lists that are equal. -/
import Derived.Test.YtegcgbddoeoipaaFnSeriesA
import Derived.Deep.QuietTactic
import Derived.BigQuiet
namespace Go.Proofs.Ytegcgbddoeoipaa.fnSeries
open Go.ChangeShapes Go.WideShapes Go.ChangeAt Go.RowKit Go.Proofs.Ytegcgbddoeoipaa Go.Proofs.Ytegcgbddoeoipaa.Flt Go.Proofs.Ytegcgbddoeoipaa.Mth Go.Proofs.Ytegcgbddoeoipaa.Cpx Go.Proofs.Ytegcgbddoeoipaa.Drw
open Ieee (single double)
set_option linter.unusedVariables false
/-- how many are finite ahead of the first that is not -/
def cnt : List (Nat × Nat) → Nat
  | [] => 0
  | p :: xs => if finC p then cnt xs + 1 else 0
theorem cnt_le : ∀ xs, cnt xs ≤ xs.length
  | [] => Nat.le_refl _
  | p :: xs => by
    unfold cnt
    have := cnt_le xs
    split <;> simp <;> omega
theorem cnt_fin : ∀ (xs : List (Nat × Nat)) (i : Nat) (p : Nat × Nat), i < cnt xs → xs[i]? = some p → finC p = true
  | [], i, p, h, _ => by simp [cnt] at h
  | q :: xs, i, p, h, hp => by
    unfold cnt at h
    split at h
    · rename_i hq
      cases i with
      | zero => simp at hp; subst hp; exact hq
      | succ i => exact cnt_fin xs i p (by omega) (by simpa using hp)
    · omega
theorem cnt_not : ∀ (xs : List (Nat × Nat)) (p : Nat × Nat), xs[cnt xs]? = some p → finC p = false
  | [], p, h => by simp at h
  | q :: xs, p, h => by
    unfold cnt at h
    cases hq : finC q
    · rw [hq] at h
      simp at h; subst h; exact hq
    · rw [hq] at h
      simp only [if_true] at h
      exact cnt_not xs p (by simpa using h)
/-- the numbers are equal, place by place -/
def EqL (ys xs : List (Nat × Nat)) : Prop := ∀ (i : Nat) (p q : Nat × Nat), ys[i]? = some p → xs[i]? = some q → (eqW single p.1 q.1 && eqW single p.2 q.2) = true
theorem equal_any (a b c d : Nat) (h : (eqW single a c && eqW single b d) = true) (w : World) :
    Calls Try.prog 51 #[.complex .f32 a b, .complex .f32 c d] w fun e w' => e = .returned (.bool true) ∧ w' = w := by
  have k : ∀ w : World, (binOp .eql 26 (.complex .f32 a b) (.complex .f32 c d)).run Try.prog w = .ok (.bool true) w := fun w => by
    rw [← h]
    simp [binOp, Op.complexOp, Op.Complex.cmp, Op.floatCmp, asBool, eq32]
  clear h
  go_enter Try.func51, Try.ntmps51
  go_wp2_with fail
  go_ret
  exact ⟨rfl, rfl⟩
set_option maxHeartbeats 800000 in
theorem first_any (g h n cp cq : Nat) (ys xs : List (Nat × Nat)) (hy : n ≤ ys.length) (hx : n ≤ xs.length) (hn : n ≤ 5) (w : World) (cg : CellsC w g n ys) (ch : CellsC w h n xs) (he : EqL ys xs) :
    Calls Try.prog 30 #[.slice (some ⟨g, 0, none⟩) n cp, .slice (some ⟨h, 0, none⟩) n cq] w fun e w' => e = .returned (.int .i64 (-1)) ∧ Below w.heap.size w w' := by
  have Hg := Lib.hid (And.intro cg (And.intro ch he))
  clear cg ch he
  go_enter Try.func30, Try.ntmps30
  go_wp2_with fail
  go_loopw [13] (fun i wr => ∃ (k : Nat), i = .int .i64 (k : Int) ∧ k ≤ n ∧ CellsC wr g n ys ∧ CellsC wr h n xs ∧ Below w.heap.size w wr)
    (fun i _ => n - (intOf i).toNat)
  case atStart => exact ⟨0, rfl, Nat.zero_le _, Hg.out.1, Hg.out.2.1, Below.refl _ _⟩
  case round =>
    obtain ⟨k, rfl, hk, hcg, hch, hbl⟩ := hrel
    have Hr := Lib.hid (And.intro hcg (And.intro hch hbl))
    clear hcg hch hbl
    by_cases hkn : k < n
    · have hkn' : (k : Int) < n := by omega
      have c0 := Hr.out.1 k hkn
      have c1 := Hr.out.2.1 k hkn
      have e := Hg.out.2.2 k (ys[k]'(by omega)) (xs[k]'(by omega)) (List.getElem?_eq_getElem _) (List.getElem?_eq_getElem _)
      have c0' : wr.cell? ⟨g, k, none⟩ = some (.complex .f32 (ys[k]'(by omega)).1 (ys[k]'(by omega)).2) := by
        rw [c0]; unfold cV; rw [List.getElem?_map, List.getElem?_eq_getElem (by omega)]; rfl
      have c1' : wr.cell? ⟨h, k, none⟩ = some (.complex .f32 (xs[k]'(by omega)).1 (xs[k]'(by omega)).2) := by
        rw [c1]; unfold cV; rw [List.getElem?_map, List.getElem?_eq_getElem (by omega)]; rfl
      generalize (ys[k]'(by omega)) = p at e c0'
      generalize (xs[k]'(by omega)) = q at e c1'
      clear c0 c1
      have cE := equal_any p.1 p.2 q.1 q.2 e
      clear e
      go_wp2_with fail
      go_quiet ((go_at_call 51; exact Calls.quiet_of_same (cE _)))
      go_wp2_with fail
      go_roundw
      case rel => exact ⟨k + 1, by go_num, hkn, Hr.out.1, Hr.out.2.1, below_drewN Hr.out.2.2 _⟩
      case measure => simp [intOf]; omega
    · obtain rfl : k = n := by omega
      have hkn' : ¬ (k : Int) < k := by omega
      go_wp2_with fail
      go_ret
      exact ⟨rfl, Hr.out.2.2⟩
end Go.Proofs.Ytegcgbddoeoipaa.fnSeries
