/- What an operation gives at every world; lists that are alike but for their NaNs; the scaled cells. -/
import Derived.Test.YtbmojogohffhaaaMirS
import Derived.Test.YtbmojogohffhaaaItpL
namespace Go.Proofs.Ytbmojogohffhaaa.Pnt
open Go.ChangeShapes Go.WideShapes Go.ChangeAt Go.RowKit Go.Deep Go.Proofs.Ytbmojogohffhaaa Go.Proofs.Ytbmojogohffhaaa.Flt Go.Proofs.Ytbmojogohffhaaa.Mth
open Ieee (single double)
set_option linter.unusedVariables false
/-- what an operation gives, at every world -/
def opX (op : BinOp) (x y : Nat) (w : World) : Nat := match floatBits op .f32 x y with
  | some r => r
  | none => (Question.nanBits .f32 x y).cut (w.tape w.drawn (.nanBits .f32 x y))
def odr (op : BinOp) (x y : Nat) : Nat := match floatBits op .f32 x y with
  | some _ => 0
  | none => 1
theorem run_opX {P : Program} (op : BinOp) (hop : op = .add ∨ op = .sub ∨ op = .mul ∨ op = .quo) (t : TypeId) (x y : Nat) (w : World) :
    (binOp op t (.float .f32 x) (.float .f32 y)).run P w = .ok (.float .f32 (opX op x y w)) (w.drewN (odr op x y)) := by
  unfold opX odr
  cases h : floatBits op .f32 x y with
  | some r => exact run_float_arith w op t .f32 x y r h
  | none =>
    have hf : (Question.nanBits .f32 x y).forced = false := rfl
    unfold floatBits at h
    rcases hop with rfl | rfl | rfl | rfl <;> simp only at h <;> simp [binOp, Op.floatArith, h, hf] <;> rfl
/-- the same word, or two NaNs -/
def Sim (a b : Nat) : Prop := a = b ∨ (isNaN single a = true ∧ isNaN single b = true)
theorem Sim.rfl' (a : Nat) : Sim a a := .inl rfl
theorem Sim.symm {a b : Nat} (h : Sim a b) : Sim b a := h.elim (fun e => .inl e.symm) (fun ⟨p, q⟩ => .inr ⟨q, p⟩)
theorem Sim.trans {a b c : Nat} (h : Sim a b) (k : Sim b c) : Sim a c := by
  rcases h with rfl | ⟨p, q⟩
  · exact k
  · rcases k with rfl | ⟨_, s⟩
    · exact .inr ⟨p, q⟩
    · exact .inr ⟨p, s⟩
def opV (op : BinOp) (x y : Nat) : Nat := (floatBits op .f32 x y).getD 2143289344
theorem opX_sim (op : BinOp) (x y : Nat) (w : World) : Sim (opX op x y w) (opV op x y) := by
  unfold opX opV
  cases h : floatBits op .f32 x y with
  | some r => exact .inl rfl
  | none => exact .inr ⟨(nan32_isNaN (w.tape w.drawn (.nanBits .f32 x y))).1, by decide⟩
theorem opV_wf (op : BinOp) (x y : Nat) : (Lit.float .f32 (opV op x y)).wf = true := by
  unfold opV
  cases h : floatBits op .f32 x y with
  | some r => exact floatBits_wf h
  | none => decide
theorem opX_wf (op : BinOp) (x y : Nat) (w : World) : (Lit.float .f32 (opX op x y w)).wf = true := by
  unfold opX
  cases h : floatBits op .f32 x y with
  | some r => exact floatBits_wf h
  | none =>
    have := (nan32_isNaN (w.tape w.drawn (.nanBits .f32 x y))).2
    rw [width_single] at this
    exact wf_single this
theorem sim_fin {a b : Nat} (h : Sim a b) (ha : finB a = true) : a = b := by
  rcases h with e | ⟨p, q⟩
  · exact e
  · rw [fin_num ha] at p; cases p
theorem okP_congr {n : Nat} {X Y : Nat → Nat} (h : ∀ j, j < n * 2 → X j = Y j) : okP n X = okP n Y := by
  unfold okP
  congr 1
  rw [Bool.eq_iff_iff, List.all_eq_true, List.all_eq_true]
  have key : ∀ i, i < n → okPt X i = okPt Y i := fun i hi => by
    unfold okPt
    rw [h (i * 2) (by omega), h (i * 2 + 1) (by omega)]
    rcases i with _ | i
    · rfl
    · rw [show i + 1 - 1 = i from rfl, h (i * 2) (by omega), h (i * 2 + 1) (by omega)]
  constructor
  · intro hX i hi; rw [← key i (by simpa using hi)]; exact hX i hi
  · intro hX i hi; rw [key i (by simpa using hi)]; exact hX i hi
/-- tables that are alike but for their NaNs are valid together, and then they are the same -/
theorem okP_sim {n : Nat} {X Y : Nat → Nat} (h : ∀ j, j < n * 2 → Sim (X j) (Y j)) : okP n X = okP n Y ∧ (okP n X = true → ∀ j, j < n * 2 → X j = Y j) := by
  have one : ∀ {X Y : Nat → Nat}, (∀ j, j < n * 2 → Sim (X j) (Y j)) → okP n X = true → ∀ j, j < n * 2 → X j = Y j := fun {X Y} h hok j hj => by
    refine sim_fin (h j hj) ?_
    have a := okPt_fin (okP_at hok (j := j / 2) (by omega))
    rcases Nat.mod_two_eq_zero_or_one j with e | e
    · have := a.1; rw [show j / 2 * 2 = j by omega] at this; exact this
    · have := a.2; rw [show j / 2 * 2 + 1 = j by omega] at this; exact this
  refine ⟨?_, one h⟩
  cases hx : okP n X
  · cases hy : okP n Y
    · rfl
    · rw [okP_congr (one (fun j hj => (h j hj).symm) hy), hx] at hy; cases hy
  · rw [← okP_congr (one h hx), hx]
/-- the scaled cells -/
def sclX (X : Nat → Nat) (f : Nat) (j : Nat) : Nat := if j % 2 = 1 then opV .mul (X j) f else X j
theorem sclX_at (X : Nat → Nat) (f i : Nat) : sclX X f (i * 2) = X (i * 2) ∧ sclX X f (i * 2 + 1) = opV .mul (X (i * 2 + 1)) f := by
  unfold sclX
  rw [if_neg (by omega), if_pos (by omega)]
  exact ⟨rfl, rfl⟩
def sclB (n : Nat) (X : Nat → Nat) (f : Nat) : Bool := okP n X && okP n (sclX X f)
def sclN (n : Nat) (X : Nat → Nat) (f : Nat) : Nat := if sclB n X f = true then n else 0
/-- 'Z' with two cells more -/
def put2 (Z : Nat → Nat) (k x y : Nat) : Nat → Nat := fun j => if j = k * 2 then x else if j = k * 2 + 1 then y else Z j
theorem put2_flat (Z : Nat → Nat) (k x y : Nat) : flat (put2 Z k x y) ((k + 1) * 2) = flat Z (k * 2) ++ [.float .f32 x, .float .f32 y] := by
  rw [flat_two]
  congr 1
  · exact flat_congr fun j hj => by
      unfold put2
      rw [if_neg (by omega), if_neg (by omega)]
  · unfold put2
    rw [if_pos rfl, if_neg (by omega), if_pos rfl]
theorem put2_sim {Z S : Nat → Nat} {k x y : Nat} (h : ∀ j, j < k * 2 → Sim (Z j) (S j)) (hx : Sim x (S (k * 2))) (hy : Sim y (S (k * 2 + 1))) : ∀ j, j < (k + 1) * 2 → Sim (put2 Z k x y j) (S j) := fun j hj => by
  unfold put2
  by_cases e : j = k * 2
  · rw [if_pos e, e]; exact hx
  · rw [if_neg e]
    by_cases e' : j = k * 2 + 1
    · rw [if_pos e', e']; exact hy
    · rw [if_neg e']; exact h j (by omega)
theorem put2_wf {Z : Nat → Nat} {k x y : Nat} (h : Wf k Z) (hx : (Lit.float .f32 x).wf = true) (hy : (Lit.float .f32 y).wf = true) : Wf (k + 1) (put2 Z k x y) := fun i hi => by
  unfold put2
  by_cases e : i = k
  · subst e
    rw [if_pos rfl, if_neg (by omega), if_pos rfl]
    exact ⟨hx, hy⟩
  · rw [if_neg (by omega), if_neg (by omega), if_neg (by omega), if_neg (by omega)]
    exact h i (by omega)
theorem sclX_wf {n : Nat} {X : Nat → Nat} (h : Wf n X) (f : Nat) : Wf n (sclX X f) := fun i hi => by
  obtain ⟨e0, e1⟩ := sclX_at X f i
  rw [e0, e1]
  exact ⟨(h i hi).1, opV_wf _ _ _⟩
theorem sclN_cases (n : Nat) (X : Nat → Nat) (f : Nat) : sclN n X f = 0 ∨ (sclN n X f = n ∧ okP n X = true) := by
  unfold sclN
  split
  · rename_i h
    unfold sclB at h
    rw [Bool.and_eq_true] at h
    exact .inr ⟨rfl, h.1⟩
  · exact .inl rfl
theorem sclN_le (n : Nat) (X : Nat → Nat) (f : Nat) : sclN n X f ≤ 32 := by
  rcases sclN_cases n X f with e | ⟨e, h⟩
  · omega
  · have := okP_bounds h; omega
theorem sclN_wf {n : Nat} {X : Nat → Nat} (h : Wf n X) (f : Nat) : Wf (sclN n X f) (sclX X f) := by
  rcases sclN_cases n X f with e | ⟨e, _⟩
  · rw [e]; exact fun i hi => absurd hi (Nat.not_lt_zero _)
  · rw [e]; exact sclX_wf h f
theorem neg_wf {x : Nat} (wx : (Lit.float .f32 x).wf = true) : (Lit.float .f32 (Op.negFloat .f32 x)).wf = true := by
  have h := neg_lt .f32 (w := x) (lt_single' wx)
  exact wf_single (by rw [← width_single]; exact h)
theorem mirN_cases (n : Nat) (X : Nat → Nat) : mirN n X = 0 ∨ (mirN n X = n ∧ okP n X = true) := by
  unfold mirN
  split
  · rename_i h; exact .inr ⟨rfl, h⟩
  · exact .inl rfl
theorem mirN_le (n : Nat) (X : Nat → Nat) : mirN n X ≤ 32 := by
  rcases mirN_cases n X with e | ⟨e, h⟩
  · omega
  · have := okP_bounds h; omega
theorem mirX_wf {n : Nat} {X : Nat → Nat} (h : Wf n X) : Wf n (mirX n X) := fun i hi => by
  obtain ⟨e0, e1⟩ := mirX_at n X i
  rw [e0, e1]
  have := h (n - 1 - i) (by omega)
  exact ⟨neg_wf this.1, neg_wf this.2⟩
theorem mirN_wf {n : Nat} {X : Nat → Nat} (h : Wf n X) : Wf (mirN n X) (mirX n X) := by
  rcases mirN_cases n X with e | ⟨e, _⟩
  · rw [e]; exact fun i hi => absurd hi (Nat.not_lt_zero _)
  · rw [e]; exact mirX_wf h
end Go.Proofs.Ytbmojogohffhaaa.Pnt
