/- Expressions as trees and as lists of nodes: which are valid, how many operands wait, what they evaluate to. No program stands here. -/
import Derived.Test.YtjkjgichneoflaaQuo
namespace Go.Proofs.Ytjkjgichneoflaa.Ex
open Go.RowKit Go.Proofs.Ytjkjgichneoflaa Go.Proofs.Ytjkjgichneoflaa.Flt
open Ieee (double single)
set_option linter.unusedVariables false
abbrev ng (x : Nat) : Nat := Op.negFloat .f64 x
def isZ (x y : Nat) : Bool := eqW double x 0 && eqW double y 0
/-- a finite number, or none -/
def finO (o : Option Nat) : Bool := match o with | none => false | some r => isFinD r
theorem finO_can (r : Nat) : finO (can .f64 r) = isFinD r := by
  cases h : isNaN FloatKind.f64.format r
  · rw [can_num h]; rfl
  · rw [can_nan h]; exact (isFin_nan h).symm
theorem ng_lt {x : Nat} (h : x < 18446744073709551616) : ng x < 18446744073709551616 := by
  have := neg_lt .f64 (w := x) (by rw [show FloatKind.f64.format = Ieee.double from rfl, width_double]; exact h)
  rw [show FloatKind.f64.format = Ieee.double from rfl, width_double] at this; exact this
/-- a node -/
structure Nd where
  k : Int
  s : Int
  x : Nat
  y : Nat
def Nd.c (n : Nd) : Array Value := #[.int .i64 n.k, .int .i64 n.s, .complex .f64 n.x n.y]
/-- what may be a number's value -/
def NV (x y : Nat) : Prop := ∃ f, f < 2139095040 ∧ ((x = widen f ∧ y = 0) ∨ (x = 0 ∧ y = widen f ∧ f ≠ 0))
/-- how many operands -/
def ar (k : Int) : Nat := if k ≤ 2 then 0 else if k ≤ 7 then 1 else 2
def Nd.ok (n : Nd) : Prop := (n.k = 1 ∧ n.s = 0 ∧ NV n.x n.y) ∨ (n.k = 2 ∧ (0 ≤ n.s ∧ n.s ≤ 9) ∧ n.x = 0 ∧ n.y = 0) ∨ ((3 ≤ n.k ∧ n.k ≤ 12) ∧ n.s = 0 ∧ n.x = 0 ∧ n.y = 0)
/-- the value of 1 -/
def one64 : Nat := 4607182418800017408
/-- both parts of what a node with operands makes -/
def opO (k : Int) (a b : Nat × Nat) : Option Nat × Option Nat :=
  if k = 3 then (can .f64 a.1, can .f64 a.2)
  else if k = 4 then (can .f64 (ng a.1), can .f64 (ng a.2))
  else if k = 5 then (can .f64 a.1, can .f64 (ng a.2))
  else if k = 6 then (can .f64 a.1, some 0)
  else if k = 7 then (can .f64 a.2, some 0)
  else if k = 8 then (fo .add .f64 (can .f64 a.1) (can .f64 b.1), fo .add .f64 (can .f64 a.2) (can .f64 b.2))
  else if k = 9 then (fo .sub .f64 (can .f64 a.1) (can .f64 b.1), fo .sub .f64 (can .f64 a.2) (can .f64 b.2))
  else if k = 10 then (fo .sub .f64 (fo .mul .f64 (can .f64 a.1) (can .f64 b.1)) (fo .mul .f64 (can .f64 a.2) (can .f64 b.2)), fo .add .f64 (fo .mul .f64 (can .f64 a.1) (can .f64 b.2)) (fo .mul .f64 (can .f64 a.2) (can .f64 b.1)))
  else if k = 11 then (if isZ b.1 b.2 = true then (none, none) else quoO a.1 a.2 b.1 b.2)
  else (if (eqW double a.1 b.1 && eqW double a.2 b.2) = true then some one64 else some 0, some 0)
/-- a value, if both parts are finite -/
def res (o : Option Nat × Option Nat) : Option (Nat × Nat) := if (finO o.1 && finO o.2) = true then some (o.1.getD 0, o.2.getD 0) else none
/-- a slot's value -/
def slotV (sl : List (Nat × Nat)) (s : Int) : Option (Nat × Nat) := match sl[s.toNat]? with | some z => if (isFinD z.1 && isFinD z.2) = true then some z else none | none => none
/-- a node's value over the values that wait -/
def nodeV (sl : List (Nat × Nat)) (n : Nd) (st : List (Nat × Nat)) : Option (Nat × Nat) :=
  if n.k = 1 then some (n.x, n.y)
  else if n.k = 2 then slotV sl n.s
  else if n.k ≤ 7 then res (opO n.k (st.getD 0 (0, 0)) (0, 0))
  else res (opO n.k (st.getD 1 (0, 0)) (st.getD 0 (0, 0)))
/-- a list's value -/
def evL (sl : List (Nat × Nat)) : List Nd → List (Nat × Nat) → Option (Nat × Nat)
  | [], st => st.head?
  | n :: r, st => match nodeV sl n st with
    | none => none
    | some v => evL sl r (v :: st.drop (ar n.k))
/-- how many operands wait behind a list -/
def wt : Nat → List Nd → Option Nat
  | h, [] => some h
  | h, n :: r => if ar n.k ≤ h then wt (h - ar n.k + 1) r else none
/-! trees -/
inductive Tr where
  | leaf (n : Nd)
  | un (k : Int) (t : Tr)
  | bin (k : Int) (a b : Tr)
def opN (k : Int) : Nd := ⟨k, 0, 0, 0⟩
def Tr.ok : Tr → Prop
  | leaf n => n.ok ∧ n.k ≤ 2
  | un k t => (3 ≤ k ∧ k ≤ 7) ∧ t.ok
  | bin k a b => (8 ≤ k ∧ k ≤ 12) ∧ a.ok ∧ b.ok
def pf : Tr → List Nd
  | .leaf n => [n]
  | .un k t => pf t ++ [opN k]
  | .bin k a b => pf a ++ (pf b ++ [opN k])
def evT (sl : List (Nat × Nat)) : Tr → Option (Nat × Nat)
  | .leaf n => nodeV sl n []
  | .un k t => match evT sl t with
    | none => none
    | some a => res (opO k a (0, 0))
  | .bin k a b => match evT sl a with
    | none => none
    | some u => match evT sl b with
      | none => none
      | some v => res (opO k u v)
theorem ar_leaf {k : Int} (h : k ≤ 2) : ar k = 0 := if_pos h
theorem ar_un {k : Int} (h : 3 ≤ k ∧ k ≤ 7) : ar k = 1 := by unfold ar; rw [if_neg (by omega), if_pos h.2]
theorem ar_bin {k : Int} (h : 8 ≤ k ∧ k ≤ 12) : ar k = 2 := by unfold ar; rw [if_neg (by omega), if_neg (by omega)]
theorem nodeV_leaf {sl : List (Nat × Nat)} {n : Nd} (h : n.ok) (hk : n.k ≤ 2) (st : List (Nat × Nat)) : nodeV sl n st = nodeV sl n [] := by
  unfold nodeV
  rcases h with h | h | h
  · rw [if_pos h.1, if_pos h.1]
  · rw [if_neg (show ¬ n.k = 1 by omega), if_neg (show ¬ n.k = 1 by omega), if_pos h.1, if_pos h.1]
  · omega
theorem nodeV_un {sl : List (Nat × Nat)} {k : Int} (h : 3 ≤ k ∧ k ≤ 7) (a : Nat × Nat) (st : List (Nat × Nat)) : nodeV sl (opN k) (a :: st) = res (opO k a (0, 0)) := by
  unfold nodeV opN
  rw [if_neg (by show ¬ k = 1; omega), if_neg (by show ¬ k = 2; omega), if_pos h.2]; rfl
theorem nodeV_bin {sl : List (Nat × Nat)} {k : Int} (h : 8 ≤ k ∧ k ≤ 12) (a b : Nat × Nat) (st : List (Nat × Nat)) : nodeV sl (opN k) (b :: a :: st) = res (opO k a b) := by
  unfold nodeV opN
  rw [if_neg (by show ¬ k = 1; omega), if_neg (by show ¬ k = 2; omega), if_neg (by show ¬ k ≤ 7; omega)]; rfl
theorem evL_pf (sl : List (Nat × Nat)) : ∀ (t : Tr) (r : List Nd) (st : List (Nat × Nat)), t.ok → evL sl (pf t ++ r) st = match evT sl t with | none => none | some v => evL sl r (v :: st)
  | .leaf n, r, st, h => by
    show (match nodeV sl n st with | none => none | some v => evL sl r (v :: st.drop (ar n.k))) = _
    rw [nodeV_leaf h.1 h.2, ar_leaf h.2]; rfl
  | .un k t, r, st, h => by
    have hk := h.1
    rw [show pf (.un k t) ++ r = pf t ++ (opN k :: r) by simp [pf], evL_pf sl t _ st h.2]
    show _ = match (match evT sl t with | none => none | some a => res (opO k a (0, 0))) with | none => none | some v => evL sl r (v :: st)
    cases evT sl t with
    | none => rfl
    | some a =>
      show (match nodeV sl (opN k) (a :: st) with | none => none | some v => evL sl r (v :: (a :: st).drop (ar k))) = _
      rw [nodeV_un hk, ar_un hk]; rfl
  | .bin k a b, r, st, h => by
    have hk := h.1
    rw [show pf (.bin k a b) ++ r = pf a ++ (pf b ++ (opN k :: r)) by simp [pf], evL_pf sl a _ st h.2.1]
    show _ = match (match evT sl a with | none => none | some u => match evT sl b with | none => none | some v => res (opO k u v)) with | none => none | some v => evL sl r (v :: st)
    cases evT sl a with
    | none => rfl
    | some u =>
      simp only
      rw [evL_pf sl b _ _ h.2.2]
      cases evT sl b with
      | none => rfl
      | some v =>
        show (match nodeV sl (opN k) (v :: u :: st) with | none => none | some z => evL sl r (z :: (v :: u :: st).drop (ar k))) = _
        rw [nodeV_bin hk, ar_bin hk]; rfl
theorem evL_tree (sl : List (Nat × Nat)) {t : Tr} (h : t.ok) : evL sl (pf t) [] = evT sl t := by
  have := evL_pf sl t [] [] h
  rw [List.append_nil] at this
  rw [this]
  cases evT sl t <;> rfl
theorem wt_pf : ∀ (t : Tr) (r : List Nd) (h : Nat), t.ok → wt h (pf t ++ r) = wt (h + 1) r
  | .leaf n, r, h, o => by
    show (if ar n.k ≤ h then wt (h - ar n.k + 1) r else none) = _
    rw [ar_leaf o.2, if_pos (Nat.zero_le _)]; rfl
  | .un k t, r, h, o => by
    rw [show pf (.un k t) ++ r = pf t ++ (opN k :: r) by simp [pf], wt_pf t _ h o.2]
    show (if ar k ≤ h + 1 then wt (h + 1 - ar k + 1) r else none) = _
    rw [ar_un o.1, if_pos (by omega)]; rfl
  | .bin k a b, r, h, o => by
    rw [show pf (.bin k a b) ++ r = pf a ++ (pf b ++ (opN k :: r)) by simp [pf], wt_pf a _ h o.2.1, wt_pf b _ _ o.2.2]
    show (if ar k ≤ h + 1 + 1 then wt (h + 1 + 1 - ar k + 1) r else none) = _
    rw [ar_bin o.1, if_pos (by omega)]; rfl
theorem wt_tree {t : Tr} (h : t.ok) : wt 0 (pf t) = some 1 := by
  have := wt_pf t [] 0 h
  rw [List.append_nil] at this
  rw [this]; rfl
theorem opN_ok {k : Int} (h : 3 ≤ k ∧ k ≤ 12) : (opN k).ok := .inr (.inr ⟨h, rfl, rfl, rfl⟩)
theorem pf_ok : ∀ (t : Tr), t.ok → ∀ n ∈ pf t, n.ok
  | .leaf n, h, m, hm => by
    obtain rfl : m = n := by simpa [pf] using hm
    exact h.1
  | .un k t, h, m, hm => by
    have hk := h.1
    rcases List.mem_append.1 hm with h1 | h1
    · exact pf_ok t h.2 m h1
    · obtain rfl : m = opN k := by simpa using h1
      exact opN_ok (by omega)
  | .bin k a b, h, m, hm => by
    have hk := h.1
    rcases List.mem_append.1 hm with h1 | h1
    · exact pf_ok a h.2.1 m h1
    · rcases List.mem_append.1 h1 with h1 | h1
      · exact pf_ok b h.2.2 m h1
      · obtain rfl : m = opN k := by simpa using h1
        exact opN_ok (by omega)
theorem pf_pos : ∀ t : Tr, 1 ≤ (pf t).length
  | .leaf n => Nat.le_refl _
  | .un k t => by simp [pf]
  | .bin k a b => by simp [pf]; omega
/-- a valid expression: the list's nodes, and what waits -/
structure Valid (xs : List Nd) : Prop where
  ok : ∀ n ∈ xs, n.ok
  wt : wt 0 xs = some 1
  len : xs.length ≤ 60
theorem Valid.tree {t : Tr} (h : t.ok) (hl : (pf t).length ≤ 60) : Valid (pf t) := ⟨pf_ok t h, wt_tree h, hl⟩
end Go.Proofs.Ytjkjgichneoflaa.Ex
