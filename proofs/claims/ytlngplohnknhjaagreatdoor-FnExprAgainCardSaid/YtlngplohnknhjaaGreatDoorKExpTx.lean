/- The text of an expression, and how it is read: a relation told as the program reads (success alone); what is written is read as the same. Plain facts: no walk stands here. -/
import Derived.Test.YtlngplohnknhjaaGreatDoorPkA
import Derived.Test.YtlngplohnknhjaaGreatDoorKSngT
import Derived.Lib.TrimByte
namespace Go.Proofs.YtlngplohnknhjaaGreatDoor.Px
open Go.RowKit Go.Proofs.YtlngplohnknhjaaGreatDoor Go.Proofs.YtlngplohnknhjaaGreatDoor.Flt Go.Proofs.YtlngplohnknhjaaGreatDoor.Ex Go.Proofs.YtlngplohnknhjaaGreatDoor.Sng
set_option linter.unusedVariables false
set_option linter.unusedSimpArgs false
abbrev Tx := List UInt8
def sk (l : Tx) : Tx := Lib.trimLeftB l 32
/-- a text is taken, if it comes next -/
def tk (p l : Tx) : Option Tx := if Lib.hasPrefix (sk l) p = true then some ((sk l).drop p.length) else none
def txL (k : Int) : Tx := if k = 3 ∨ k = 8 then [43] else if k = 4 ∨ k = 9 then [45] else if k = 5 then [99, 111, 110, 106] else if k = 6 then [114, 101] else if k = 7 then [105, 109] else if k = 10 then [42] else if k = 11 then [47] else [61]
/-- the kinds of a strength -/
def kindsOf (s : Nat) : List Int := if s = 4 then [3, 4] else if s = 5 then [5, 6, 7] else if s = 2 then [8, 9] else if s = 3 then [10, 11] else [12]
def opr (s : Nat) (l : Tx) : Option (Int × Tx) := (kindsOf s).findSome? fun k => (tk (txL k) l).map fun r => (k, r)
def isD (c : UInt8) : Bool := decide (48 ≤ c.toNat) && decide (c.toNat ≤ 57)
def dg (l : Tx) : Nat := (l.takeWhile isD).length
/-- the text of a number that comes next -/
def numA (s : Tx) : Tx :=
  let m := dg s
  let bh := Lib.trimPrefix (s.drop m) [112]
  let d := Lib.trimPrefix bh [45]
  if m = 0 ∨ Lib.hasPrefix (s.drop m) [112] = false ∨ dg d = 0 then s.take m else s.take (s.length - d.length + dg d)
/-- the ways of reading -/
inductive Md where
  | chain (k : Nat)
  | loop (k : Nat)
  | factor
  | encl
def room (xs : List Nd) : Prop := xs.length < 60
/-- what is read with success: the nodes and the text ahead, the nodes and the text behind -/
inductive R : Md → List Nd → Tx → List Nd → Tx → Prop where
  | four {xs ys : List Nd} {l r : Tx} : R .factor xs l ys r → R (.chain 4) xs l ys r
  | chain {k : Nat} {xs ys zs : List Nd} {l r q : Tx} : 1 ≤ k → k ≤ 3 → R (.chain (k + 1)) xs l ys r → R (.loop k) ys r zs q → R (.chain k) xs l zs q
  | stop {k : Nat} {xs : List Nd} {l : Tx} : opr k l = none → R (.loop k) xs l xs l
  | more {k : Nat} {j : Int} {xs ys zs : List Nd} {l r q o : Tx} : opr k l = some (j, r) → R (.chain (k + 1)) xs r ys q → room ys → R (.loop k) (ys ++ [opN j]) q zs o → R (.loop k) xs l zs o
  | un {j : Int} {xs ys : List Nd} {l r q : Tx} : opr 4 l = some (j, r) → R .factor xs r ys q → room ys → R .factor xs l (ys ++ [opN j]) q
  | fn {j : Int} {xs ys : List Nd} {l r r1 q : Tx} : opr 4 l = none → opr 5 l = some (j, r) → tk [40] r = some r1 → R .encl xs r1 ys q → room ys → R .factor xs l (ys ++ [opN j]) q
  | par {xs ys : List Nd} {l r q : Tx} : opr 4 l = none → opr 5 l = none → tk [40] l = some r → R .encl xs r ys q → R .factor xs l ys q
  | slot {xs : List Nd} {l r : Tx} {c : UInt8} : opr 4 l = none → opr 5 l = none → tk [40] l = none → tk [115] l = some (c :: r) → isD c = true → room xs → R .factor xs l (xs ++ [⟨2, ((c.toNat - 48 : Nat) : Int), 0, 0⟩]) r
  | real {xs : List Nd} {l t r : Tx} {f : Nat} : opr 4 l = none → opr 5 l = none → tk [40] l = none → tk [115] l = none → sk l = t ++ r → numA (sk l) = t → f < 2139095040 → bodyL f = t → (f = 0 ∨ Lib.hasPrefix r [105] = false) → room xs → R .factor xs l (xs ++ [⟨1, 0, widen f, 0⟩]) r
  | imag {xs : List Nd} {l t r : Tx} {f : Nat} : opr 4 l = none → opr 5 l = none → tk [40] l = none → tk [115] l = none → sk l = t ++ 105 :: r → numA (sk l) = t → f < 2139095040 → bodyL f = t → f ≠ 0 → room xs → R .factor xs l (xs ++ [⟨1, 0, 0, widen f⟩]) r
  | encl {xs ys : List Nd} {l r q : Tx} : R (.chain 1) xs l ys r → tk [41] r = some q → R .encl xs l ys q
/-! the text -/
def stgN (k : Int) : Nat := if k = 8 ∨ k = 9 then 2 else if k = 10 ∨ k = 11 then 3 else 1
def strT : Tr → Nat
  | .leaf _ => 5
  | .un k _ => if k ≤ 4 then 4 else 5
  | .bin k _ _ => stgN k
def nrF (x : Nat) : Nat := (floatToFloatBits .f64 x .f32).getD 0
noncomputable def leafL (n : Nd) : Tx := if n.k = 2 then 115 :: Lib.itoa n.s else if n.y = 0 then bodyL (nrF n.x) else bodyL (nrF n.y) ++ [105]
noncomputable def txT : Tr → Tx
  | .leaf n => leafL n
  | .un k t => if k ≤ 4 then txL k ++ (if strT t < 4 then 40 :: txT t ++ [41] else txT t) else txL k ++ 40 :: (txT t ++ [41])
  | .bin k a b => (if strT a < stgN k then 40 :: txT a ++ [41] else txT a) ++ 32 :: (txL k ++ 32 :: (if strT b < stgN k + 1 then 40 :: txT b ++ [41] else txT b))
noncomputable def par (s : Nat) (t : Tr) : Tx := if strT t < s then 40 :: txT t ++ [41] else txT t
theorem txT_bin (k : Int) (a b : Tr) : txT (.bin k a b) = par (stgN k) a ++ 32 :: (txL k ++ 32 :: par (stgN k + 1) b) := rfl
theorem txT_un {k : Int} (t : Tr) (h : k ≤ 4) : txT (.un k t) = txL k ++ par 4 t := if_pos h
theorem txT_fn {k : Int} (t : Tr) (h : ¬ k ≤ 4) : txT (.un k t) = txL k ++ 40 :: (txT t ++ [41]) := if_neg h
/-! what may stand behind -/
/-- behind an operand of a chain of strength k -/
def Fol (k : Nat) (r : Tx) : Prop := (r = [] ∨ r = [32]) ∨ (∃ q, r = 41 :: q) ∨ ∃ (j : Int) (q : Tx), (8 ≤ j ∧ j ≤ 12) ∧ stgN j < k ∧ r = 32 :: (txL j ++ 32 :: q)
theorem Fol.up {k m : Nat} {r : Tx} (h : Fol k r) (hm : k ≤ m) : Fol m r := by
  rcases h with h | h | ⟨j, q, h1, h2, h3⟩
  · exact .inl h
  · exact .inr (.inl h)
  · exact .inr (.inr ⟨j, q, h1, by omega, h3⟩)
theorem sk_nil : sk [] = [] := rfl
theorem sk_other {c : UInt8} {l : Tx} (h : (c == 32) = false) : sk (c :: l) = c :: l := by
  unfold sk Lib.trimLeftB
  rw [List.dropWhile_cons, h]; rfl
theorem sk_space (l : Tx) : sk (32 :: l) = sk l := by
  unfold sk Lib.trimLeftB
  rw [List.dropWhile_cons]; rfl
theorem tk_cons {c : UInt8} {l : Tx} (h : (c == 32) = false) : tk [c] (c :: l) = some l := by
  unfold tk
  rw [sk_other h]
  rw [show Lib.hasPrefix (c :: l) [c] = true by unfold Lib.hasPrefix; simp]
  rfl
theorem tk_ne {c d : UInt8} {p l : Tx} (h : (d == 32) = false) (hn : (c == d) = false) : tk (c :: p) (d :: l) = none := by
  unfold tk
  rw [sk_other h, show Lib.hasPrefix (d :: l) (c :: p) = false by unfold Lib.hasPrefix; simp [List.isPrefixOf, hn]]; rfl
theorem tk_nil {c : UInt8} {p : Tx} : tk (c :: p) [] = none := by
  unfold tk; rw [sk_nil, show Lib.hasPrefix [] (c :: p) = false from rfl]; rfl
theorem tk_space (p l : Tx) : tk p (32 :: l) = tk p l := by unfold tk; rw [sk_space]
theorem opr_space (k : Nat) (l : Tx) : opr k (32 :: l) = opr k l := by unfold opr; simp only [tk_space]
theorem kinds_bin {k : Nat} (h : k = 1 ∨ k = 2 ∨ k = 3) : ∀ j ∈ kindsOf k, (8 ≤ j ∧ j ≤ 12) ∧ stgN j = k := by
  rcases h with rfl | rfl | rfl <;> decide
/-- an operator of another strength is none -/
theorem opr_other {m : Nat} {j : Int} {q : Tx} (hm : m = 1 ∨ m = 2 ∨ m = 3) (hj : 8 ≤ j ∧ j ≤ 12) (hs : stgN j ≠ m) : opr m (txL j ++ q) = none := by
  obtain rfl | rfl | rfl | rfl | rfl : j = 8 ∨ j = 9 ∨ j = 10 ∨ j = 11 ∨ j = 12 := by omega
  all_goals
    rcases hm with rfl | rfl | rfl
    all_goals first
      | exact absurd rfl hs
      | (unfold opr kindsOf txL
         simp [tk, sk, Lib.trimLeftB, Lib.hasPrefix, List.isPrefixOf])
theorem opr_this {j : Int} {q : Tx} (hj : 8 ≤ j ∧ j ≤ 12) : opr (stgN j) (txL j ++ q) = some (j, q) := by
  obtain rfl | rfl | rfl | rfl | rfl : j = 8 ∨ j = 9 ∨ j = 10 ∨ j = 11 ∨ j = 12 := by omega
  all_goals
    unfold opr kindsOf txL stgN
    simp [tk, sk, Lib.trimLeftB, Lib.hasPrefix, List.isPrefixOf]
theorem opr_nil (m : Nat) (hm : m = 1 ∨ m = 2 ∨ m = 3) : opr m [] = none := by
  rcases hm with rfl | rfl | rfl <;> (unfold opr kindsOf txL; simp [tk, sk, Lib.trimLeftB, Lib.hasPrefix, List.isPrefixOf])
theorem opr_close (m : Nat) (hm : m = 1 ∨ m = 2 ∨ m = 3) (q : Tx) : opr m (41 :: q) = none := by
  rcases hm with rfl | rfl | rfl <;> (unfold opr kindsOf txL; simp [tk, sk, Lib.trimLeftB, Lib.hasPrefix, List.isPrefixOf])
/-- no operator of the chain comes next -/
theorem Fol.opr {k m : Nat} {r : Tx} (h : Fol k r) (hm : m = 1 ∨ m = 2 ∨ m = 3) (hk : k ≤ m) : opr m r = none := by
  rcases h with (rfl | rfl) | ⟨q, rfl⟩ | ⟨j, q, h1, h2, rfl⟩
  · exact opr_nil m hm
  · rw [opr_space]; exact opr_nil m hm
  · exact opr_close m hm q
  · rw [opr_space]
    exact opr_other hm h1 (by omega)
theorem stg_bin {k : Int} (h : 8 ≤ k ∧ k ≤ 12) : stgN k = 1 ∨ stgN k = 2 ∨ stgN k = 3 := by
  obtain rfl | rfl | rfl | rfl | rfl : k = 8 ∨ k = 9 ∨ k = 10 ∨ k = 11 ∨ k = 12 := by omega
  all_goals decide
end Go.Proofs.YtlngplohnknhjaaGreatDoor.Px
