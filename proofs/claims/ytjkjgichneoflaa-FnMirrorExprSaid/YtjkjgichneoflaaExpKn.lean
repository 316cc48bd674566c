/- What a law's walk knows all along of the drawn expression and slots; copies of a list of nodes with more nodes behind. -/
import Derived.Test.YtjkjgichneoflaaExpF
import Derived.Test.YtjkjgichneoflaaExpQ
namespace Go.Proofs.Ytjkjgichneoflaa.Ex
open Go.ChangeShapes Go.WideShapes Go.ChangeAt Go.RowKit Go.Proofs.Ytjkjgichneoflaa Go.Proofs.Ytjkjgichneoflaa.Flt Go.Proofs.Ytjkjgichneoflaa.Mth Go.Proofs.Ytjkjgichneoflaa.Cpx
set_option linter.unusedVariables false
theorem ans_none {f : FuncId} {args : Array Value} {o : Option (Nat × Nat)} {W : World} (h : Calls Try.prog f args W fun e w' => e = .returned (ansV o) ∧ Below W.heap.size W w') (ho : o = none) : Calls Try.prog f args W fun e w' => e = .returned (.tuple #[.complex .f64 0 0, .bool false]) ∧ Below W.heap.size W w' := by
  subst ho; exact h
theorem ans_some {f : FuncId} {args : Array Value} {o : Option (Nat × Nat)} {p q : Nat} {W : World} (h : Calls Try.prog f args W fun e w' => e = .returned (ansV o) ∧ Below W.heap.size W w') (ho : o = some (p, q)) : Calls Try.prog f args W fun e w' => e = .returned (.tuple #[.complex .f64 p q, .bool true]) ∧ Below W.heap.size W w' := by
  subst ho; exact h
/-- what is known all along -/
structure Kn (w : World) (g h : Nat) (t : Tr) (sl : List (Nat × Nat)) (W : World) : Prop where
  c : CellsN W g 0 (pf t)
  gl : g < W.heap.size
  z : CellsZ W h 0 sl
  hl : h < W.heap.size
  b : Below w.heap.size w W
theorem Kn.next {w : World} {g h : Nat} {t : Tr} {sl : List (Nat × Nat)} {W W' : World} (k : Kn w g h t sl W) (hb : Below W.heap.size W W') : Kn w g h t sl W' :=
  ⟨k.c.keep k.gl hb, Nat.lt_of_lt_of_le k.gl hb.size, k.z.keep k.hl hb, Nat.lt_of_lt_of_le k.hl hb.size, k.b.trans (hb.mono k.b.size)⟩
/-- another list of nodes -/
structure Ls (g : Nat) (xs : List Nd) (W : World) : Prop where
  c : CellsN W g 0 xs
  gl : g < W.heap.size
theorem Ls.next {g : Nat} {xs : List Nd} {W W' : World} (k : Ls g xs W) (hb : Below W.heap.size W W') : Ls g xs W' := ⟨k.c.keep k.gl hb, Nat.lt_of_lt_of_le k.gl hb.size⟩
theorem own_news {w1 w5 : World} {base g n cp : Nat} {xs ys : List Nd} (h : w5.ownsRow base 33 3 (.slice (some ⟨g, 0, none⟩) (n + ys.length) cp) (n + ys.length) (cN xs ++ cN ys)) : OwnN base w5 (.slice (some ⟨g, 0, none⟩) (n + ys.length) cp) (n + ys.length) (xs ++ ys) := by
  rw [cN_app] at h
  exact h
theorem own_copy {W w5 : World} {base g n cp : Nat} {xs : List Nd} (h : w5.ownsRow base 33 3 (.slice (some ⟨g, 0, none⟩) (0 + n) cp) (0 + n) ([] ++ cN xs)) (hb : Below W.heap.size W w5) : OwnN base w5 (.slice (some ⟨g, 0, none⟩) n cp) n xs ∧ Below W.heap.size W w5 := by
  rw [Nat.zero_add, List.nil_append] at h
  exact ⟨h, hb⟩
theorem own_one {W w5 : World} {base g n cp : Nat} {xs : List Nd} {y : Nd} (h : w5.ownsRow base 33 3 (.slice (some ⟨g, 0, none⟩) (n + 1) cp) (n + 1) (cN xs ++ Nd.l y)) (hb : Below W.heap.size W w5) : OwnN base w5 (.slice (some ⟨g, 0, none⟩) (n + 1) cp) (n + 1) (xs ++ [y]) ∧ Below W.heap.size W w5 := by
  rw [cN_snoc] at h
  exact ⟨h, hb⟩
theorem own_two {W w5 : World} {base g n cp : Nat} {xs : List Nd} {y z : Nd} (h : w5.ownsRow base 33 3 (.slice (some ⟨g, 0, none⟩) (n + 2) cp) (n + 2) (cN xs ++ (Nd.l y ++ Nd.l z))) (hb : Below W.heap.size W w5) : OwnN base w5 (.slice (some ⟨g, 0, none⟩) (n + 2) cp) (n + 2) (xs ++ [y, z]) ∧ Below W.heap.size W w5 := by
  have e : cN xs ++ (Nd.l y ++ Nd.l z) = cN (xs ++ [y, z]) := by unfold cN; simp
  rw [e] at h
  exact ⟨h, hb⟩
theorem two_cellN (wr : World) (s u : Nd) : ∀ j v, (Nd.l s ++ Nd.l u)[j]? = some v → (wr.alloc (.cells #[.int .i64 s.k, .int .i64 s.s, .complex .f64 s.x s.y, .int .i64 u.k, .int .i64 u.s, .complex .f64 u.x u.y] 33)).cell? ((⟨wr.heap.size, 0, none⟩ : Addr).add j) = some v := by
  intro j v hj
  have e : (⟨wr.heap.size, 0, none⟩ : Addr).add j = ⟨wr.heap.size, j, none⟩ := by unfold Addr.add; split <;> simp_all
  rw [e, cell_of_row _ wr.heap.size j _ 33 (0, 0) (block_new wr _)]
  unfold Nd.l at hj
  simpa using hj
theorem two_oneN (s u : Nd) : ∀ v ∈ Nd.l s ++ Nd.l u, v.oneCell' = true := by
  intro v hv
  rcases List.mem_append.1 hv with h | h
  · exact one_oneN s v h
  · exact one_oneN u v h
theorem alloc_ge' {w : World} {n : Nat} (o : Obj) (h : n ≤ w.heap.size) : n ≤ (w.alloc o).heap.size := by rw [World.size_alloc]; omega
theorem below_new (w : World) (o : Obj) : Below w.heap.size w (w.alloc o) := (Below.refl _ _).alloc (Nat.le_refl _) _
theorem OwnN.ls {base : Nat} {w : World} {g n cap : Nat} {xs : List Nd} (h : OwnN base w (.slice (some ⟨g, 0, none⟩) n cap) n xs) (hn : xs.length = n) : Ls g xs w := ⟨(OwnN.cells h hn).1, (OwnN.cells h hn).2.1⟩
end Go.Proofs.Ytjkjgichneoflaa.Ex
