/- The program's MirrorExpr of valid expressions. -/
import Derived.Test.YtjkjgichneoflaaExpKn
import Derived.Test.YtjkjgichneoflaaExpDp
import Derived.Carry
namespace Go.Proofs.Ytjkjgichneoflaa.Ex
open Go.ChangeShapes Go.WideShapes Go.ChangeAt Go.RowKit Go.Proofs.Ytjkjgichneoflaa Go.Proofs.Ytjkjgichneoflaa.Flt Go.Proofs.Ytjkjgichneoflaa.Mth Go.Proofs.Ytjkjgichneoflaa.Cpx
open Ieee (double single)
set_option linter.unusedVariables false
def mirL (xs : List Nd) : List Nd := xs.flatMap mirN
/-- whether there is a mirrored list -/
def mirOk (xs : List Nd) : Bool := xs.all (fun n => decide (n.k ≠ 7)) && decide ((mirL xs).length ≤ 60)
theorem mirL_snoc (xs : List Nd) (n : Nd) : mirL (xs ++ [n]) = mirL xs ++ mirN n := by unfold mirL; simp
theorem mirN_one {n : Nd} (h : ¬ (n.k = 1 ∧ n.y ≠ 0)) : mirN n = [n] := if_neg h
theorem mirN_two {n : Nd} (h : n.k = 1 ∧ n.y ≠ 0) : mirN n = [n, opN 4] := if_pos h
theorem mirL_len : ∀ xs : List Nd, xs.length ≤ (mirL xs).length ∧ (mirL xs).length ≤ 2 * xs.length
  | [] => ⟨Nat.le_refl _, Nat.le_refl _⟩
  | n :: r => by
    obtain ⟨h1, h2⟩ := mirL_len r
    have e : mirL (n :: r) = mirN n ++ mirL r := rfl
    rw [e, List.length_append, List.length_cons]
    by_cases h : n.k = 1 ∧ n.y ≠ 0
    · rw [mirN_two h]; show _ ≤ 2 + _ ∧ 2 + _ ≤ _; omega
    · rw [mirN_one h]; show _ ≤ 1 + _ ∧ 1 + _ ≤ _; omega
theorem mirOk_seven {xs : List Nd} {i : Nat} {n : Nd} (h : xs[i]? = some n) (h7 : n.k = 7) : mirOk xs = false := by
  unfold mirOk
  have : xs.all (fun n => decide (n.k ≠ 7)) = false := by
    cases e : xs.all (fun n => decide (n.k ≠ 7))
    · rfl
    · rw [List.all_eq_true] at e
      exact absurd h7 (of_decide_eq_true (e n (List.mem_of_getElem? h)))
  rw [this, Bool.false_and]
theorem mirOk_end {xs : List Nd} (h : ∀ n ∈ xs, n.k ≠ 7) : mirOk xs = decide ((mirL xs).length ≤ 60) := by
  unfold mirOk
  have : xs.all (fun n => decide (n.k ≠ 7)) = true := List.all_eq_true.2 fun n hn => decide_eq_true (h n hn)
  rw [this, Bool.true_and]
theorem mem_take {xs : List Nd} {i : Nat} {n : Nd} (h : xs[i]? = some n) (hk : n.k ≠ 7) (hall : ∀ m ∈ xs.take i, m.k ≠ 7) : ∀ m ∈ xs.take (i + 1), m.k ≠ 7 := by
  intro m hm
  rw [show xs.take (i + 1) = xs.take i ++ [n] by rw [List.take_add_one, h]; rfl] at hm
  rcases List.mem_append.1 hm with h1 | h1
  · exact hall m h1
  · obtain rfl : m = n := by simpa using h1
    exact hk
theorem take_mir {xs : List Nd} {i : Nat} {n : Nd} (h : xs[i]? = some n) : mirL (xs.take (i + 1)) = mirL (xs.take i) ++ mirN n := by
  rw [show xs.take (i + 1) = xs.take i ++ [n] by rw [List.take_add_one, h]; rfl, mirL_snoc]
/-- the imaginary part of a number is not 0 -/
theorem NV.imz {x y : Nat} (h : NV x y) : (FloatKind.f64.format.order y 0 != some .eq) = decide (y ≠ 0) := by
  by_cases hy : y = 0
  · subst hy; decide
  · rw [decide_eq_true hy]
    obtain ⟨f, hf, ⟨_, h2⟩ | ⟨_, rfl, h0⟩⟩ := h
    · exact absurd h2 hy
    · rw [ne64, eqW_zero double (isNaN_widen f)]
      have hne : rung double (widen f) ≠ 0 := fun e => by
        obtain ⟨h1, h2, h3⟩ := low_sgl hf
        have e1 : sv double (widen f) = 0 := (sv_eq_zero double).2 e
        rw [sv_widen (by rw [h2]; exact hf)] at e1
        rcases Int.mul_eq_zero.1 e1 with e1 | e1
        · have := (sv_eq_zero single).1 e1
          rw [h2] at this
          exact h0 this
        · exact absurd e1 (Int.ne_of_gt (Int.pow_pos (by decide)))
      rw [decide_eq_false hne]; rfl
theorem run_makeN (w : World) :
    (Instr.makeSlice 24 (.int .i64 0) (.int .i64 60)).run Try.prog w = .ok (.slice (some ⟨w.heap.size, 0, none⟩) 0 60) (w.alloc (.cells (madeCells #[.int .i64 0, .int .i64 0, .complex .f64 0 0] (60 * 3)) 33)) := by
  obtain ⟨i, hi, hz, hs, hb⟩ := info_partsN
  have h := run_make (P := Try.prog) w 24 33 i _ Try.underlying24 hi hz .i64 .i64 0 60 (by omega) (by omega) (by rw [hb]; omega) (by omega)
  rw [hs] at h
  rw [show (Value.agg #[.int .i64 0, .int .i64 0, .complex .f64 0 0]).cells = #[.int .i64 0, .int .i64 0, .complex .f64 0 0] from rfl] at h
  exact h
theorem madeN (w : World) : OwnN w.heap.size (w.alloc (.cells (madeCells #[.int .i64 0, .int .i64 0, .complex .f64 0 0] (60 * 3)) 33)) (.slice (some ⟨w.heap.size, 0, none⟩) 0 60) 0 [] :=
  World.ownsRow_made w _ 60 (Nat.le_refl _) (by unfold maxLen; omega) (by rw [size_madeCells])
theorem far3 {W w5 : World} {b : Nat} {k s : Int} {x y : Nat} {row : Option Nat} (hg : W.grownBy w5 row) (h : C3 W b k s x y) (hlt : b < W.heap.size) (hne : some b ≠ row) : C3 w5 b k s x y :=
  ⟨(hg.cell_far ⟨b, 0, none⟩ hlt hne).trans h.1, (hg.cell_far ⟨b, 1, none⟩ hlt hne).trans h.2.1, (hg.cell_far ⟨b, 2, none⟩ hlt hne).trans h.2.2⟩
theorem box3 (w : World) (k s : Int) (x y : Nat) (T : TypeId) : C3 (w.alloc (.cells #[.int .i64 k, .int .i64 s, .complex .f64 x y] T)) w.heap.size k s x y := by
  have e : ∀ j, (w.alloc (.cells #[.int .i64 k, .int .i64 s, .complex .f64 x y] T)).cell? ⟨w.heap.size, j, none⟩ = (#[Value.int .i64 k, .int .i64 s, .complex .f64 x y])[j]? := fun j => by
    rw [cell_of_row _ w.heap.size j _ T (0, 0) (block_new w _)]
  exact ⟨e 0, e 1, e 2⟩
theorem box3' {w : World} {k s : Int} {x y : Nat} {T : TypeId} (o : Obj) : C3 ((w.alloc (.cells #[.int .i64 k, .int .i64 s, .complex .f64 x y] T)).alloc o) w.heap.size k s x y :=
  (keep3 (box3 w k s x y T) (by rw [World.size_alloc]; omega) (below_new _ o)).1
theorem nd_news (w : World) (o : Obj) (nd : Nd) : ∀ j u, (Nd.l nd)[j]? = some u → ((w.alloc o).alloc (.cells #[.int .i64 nd.k, .int .i64 nd.s, .complex .f64 nd.x nd.y] 33)).cell? ((⟨w.heap.size + 1, 0, none⟩ : Addr).add j) = some u := by
  have := one_cellN (w.alloc o) nd
  rw [World.size_alloc] at this
  exact this
theorem op_news (w : World) (o : Obj) : ∀ j u, (Nd.l (opN 4))[j]? = some u → ((w.alloc o).alloc (.cells #[.int .i64 4, .int .i64 0, .complex .f64 0 0] 33)).cell? ((⟨w.heap.size + 1, 0, none⟩ : Addr).add j) = some u := nd_news w o ⟨4, 0, 0, 0⟩
/-- what MirrorExpr answers -/
def MirI (xs : List Nd) (w : World) (e : Ending) (w' : World) : Prop :=
  ((mirOk xs = true ∧ ∃ g cp, e = .returned (.tuple #[.slice (some ⟨g, 0, none⟩) (mirL xs).length cp, .bool true]) ∧ Ls g (mirL xs) w') ∨
   (mirOk xs = false ∧ e = .returned (.tuple #[.slice none 0 0, .bool false]))) ∧ Below w.heap.size w w'
/-- the state of a round -/
structure Mr (w : World) (xs : List Nd) (i r g cp : Nat) (wr : World) : Prop where
  own : OwnN w.heap.size wr (.slice (some ⟨g, 0, none⟩) r cp) r (mirL (xs.take i))
  b : Below w.heap.size w wr
  len : (mirL (xs.take i)).length = r
  k7 : ∀ m ∈ xs.take i, m.k ≠ 7
theorem Mr.next {w : World} {xs : List Nd} {i r g cp g2 cp2 m : Nat} {wr w2 : World} {nd : Nd} (h : Mr w xs i r g cp wr) (hs : xs[i]? = some nd) (hk : nd.k ≠ 7) (hm : (mirN nd).length = m) (ho : OwnN w.heap.size w2 (.slice (some ⟨g2, 0, none⟩) (r + m) cp2) (r + m) (mirL (xs.take i) ++ mirN nd)) (hb : Below w.heap.size w w2) : Mr w xs (i + 1) (r + m) g2 cp2 w2 := by
  refine ⟨by rw [take_mir hs]; exact ho, hb, by rw [take_mir hs, List.length_append, h.len, hm], mem_take hs hk h.k7⟩
theorem own_in {w w5 : World} {g n cp : Nat} {xs : List Nd} {y : Nd} (h : w5.ownsRow w.heap.size 33 3 (.slice (some ⟨g, 0, none⟩) (n + 1) cp) (n + 1) (cN xs ++ Nd.l y)) (hb : Below w.heap.size w w5) : OwnN w.heap.size w5 (.slice (some ⟨g, 0, none⟩) (n + 1) cp) (n + 1) (xs ++ [y]) ∧ Below w.heap.size w w5 := by
  rw [cN_snoc] at h
  exact ⟨h, hb⟩
theorem own_far {g n cp b : Nat} (h : g < b) : some b ≠ Value.ownBlock (.slice (some ⟨g, 0, none⟩) n cp) := by
  simp only [Value.ownBlock, ne_eq, Option.some.injEq]
  omega
set_option maxRecDepth 20000 in
set_option maxHeartbeats 6400000 in
theorem mirror_any (g off cap : Nat) (xs : List Nd) (w : World) (hv : Valid xs) (h : CellsN w g off xs) (hg : g < w.heap.size) :
    Calls Try.prog 12 #[.slice (some ⟨g, off, none⟩) xs.length cap] w (MirI xs w) := by
  have cE := exprOk_any g off cap xs w hv h hg
  have H := Lib.hid (And.intro hv h)
  have hlen := hv.len
  clear hv h
  obtain ⟨n, hn⟩ : ∃ n, xs.length = n := ⟨_, rfl⟩
  rw [hn] at hlen cE ⊢
  obtain ⟨i0, hi, hz0, hz1, hz2⟩ := info_partsN
  have Hi := Lib.hid (And.intro hi (And.intro hz0 (And.intro hz1 hz2)))
  clear hi hz0 hz1 hz2
  have hmk := run_makeN
  have hmd := madeN
  generalize madeCells #[Value.int .i64 0, .int .i64 0, .complex .f64 0 0] (60 * 3) = MC at hmk hmd
  go_enter Try.func12, Try.ntmps12
  go_wp2_with fail
  refine cE.mono ?_
  rintro e w1 ⟨rfl, hb1⟩
  have hs1 := hb1.size
  have H1 := Lib.hid (show Mr w xs 0 0 w1.heap.size 60 (w1.alloc (.cells MC 33)) from ⟨own_mono (hmd w1) hs1, hb1.alloc hs1 _, rfl, fun m hm => by simp at hm⟩)
  clear hb1 cE hmd
  go_wp2_with fail
  go_loopw [4, 15] (fun vo vi wr => ∃ (i r gg cp : Nat), vo = .slice (some ⟨gg, 0, none⟩) r cp ∧ vi = .int .i64 (i : Int) ∧ i ≤ n ∧ Hid (Mr w xs i r gg cp wr))
    (fun _ vi _ => n - (intOf vi).toNat)
  case atStart => exact ⟨0, 0, w1.heap.size, 60, rfl, rfl, by omega, Lib.hid H1.out⟩
  case round =>
    obtain ⟨i, r, gg, cp, rfl, rfl, hi, HR⟩ := hrel
    have hsz := HR.out.b.size
    have hggl := (OwnN.cells HR.out.own HR.out.len).2.1
    by_cases hil : i < n
    · have hil' : (i : Int) < (n : Int) := by omega
      obtain ⟨nd, hs⟩ : ∃ nd, xs[i]? = some nd := ⟨_, List.getElem?_eq_getElem (by rw [hn]; exact hil)⟩
      have hok := H.out.1.ok nd (List.mem_of_getElem? hs)
      obtain ⟨a0, a1, a2⟩ := (H.out.2.keep hg HR.out.b) i nd hs
      have hr2 : r ≤ 2 * i := by have := (mirL_len (xs.take i)).2; rw [HR.out.len, List.length_take] at this; omega
      have hn63 : r + 1 ≤ maxLen := by unfold maxLen; omega
      have hnby : (r + 1) * 32 ≤ 140737488355328 := by omega
      have hn63c : r + 1 + 1 ≤ maxLen := by unfold maxLen; omega
      have hnbyc : (r + 1 + 1) * 32 ≤ 140737488355328 := Nat.le_trans (Nat.mul_le_mul_right 32 (show r + 1 + 1 ≤ 200 by omega)) (by decide)
      have Hs := Lib.hid hs
      clear hs
      obtain ⟨k0, s0, x0, y0⟩ := nd
      rcases hok with hc | hc | hc
      · obtain rfl : k0 = 1 := hc.1
        obtain rfl : s0 = 0 := hc.2.1
        have Kim := Lib.hid hc.2.2.imz
        have cP := fun W => part_num 0 x0 y0 W
        unfold numVal at cP
        have h7 : (Nd.mk 1 0 x0 y0).k ≠ 7 := by show (1 : Int) ≠ 7; omega
        have t1 := ta_nn
        have t2 := ta_sn
        have t3 := ta_on
        have hbs : w.heap.size ≤ ((wr.alloc (.cells #[.int .i64 1, .int .i64 0, .complex .f64 x0 y0] 33)).alloc (.cells #[.int .i64 1, .int .i64 0, .complex .f64 x0 y0] 33)).heap.size := by rw [World.size_alloc, World.size_alloc]; omega
        have Hb2 := Lib.hid (show Below w.heap.size w ((wr.alloc (.cells #[.int .i64 1, .int .i64 0, .complex .f64 x0 y0] 33)).alloc (.cells #[.int .i64 1, .int .i64 0, .complex .f64 x0 y0] 33)) from (HR.out.b.alloc hsz _).alloc (by rw [World.size_alloc]; omega) _)
        have Hown := Lib.hid (show ((wr.alloc (.cells #[.int .i64 1, .int .i64 0, .complex .f64 x0 y0] 33)).alloc (.cells #[.int .i64 1, .int .i64 0, .complex .f64 x0 y0] 33)).ownsRow w.heap.size 33 3 _ _ _ from World.ownsRow.alloc (World.ownsRow.alloc HR.out.own (.cells #[.int .i64 1, .int .i64 0, .complex .f64 x0 y0] 33)) (.cells #[.int .i64 1, .int .i64 0, .complex .f64 x0 y0] 33))
        have Hnews := Lib.hid (show ∀ j u, (Nd.l ⟨1, 0, x0, y0⟩)[j]? = some u → ((wr.alloc (.cells #[.int .i64 1, .int .i64 0, .complex .f64 x0 y0] 33)).alloc (.cells #[.int .i64 1, .int .i64 0, .complex .f64 x0 y0] 33)).cell? ((⟨wr.heap.size + 1, 0, none⟩ : Addr).add j) = some u by have := one_cellN (wr.alloc (.cells #[.int .i64 1, .int .i64 0, .complex .f64 x0 y0] 33)) ⟨1, 0, x0, y0⟩; rw [World.size_alloc] at this; exact this)
        clear hc
        go_wp2_with (at_builtin; refine wpList_append_lies _ rfl (.tmp 22) (.tmp 24) 24 rfl w.heap.size 33 i0 (.agg #[.int .i64 0, .int .i64 0, .complex .f64 0 0]) 3 32 Try.underlying24 Hi.out.1 Hi.out.2.1 Hi.out.2.2.1 Hi.out.2.2.2 rfl (by decide) (.slice (some ⟨gg, 0, none⟩) r cp) r (cN (mirL (xs.take i))) rfl Hown.out ⟨wr.heap.size + 1, 0, none⟩ 1 1 (Nd.l ⟨1, 0, x0, y0⟩) rfl rfl Hnews.out (one_oneN _) (by omega) hn63 hnby hbs _ rfl ?_; intro g5 cp5 w5 hown5 hgrow5 hat5 hlt5; obtain ⟨c0, c1, c2⟩ := far3 hgrow5 (box3' _) (by rw [World.size_alloc, World.size_alloc]; omega) (own_far hggl); have H5 := Lib.hid (own_in hown5 (Hb2.out.grown hgrow5 hbs (fun q hq => (Hown.out.lt q hq).1))); clear hown5 hgrow5 hat5 hlt5)
        refine (cP _).mono ?_
        rintro e w6 ⟨rfl, hw6⟩
        have hb6 : Below w5.heap.size w5 w6 := by rw [hw6]; go_grown
        have hs5 := H5.out.2.size
        have H6 := Lib.hid (show OwnN w.heap.size w6 _ _ _ ∧ Below w.heap.size w w6 from ⟨own_below H5.out.1 (Nat.le_refl _) hb6, H5.out.2.trans (hb6.mono hs5)⟩)
        have hs6 := H6.out.2.size
        clear hw6 hb6 c0 c1 c2
        have kim := Kim.out
        by_cases hy : y0 = 0
        · rw [decide_eq_false (by simpa using hy)] at kim
          have hmn : mirN ⟨1, 0, x0, y0⟩ = [⟨1, 0, x0, y0⟩] := mirN_one fun h => h.2 hy
          have Hn := Lib.hid (HR.out.next Hs.out h7 (m := 1) (by rw [hmn]; rfl) (by rw [hmn]; exact own_below H6.out.1 (Nat.le_refl _) (below_new w6 (.cells #[.complex .f64 x0 y0] 63))) (H6.out.2.alloc hs6 _))
          clear hy
          go_wp2_with fail
          go_roundw
          case rel => exact ⟨i + 1, r + 1, g5, cp5, rfl, by go_num, by omega, Lib.hid Hn.out⟩
          case measure => simp [intOf]; omega
        · rw [decide_eq_true hy] at kim
          have hmn : mirN ⟨1, 0, x0, y0⟩ = [⟨1, 0, x0, y0⟩, opN 4] := mirN_two ⟨rfl, hy⟩
          have Hmn := Lib.hid hmn
          have Hown6 := Lib.hid (show ((w6.alloc (.cells #[.complex .f64 x0 y0] 63)).alloc (.cells #[.int .i64 4, .int .i64 0, .complex .f64 0 0] 33)).ownsRow w.heap.size 33 3 _ _ _ from World.ownsRow.alloc (World.ownsRow.alloc H6.out.1 (.cells #[.complex .f64 x0 y0] 63)) (.cells #[.int .i64 4, .int .i64 0, .complex .f64 0 0] 33))
          have Hb7 := Lib.hid (show Below w.heap.size w ((w6.alloc (.cells #[.complex .f64 x0 y0] 63)).alloc (.cells #[.int .i64 4, .int .i64 0, .complex .f64 0 0] 33)) from (H6.out.2.alloc hs6 _).alloc (by rw [World.size_alloc]; omega) _)
          have hbs7 : w.heap.size ≤ ((w6.alloc (.cells #[.complex .f64 x0 y0] 63)).alloc (.cells #[.int .i64 4, .int .i64 0, .complex .f64 0 0] 33)).heap.size := by rw [World.size_alloc, World.size_alloc]; omega
          have Hnews7 := Lib.hid (op_news w6 (.cells #[.complex .f64 x0 y0] 63))
          clear hmn hy
          go_wp2_with (at_builtin; refine wpList_append_lies _ rfl (.tmp 39) (.tmp 41) 24 rfl w.heap.size 33 i0 (.agg #[.int .i64 0, .int .i64 0, .complex .f64 0 0]) 3 32 Try.underlying24 Hi.out.1 Hi.out.2.1 Hi.out.2.2.1 Hi.out.2.2.2 rfl (by decide) (.slice (some ⟨g5, 0, none⟩) (r + 1) cp5) (r + 1) (cN (mirL (xs.take i) ++ [⟨1, 0, x0, y0⟩])) rfl Hown6.out ⟨w6.heap.size + 1, 0, none⟩ 1 1 (Nd.l (opN 4)) rfl rfl Hnews7.out (one_oneN _) (by omega) hn63c hnbyc hbs7 _ rfl ?_; intro g8 cp8 w8 hown8 hgrow8 hat8 hlt8; have H8 := Lib.hid (own_in hown8 (Hb7.out.grown hgrow8 hbs7 (fun q hq => (Hown6.out.lt q hq).1))); clear hown8 hgrow8 hat8 hlt8)
          have Hn := Lib.hid (HR.out.next Hs.out h7 (m := 2) (by rw [Hmn.out]; rfl) (by rw [Hmn.out, show mirL (xs.take i) ++ [⟨1, 0, x0, y0⟩, opN 4] = (mirL (xs.take i) ++ [⟨1, 0, x0, y0⟩]) ++ [opN 4] by simp]; exact H8.out.1) H8.out.2)
          try go_wp2_with fail
          go_roundw
          case rel => exact ⟨i + 1, r + 2, g8, cp8, rfl, by go_num, by omega, Lib.hid Hn.out⟩
          case measure => simp [intOf]; omega
      · obtain rfl : k0 = 2 := hc.1
        obtain rfl : x0 = 0 := hc.2.2.1
        obtain rfl : y0 = 0 := hc.2.2.2
        have cP := fun W => part_slot s0 0 0 W
        unfold slotVal at cP
        have h7 : (Nd.mk 2 s0 0 0).k ≠ 7 := by show (2 : Int) ≠ 7; omega
        have hmn : mirN ⟨2, s0, 0, 0⟩ = [⟨2, s0, 0, 0⟩] := mirN_one fun h => absurd (show (2 : Int) = 1 from h.1) (by decide)
        have t1 := ta_nn
        have t2 := ta_sn
        have t3 := ta_on
        have hbs : w.heap.size ≤ ((wr.alloc (.cells #[.int .i64 2, .int .i64 s0, .complex .f64 0 0] 33)).alloc (.cells #[.int .i64 2, .int .i64 s0, .complex .f64 0 0] 33)).heap.size := by rw [World.size_alloc, World.size_alloc]; omega
        have Hb2 := Lib.hid (show Below w.heap.size w ((wr.alloc (.cells #[.int .i64 2, .int .i64 s0, .complex .f64 0 0] 33)).alloc (.cells #[.int .i64 2, .int .i64 s0, .complex .f64 0 0] 33)) from (HR.out.b.alloc hsz _).alloc (by rw [World.size_alloc]; omega) _)
        have Hown := Lib.hid (show ((wr.alloc (.cells #[.int .i64 2, .int .i64 s0, .complex .f64 0 0] 33)).alloc (.cells #[.int .i64 2, .int .i64 s0, .complex .f64 0 0] 33)).ownsRow w.heap.size 33 3 _ _ _ from World.ownsRow.alloc (World.ownsRow.alloc HR.out.own (.cells #[.int .i64 2, .int .i64 s0, .complex .f64 0 0] 33)) (.cells #[.int .i64 2, .int .i64 s0, .complex .f64 0 0] 33))
        have Hnews := Lib.hid (show ∀ j u, (Nd.l ⟨2, s0, 0, 0⟩)[j]? = some u → ((wr.alloc (.cells #[.int .i64 2, .int .i64 s0, .complex .f64 0 0] 33)).alloc (.cells #[.int .i64 2, .int .i64 s0, .complex .f64 0 0] 33)).cell? ((⟨wr.heap.size + 1, 0, none⟩ : Addr).add j) = some u by have := one_cellN (wr.alloc (.cells #[.int .i64 2, .int .i64 s0, .complex .f64 0 0] 33)) ⟨2, s0, 0, 0⟩; rw [World.size_alloc] at this; exact this)
        clear hc
        go_wp2_with (at_builtin; refine wpList_append_lies _ rfl (.tmp 22) (.tmp 24) 24 rfl w.heap.size 33 i0 (.agg #[.int .i64 0, .int .i64 0, .complex .f64 0 0]) 3 32 Try.underlying24 Hi.out.1 Hi.out.2.1 Hi.out.2.2.1 Hi.out.2.2.2 rfl (by decide) (.slice (some ⟨gg, 0, none⟩) r cp) r (cN (mirL (xs.take i))) rfl Hown.out ⟨wr.heap.size + 1, 0, none⟩ 1 1 (Nd.l ⟨2, s0, 0, 0⟩) rfl rfl Hnews.out (one_oneN _) (by omega) hn63 hnby hbs _ rfl ?_; intro g5 cp5 w5 hown5 hgrow5 hat5 hlt5; obtain ⟨c0, c1, c2⟩ := far3 hgrow5 (box3' _) (by rw [World.size_alloc, World.size_alloc]; omega) (own_far hggl); have H5 := Lib.hid (own_in hown5 (Hb2.out.grown hgrow5 hbs (fun q hq => (Hown.out.lt q hq).1))); clear hown5 hgrow5 hat5 hlt5)
        refine (cP _).mono ?_
        rintro e w6 ⟨rfl, hw6⟩
        have hb6 : Below w5.heap.size w5 w6 := by rw [hw6]; go_grown
        have hs5 := H5.out.2.size
        have H6 := Lib.hid (show OwnN w.heap.size w6 _ _ _ ∧ Below w.heap.size w w6 from ⟨own_below H5.out.1 (Nat.le_refl _) hb6, H5.out.2.trans (hb6.mono hs5)⟩)
        have hs6 := H6.out.2.size
        clear hw6 hb6 c0 c1 c2
        have Hn := Lib.hid (HR.out.next Hs.out h7 (m := 1) (by rw [hmn]; rfl) (by rw [hmn]; exact own_below H6.out.1 (Nat.le_refl _) (below_new w6 (.cells #[.complex .f64 0 0] 63))) (H6.out.2.alloc hs6 (.cells #[.complex .f64 0 0] 63)))
        go_wp2_with fail
        go_roundw
        case rel => exact ⟨i + 1, r + 1, g5, cp5, rfl, by go_num, by omega, Lib.hid Hn.out⟩
        case measure => simp [intOf]; omega
      · obtain rfl : s0 = 0 := hc.2.1
        obtain rfl : x0 = 0 := hc.2.2.1
        obtain rfl : y0 = 0 := hc.2.2.2
        have hk : 3 ≤ k0 ∧ k0 ≤ 12 := hc.1
        by_cases hk7 : k0 = 7
        · subst hk7
          have Hf := Lib.hid (mirOk_seven Hs.out rfl)
          clear hc
          go_wp2_with fail
          go_ret2
          exact ⟨.inr ⟨Hf.out, rfl⟩, HR.out.b.alloc hsz _⟩
        have b7 : (k0 == 7) = false := beq_eq_false_iff_ne.2 hk7
        have cP := fun W => part_op k0 0 0 0 W hk
        unfold opV at cP
        have h7 : (Nd.mk k0 0 0 0).k ≠ 7 := hk7
        have hmn : mirN ⟨k0, 0, 0, 0⟩ = [⟨k0, 0, 0, 0⟩] := mirN_one fun h => absurd (show k0 = 1 from h.1) (by omega)
        obtain ⟨tx, htx⟩ : ∃ tx, txt k0 = tx := ⟨_, rfl⟩
        obtain ⟨sg, hsg⟩ : ∃ sg, stg k0 = sg := ⟨_, rfl⟩
        rw [htx, hsg] at cP
        clear htx hsg
        have t1 := ta_nn
        have t2 := ta_sn
        have t3 := ta_on
        have hbs : w.heap.size ≤ ((wr.alloc (.cells #[.int .i64 k0, .int .i64 0, .complex .f64 0 0] 33)).alloc (.cells #[.int .i64 k0, .int .i64 0, .complex .f64 0 0] 33)).heap.size := by rw [World.size_alloc, World.size_alloc]; omega
        have Hb2 := Lib.hid (show Below w.heap.size w ((wr.alloc (.cells #[.int .i64 k0, .int .i64 0, .complex .f64 0 0] 33)).alloc (.cells #[.int .i64 k0, .int .i64 0, .complex .f64 0 0] 33)) from (HR.out.b.alloc hsz _).alloc (by rw [World.size_alloc]; omega) _)
        have Hown := Lib.hid (show ((wr.alloc (.cells #[.int .i64 k0, .int .i64 0, .complex .f64 0 0] 33)).alloc (.cells #[.int .i64 k0, .int .i64 0, .complex .f64 0 0] 33)).ownsRow w.heap.size 33 3 _ _ _ from World.ownsRow.alloc (World.ownsRow.alloc HR.out.own (.cells #[.int .i64 k0, .int .i64 0, .complex .f64 0 0] 33)) (.cells #[.int .i64 k0, .int .i64 0, .complex .f64 0 0] 33))
        have Hnews := Lib.hid (show ∀ j u, (Nd.l ⟨k0, 0, 0, 0⟩)[j]? = some u → ((wr.alloc (.cells #[.int .i64 k0, .int .i64 0, .complex .f64 0 0] 33)).alloc (.cells #[.int .i64 k0, .int .i64 0, .complex .f64 0 0] 33)).cell? ((⟨wr.heap.size + 1, 0, none⟩ : Addr).add j) = some u by have := one_cellN (wr.alloc (.cells #[.int .i64 k0, .int .i64 0, .complex .f64 0 0] 33)) ⟨k0, 0, 0, 0⟩; rw [World.size_alloc] at this; exact this)
        clear hc
        go_wp2_with (at_builtin; refine wpList_append_lies _ rfl (.tmp 22) (.tmp 24) 24 rfl w.heap.size 33 i0 (.agg #[.int .i64 0, .int .i64 0, .complex .f64 0 0]) 3 32 Try.underlying24 Hi.out.1 Hi.out.2.1 Hi.out.2.2.1 Hi.out.2.2.2 rfl (by decide) (.slice (some ⟨gg, 0, none⟩) r cp) r (cN (mirL (xs.take i))) rfl Hown.out ⟨wr.heap.size + 1, 0, none⟩ 1 1 (Nd.l ⟨k0, 0, 0, 0⟩) rfl rfl Hnews.out (one_oneN _) (by omega) hn63 hnby hbs _ rfl ?_; intro g5 cp5 w5 hown5 hgrow5 hat5 hlt5; obtain ⟨c0, c1, c2⟩ := far3 hgrow5 (box3' _) (by rw [World.size_alloc, World.size_alloc]; omega) (own_far hggl); have H5 := Lib.hid (own_in hown5 (Hb2.out.grown hgrow5 hbs (fun q hq => (Hown.out.lt q hq).1))); clear hown5 hgrow5 hat5 hlt5)
        refine (cP _).mono ?_
        rintro e w6 ⟨rfl, hw6⟩
        have hb6 : Below w5.heap.size w5 w6 := by rw [hw6]; go_grown
        have hs5 := H5.out.2.size
        have H6 := Lib.hid (show OwnN w.heap.size w6 _ _ _ ∧ Below w.heap.size w w6 from ⟨own_below H5.out.1 (Nat.le_refl _) hb6, H5.out.2.trans (hb6.mono hs5)⟩)
        have hs6 := H6.out.2.size
        clear hw6 hb6 c0 c1 c2
        have Hn := Lib.hid (HR.out.next Hs.out h7 (m := 1) (by rw [hmn]; rfl) (by rw [hmn]; exact own_below H6.out.1 (Nat.le_refl _) (below_new w6 (.cells #[.complex .f64 0 0] 63))) (H6.out.2.alloc hs6 (.cells #[.complex .f64 0 0] 63)))
        go_wp2_with fail
        go_roundw
        case rel => exact ⟨i + 1, r + 1, g5, cp5, rfl, by go_num, by omega, Lib.hid Hn.out⟩
        case measure => simp [intOf]; omega
    · obtain rfl : i = n := by omega
      have hil' : ¬ (i : Int) < (i : Int) := by omega
      have h7 := HR.out.k7
      have hl := HR.out.len
      have ho := HR.out.own
      rw [List.take_of_length_le (by omega)] at h7 hl ho
      have hok := mirOk_end h7
      rw [hl] at hok
      have Ho := Lib.hid (And.intro hok (And.intro hl ho))
      clear h7 hl ho hok
      by_cases hr : r ≤ 60
      · have hr' : ¬ (60 : Int) < (r : Int) := by omega
        have Hk := Lib.hid (show mirOk xs = true by rw [Ho.out.1]; exact decide_eq_true hr)
        go_wp2_with fail
        go_ret2
        exact ⟨.inl ⟨Hk.out, gg, cp, by rw [Ho.out.2.1]; rfl, OwnN.ls Ho.out.2.2 Ho.out.2.1⟩, HR.out.b⟩
      · have hr' : (60 : Int) < (r : Int) := by omega
        have Hk := Lib.hid (show mirOk xs = false by rw [Ho.out.1]; exact decide_eq_false hr)
        go_wp2_with fail
        go_ret2
        exact ⟨.inr ⟨Hk.out, rfl⟩, HR.out.b⟩
end Go.Proofs.Ytjkjgichneoflaa.Ex
