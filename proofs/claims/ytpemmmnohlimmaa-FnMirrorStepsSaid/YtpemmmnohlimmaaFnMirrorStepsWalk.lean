/- The walk of FnMirrorSteps: it returns true. -/
import Derived.Test.YtpemmmnohlimmaaRows
import Derived.Test.YtpemmmnohlimmaaStpH
import Derived.Test.YtpemmmnohlimmaaCrt
import Derived.Test.YtpemmmnohlimmaaMirP
namespace Go.Proofs.Ytpemmmnohlimmaa.fnMirrorSteps
open Go.ChangeShapes Go.WideShapes Go.ChangeAt Go.RowKit Go.Proofs.Ytpemmmnohlimmaa Go.Proofs.Ytpemmmnohlimmaa.Flt Go.Proofs.Ytpemmmnohlimmaa.Mth Go.Proofs.Ytpemmmnohlimmaa.Cpx Go.Proofs.Ytpemmmnohlimmaa.Trn Go.Proofs.Ytpemmmnohlimmaa.Stp Go.Proofs.Ytpemmmnohlimmaa.Drw
set_option linter.unusedVariables false
theorem okS_of {xs : List Stp} (hl : xs.length ≤ 5) (h : ∀ s ∈ xs, s.ok = true) : okS xs = true := okS_all (by omega) fun i s hs => h s (List.mem_of_getElem? hs)
theorem wf_mir {xs : List Stp} (h : wfS xs) : wfS (xs.map mirS) := fun s hs => by
  obtain ⟨t, ht, rfl⟩ := List.mem_map.1 hs
  exact ⟨(h t ht).1, ng_lt (h t ht).2⟩
theorem ok_mir {xs : List Stp} (hw : wfS xs) (h : ∀ s ∈ xs, s.ok = true) : ∀ s ∈ xs.map mirS, s.ok = true := fun s hs => by
  obtain ⟨t, ht, rfl⟩ := List.mem_map.1 hs
  exact mir_ok (hw t ht).2 (h t ht)
/-- the results of both -/
theorem cor_both {xs : List Stp} {x y : Nat} (hl : xs.length ≤ 5) (hw : wfS xs) (h : ∀ s ∈ xs, s.ok = true) (wx : x < 18446744073709551616) (wy : y < 18446744073709551616) :
    (corA xs (x, y) = none ∧ corA (xs.map mirS) (x, ng y) = none) ∨ ∃ u v u1 v1, corA xs (x, y) = some (u, v) ∧ corA (xs.map mirS) (x, ng y) = some (u1, v1) ∧ (eqW Ieee.double u1 u && eqW Ieee.double v1 (ng v)) = true := by
  have h1 := okS_of hl h
  have h2 := okS_of (xs := xs.map mirS) (by rw [List.length_map]; exact hl) (ok_mir hw h)
  unfold corA okZ
  rw [h1, h2, Bool.true_and, Bool.true_and, show isFinD (x, ng y).2 = isFinD y from ng_fin wy, show isFinD (x, ng y).1 = isFinD x from rfl, show isFinD (x, y).1 = isFinD x from rfl, show isFinD (x, y).2 = isFinD y from rfl]
  cases hz : (isFinD x && isFinD y)
  · exact .inl ⟨rfl, rfl⟩
  · rw [Bool.and_eq_true] at hz
    have hm : MR (x, y) (x, ng y) := ⟨FW.refl hz.1, (FW.refl hz.2).neg wy, ⟨wx, wy⟩, wx, ng_lt wy⟩
    rcases fld_mir xs (x, y) (x, ng y) hw h hm with ⟨e1, e2⟩ | ⟨⟨u, v⟩, ⟨u1, v1⟩, e1, e2, h'⟩
    · exact .inl ⟨e1, e2⟩
    · exact .inr ⟨u, v, u1, v1, e1, e2, by rw [show eqW Ieee.double u1 u = true from h'.re.eq, show eqW Ieee.double v1 (ng v) = true from (h'.im.neg' h'.w.2).eq]; rfl⟩
def Ans (o : Option (Nat × Nat)) (W : World) (e : Ending) (w' : World) : Prop := e = .returned (ansV o) ∧ Below W.heap.size W w'
theorem ans_none {f : FuncId} {args : Array Value} {o : Option (Nat × Nat)} {W : World} (h : Calls Try.prog f args W (Ans o W)) (ho : o = none) : Calls Try.prog f args W fun e w' => e = .returned (.tuple #[.complex .f64 0 0, .bool false]) ∧ Below W.heap.size W w' := by
  subst ho; exact h
theorem ans_some {f : FuncId} {args : Array Value} {o : Option (Nat × Nat)} {p q : Nat} {W : World} (h : Calls Try.prog f args W (Ans o W)) (ho : o = some (p, q)) : Calls Try.prog f args W fun e w' => e = .returned (.tuple #[.complex .f64 p q, .bool true]) ∧ Below W.heap.size W w' := by
  subst ho; exact h
set_option maxRecDepth 20000 in
set_option maxHeartbeats 3200000 in
theorem walk (a : Option Addr) (len cap : Nat) (zs : List Int) (w : World) (hr : IsRow .u8 w a len cap zs) :
    Calls Try.prog 5 #[.slice a len cap] w fun x w' => x = .returned (.bool true) ∧ Below w.heap.size w w' := by
  by_cases hl : (len : Int) ≤ 1048576
  · go_enter Try.func5, Try.ntmps5
    go_wp2_with fail
    refine (Drw.big_no _ _ _ _ hl).mono ?_
    rintro e w' ⟨rfl, rfl⟩
    go_wp2_with fail
    refine (drawSteps a len cap zs _ hr).mono ?_
    rintro e w1 ⟨g, cp, xs, x, y, ⟨hx5, hwf, hok⟩, ⟨wx, wy⟩, rfl, hcell, hg, hcp, hb1⟩
    have hS := okS_of hx5 hok
    have hB := cor_both hx5 hwf hok wx wy
    have Hm := Lib.hid (mirror_any g 0 cp xs w1 hg hwf hcell hS)
    have C := Lib.hid (And.intro hcell (And.intro hg hb1))
    have Hw := Lib.hid (And.intro hwf (And.intro (wf_mir hwf) (And.intro (And.intro wx wy) (ng_lt wy))))
    clear hr hcell hb1 hg hok hS hwf wx wy hcp
    obtain ⟨n, hn⟩ : ∃ n, xs.length = n := ⟨_, rfl⟩
    rw [hn]
    go_wp2_with fail
    have cM := Hm.out
    rw [hn] at cM
    refine cM.mono ?_
    rintro e w2 ⟨G, rfl, hcG, hG, hb⟩
    have C2 := Lib.hid (show CellsS w2 g 0 xs ∧ g < w2.heap.size ∧ CellsS w2 G 0 (xs.map mirS) ∧ G < w2.heap.size ∧ Below w'.heap.size w' w2 from ⟨C.out.1.keep C.out.2.1 hb, Nat.lt_of_lt_of_le C.out.2.1 hb.size, hcG, hG, C.out.2.2.trans (hb.mono C.out.2.2.size)⟩)
    clear hcG hG hb cM C Hm
    go_wp2_with fail
    have cA := correct_any g 0 cp xs x y w2 C2.out.2.1 Hw.out.1 C2.out.1 Hw.out.2.2.1.1 Hw.out.2.2.1.2
    rw [hn] at cA
    have cA' : Calls Try.prog 8 #[.slice (some ⟨g, 0, none⟩) n cp, .complex .f64 x y] w2 (Ans (corA xs (x, y)) w2) := cA
    have cB : ∀ W, Below w2.heap.size w2 W → Calls Try.prog 8 #[.slice (some ⟨G, 0, none⟩) n n, .complex .f64 x (ng y)] W (Ans (corA (xs.map mirS) (x, ng y)) W) := fun W hW => by
      have := correct_any G 0 n (xs.map mirS) x (ng y) W (Nat.lt_of_lt_of_le C2.out.2.2.2.1 hW.size) Hw.out.2.1 (C2.out.2.2.1.keep C2.out.2.2.2.1 hW) Hw.out.2.2.1.1 Hw.out.2.2.2
      rw [List.length_map, hn] at this
      exact this
    have HB := Lib.hid cB
    clear cA cB
    rcases hB with ⟨e1, e2⟩ | ⟨u, v, u1, v1, e1, e2, heq⟩
    · have E := Lib.hid (And.intro e1 e2)
      refine (ans_none cA' e1).mono ?_
      rintro e w3 ⟨rfl, hb⟩
      have Hb := Lib.hid hb
      clear hb cA' e1 e2
      go_wp2_with fail
      refine (ans_none (HB.out _ Hb.out) E.out.2).mono ?_
      rintro e w4 ⟨rfl, hb⟩
      have H4 := Lib.hid (C2.out.2.2.2.2.trans ((Hb.out.trans (hb.mono Hb.out.size)).mono C2.out.2.2.2.2.size))
      clear hb
      go_wp2_with fail
      go_ret
      exact ⟨rfl, H4.out⟩
    · have E := Lib.hid (And.intro e1 e2)
      have kq := fun W => run_ceq (P := Try.prog) 25 u1 v1 u (ng v) W
      rw [heq] at kq
      refine (ans_some cA' e1).mono ?_
      rintro e w3 ⟨rfl, hb⟩
      have Hb := Lib.hid hb
      clear hb cA' e1 e2 heq
      go_wp2_with fail
      refine (ans_some (HB.out _ Hb.out) E.out.2).mono ?_
      rintro e w4 ⟨rfl, hb⟩
      have H4 := Lib.hid (C2.out.2.2.2.2.trans ((Hb.out.trans (hb.mono Hb.out.size)).mono C2.out.2.2.2.2.size))
      clear hb
      go_wp2_with fail
      go_ret
      exact ⟨rfl, H4.out⟩
  · go_enter Try.func5, Try.ntmps5
    go_wp2_with fail
    refine (Drw.big_yes _ _ _ _ (by omega)).mono ?_
    rintro e w' ⟨rfl, rfl⟩
    go_wp2_with fail
    go_ret
    exact ⟨rfl, Below.refl _ _⟩
end Go.Proofs.Ytpemmmnohlimmaa.fnMirrorSteps
