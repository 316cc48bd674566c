/- EvalExpr of valid expressions, in the program. -/
import Derived.Test.YtjkjgichneoflaaExpE
namespace Go.Proofs.Ytjkjgichneoflaa.Ex
open Go.ChangeMaps Go.ChangeShapes Go.WideShapes Go.ChangeAt Go.RowKit Go.Proofs.Ytjkjgichneoflaa Go.Proofs.Ytjkjgichneoflaa.Flt Go.Proofs.Ytjkjgichneoflaa.Mth Go.Proofs.Ytjkjgichneoflaa.Cpx
set_option linter.unusedVariables false
/-- what EvalExpr answers -/
def ansV (o : Option (Nat × Nat)) : Value := match o with | none => .tuple #[.complex .f64 0 0, .bool false] | some z => .tuple #[.complex .f64 z.1 z.2, .bool true]
theorem evL_cons (sl : List (Nat × Nat)) (n : Nd) (r : List Nd) (st : List (Nat × Nat)) : evL sl (n :: r) st = match nodeV sl n st with | none => none | some v => evL sl r (v :: st.drop (ar n.k)) := rfl
theorem start_rk (w1 : World) (sl : Value) : Rk ((w1.alloc (.cells #[.slice none 0 0, sl] 48)).alloc (.map (opsMap w1.heap.size) 10)) w1.heap.size sl [] ((w1.alloc (.cells #[.slice none 0 0, sl] 48)).alloc (.map (opsMap w1.heap.size) 10)) := by
  refine ⟨Only.refl _ _, ⟨.slice none 0 0, ?_, nilZ _ _⟩, by rw [World.size_alloc, World.size_alloc]; omega, by simp, fun z hz => by cases hz⟩
  exact (((Below.refl (w1.alloc (.cells #[.slice none 0 0, sl] 48)).heap.size _).alloc (Nat.le_refl _) _).block w1.heap.size (by rw [World.size_alloc]; omega)).trans (block_new w1 _)
theorem start_ctx {w1 : World} {gs cs : Nat} {sl : List (Nat × Nat)} (c : CellsZ w1 gs 0 sl) (gl : gs < w1.heap.size) (wf : ∀ z ∈ sl, z.1 < 18446744073709551616 ∧ z.2 < 18446744073709551616) (v : Value) :
    Ctx ((w1.alloc (.cells #[.slice none 0 0, v] 48)).alloc (.map (opsMap w1.heap.size) 10)) w1.heap.size (w1.heap.size + 1) gs cs sl := by
  have hb : Below w1.heap.size w1 ((w1.alloc (.cells #[.slice none 0 0, v] 48)).alloc (.map (opsMap w1.heap.size) 10)) := by go_grown
  refine ⟨?_, by omega, c.keep gl hb, Nat.lt_of_lt_of_le gl hb.size, by omega, wf⟩
  have := block_new (w1.alloc (.cells #[.slice none 0 0, v] 48)) (.map (opsMap w1.heap.size) 10)
  rw [World.size_alloc] at this
  exact this
set_option maxRecDepth 20000 in
set_option maxHeartbeats 3200000 in
theorem eval_any (g off cap gs cs : Nat) (xs : List Nd) (sl : List (Nat × Nat)) (w : World) (hv : Valid xs) (h : CellsN w g off xs) (hg : g < w.heap.size) (c : CellsZ w gs 0 sl) (gl : gs < w.heap.size) (wf : ∀ z ∈ sl, z.1 < 18446744073709551616 ∧ z.2 < 18446744073709551616) :
    Calls Try.prog 8 #[.slice (some ⟨g, off, none⟩) xs.length cap, sV gs cs sl] w fun e w' => e = .returned (ansV (evL sl xs [])) ∧ Below w.heap.size w w' := by
  have cE := exprOk_any g off cap xs w hv h hg
  have H := Lib.hid (And.intro hv h)
  have HZ := Lib.hid (And.intro c (And.intro gl wf))
  have hlen := hv.len
  clear hv h c gl wf
  obtain ⟨n, hn⟩ : ∃ n, xs.length = n := ⟨_, rfl⟩
  rw [hn] at hlen cE ⊢
  obtain ⟨m, hm⟩ : ∃ m, sl.length = m := ⟨_, rfl⟩
  have hsv : sV gs cs sl = (Value.slice (some ⟨gs, 0, none⟩) m cs) := by unfold sV; rw [hm]
  rw [hsv]
  have Hsv := Lib.hid hsv
  clear hsv hm
  go_enter Try.func8, Try.ntmps8
  go_wp2_with fail
  refine cE.mono ?_
  rintro e w1 ⟨rfl, hb1⟩
  have Hb1 := Lib.hid hb1
  clear hb1 cE
  go_wp2_with fail
  refine (ops_any _ _).mono ?_
  rintro e w2 ⟨rfl, hw2⟩
  obtain ⟨R, hR⟩ : ∃ R, w1.heap.size = R := ⟨_, rfl⟩
  have hRw : w.heap.size ≤ R := by rw [← hR]; exact Hb1.out.size
  have hM : (w1.alloc (.cells #[.slice none 0 0, (Value.slice (some ⟨gs, 0, none⟩) m cs)] 48)).heap.size = R + 1 := by rw [World.size_alloc, hR]
  have hrk := start_rk w1 (Value.slice (some ⟨gs, 0, none⟩) m cs)
  have hcx := start_ctx (w1 := w1) (gs := gs) (cs := cs) (HZ.out.1.keep HZ.out.2.1 Hb1.out) (Nat.lt_of_lt_of_le HZ.out.2.1 Hb1.out.size) HZ.out.2.2 (Value.slice (some ⟨gs, 0, none⟩) m cs)
  have hbl : Below w.heap.size w ((w1.alloc (.cells #[.slice none 0 0, (Value.slice (some ⟨gs, 0, none⟩) m cs)] 48)).alloc (.map (opsMap w1.heap.size) 10)) := (Hb1.out.alloc Hb1.out.size _).alloc (by rw [World.size_alloc]; have := Hb1.out.size; omega) _
  rw [← hw2] at hrk hcx hbl
  rw [hR] at hrk hcx ⊢
  have Hrk := Lib.hid hrk
  have Hcx := Lib.hid hcx
  have Hbl := Lib.hid hbl
  clear hw2 hrk hcx hbl hR
  go_wp2_with fail
  go_loopw [19] (fun vi wr => ∃ (i : Nat) (st : List (Nat × Nat)), vi = .int .i64 (i : Int) ∧ i ≤ n ∧ Rk w2 R (Value.slice (some ⟨gs, 0, none⟩) m cs) st wr ∧ Hid ((wt st.length (xs.drop i) = some 1 ∧ evL sl xs [] = evL sl (xs.drop i) st) ∧ st.length ≤ i))
    (fun vi _ => n - (intOf vi).toNat)
  case atStart => exact ⟨0, [], rfl, by omega, Hrk.out, Lib.hid ⟨⟨H.out.1.wt, rfl⟩, Nat.le_refl _⟩⟩
  case round =>
    obtain ⟨i, st, rfl, hi, hrk, Hw⟩ := hrel
    have Hr := Lib.hid hrk
    clear hrk
    have hRl : R < wr.heap.size := Nat.lt_of_lt_of_le Hr.out.lt Hr.out.only.size
    have Hb := Lib.hid (show Below w.heap.size w wr from Hbl.out.trans (Hr.out.only.below hRw (Hbl.out.size)))
    by_cases hil : i < n
    · have hil' : (i : Int) < (n : Int) := by omega
      obtain ⟨nd, hs⟩ : ∃ nd, xs[i]? = some nd := ⟨_, List.getElem?_eq_getElem (by rw [hn]; exact hil)⟩
      have hok := H.out.1.ok nd (List.mem_of_getElem? hs)
      obtain ⟨a0, a1, a2⟩ := (H.out.2.keep hg Hb.out) i nd hs
      obtain ⟨⟨hw1, hev⟩, hsti⟩ := Hw.out
      rw [drop_cons hs] at hw1 hev
      obtain ⟨hah, hw1⟩ := wt_cons hw1
      rw [evL_cons] at hev
      have hst60 : (st.drop (ar nd.k)).length < 60 := by rw [List.length_drop]; omega
      have hstl : (st.drop (ar nd.k)).length + 1 = st.length - ar nd.k + 1 := by rw [List.length_drop]
      have Hn := Lib.hid (And.intro hw1 (And.intro hev (And.intro hok (And.intro hah (And.intro hst60 (And.intro hstl hsti))))))
      clear hs hok hw1 hev hah hst60 hstl hsti
      go_wp2_with fail
      have cV := val_any nd Hn.out.2.2.1 w2 R (R + 1) gs cs sl st Hcx.out _ (Hsv.out ▸ Hr.out.alloc (.cells #[.int .i64 nd.k, .int .i64 nd.s, .complex .f64 nd.x nd.y] 33)) Hn.out.2.2.2.1
      unfold VOut at cV
      rw [Hsv.out] at cV
      refine cV.mono ?_
      rintro e w3 ⟨x, y, wxy, hnv, rfl, hrk3⟩
      clear cV
      have Hr3 := Lib.hid hrk3
      have cF := fun W => finI_any x y W wxy.1 wxy.2
      cases hf : (isFinD x && isFinD y)
      · rw [hf] at cF hnv
        have He := Lib.hid (show evL sl xs [] = none by rw [Hn.out.2.1, hnv]; rfl)
        have Hb3 := Lib.hid (show Below w.heap.size w w3 from Hbl.out.trans (Hr3.out.only.below hRw Hbl.out.size))
        clear hnv hf wxy hrk3
        go_wp2_with fail
        refine (cF _).mono ?_
        rintro e w4 ⟨rfl, rfl⟩
        go_wp2_with fail
        go_ret2
        exact ⟨by rw [He.out]; rfl, Hb3.out⟩
      · rw [hf] at cF hnv
        have hgz : GZ (x, y) := ⟨by rw [Bool.and_eq_true] at hf; exact hf, wxy⟩
        have He := Lib.hid (show evL sl xs [] = evL sl (xs.drop (i + 1)) ((x, y) :: st.drop (ar nd.k)) by rw [Hn.out.2.1, hnv]; rfl)
        have Hg := Lib.hid hgz
        clear hnv hf wxy hrk3 hgz
        go_wp2_with fail
        refine (cF _).mono ?_
        rintro e w4 ⟨rfl, rfl⟩
        go_wp2_with fail
        refine (put_any w2 R (Value.slice (some ⟨gs, 0, none⟩) m cs) x y _ _ Hr3.out Hn.out.2.2.2.2.1 Hg.out).mono ?_
        rintro e w5 ⟨rfl, hrk5⟩
        have Hr5 := Lib.hid hrk5
        clear hrk5
        go_wp2_with fail
        go_roundw
        case rel =>
          refine ⟨i + 1, (x, y) :: st.drop (ar nd.k), by go_num, by omega, Hr5.out, Lib.hid ⟨⟨?_, He.out⟩, ?_⟩⟩
          · rw [List.length_cons, Hn.out.2.2.2.2.2.1]; exact Hn.out.1
          · rw [List.length_cons, List.length_drop]; have := Hn.out.2.2.2.2.2.2; omega
        case measure => simp [intOf]; omega
    · obtain rfl : i = n := by omega
      have hil' : ¬ (i : Int) < (i : Int) := by omega
      obtain ⟨⟨hw1, hev⟩, _⟩ := Hw.out
      rw [List.drop_eq_nil_of_le (by omega)] at hw1 hev
      have hst : st.length = 1 := Option.some.inj hw1
      obtain ⟨z, rfl⟩ : ∃ z, st = [z] := by
        match st, hst with
        | [z], _ => exact ⟨z, rfl⟩
      have He := Lib.hid (show evL sl xs [] = some z from hev)
      clear hw1 hev hst
      go_wp2_with fail
      refine (take_any w2 R (Value.slice (some ⟨gs, 0, none⟩) m cs) z [] _ Hr.out).mono ?_
      rintro e w5 ⟨rfl, hrk5⟩
      have Hb5 := Lib.hid (show Below w.heap.size w w5 from Hbl.out.trans (hrk5.only.below hRw Hbl.out.size))
      clear hrk5
      go_wp2_with fail
      go_ret2
      exact ⟨by rw [He.out]; rfl, Hb5.out⟩
/-- of a tree -/
theorem eval_tree (g off cap gs cs : Nat) (t : Tr) (sl : List (Nat × Nat)) (w : World) (ht : t.ok) (hl : (pf t).length ≤ 60) (h : CellsN w g off (pf t)) (hg : g < w.heap.size) (c : CellsZ w gs 0 sl) (gl : gs < w.heap.size) (wf : ∀ z ∈ sl, z.1 < 18446744073709551616 ∧ z.2 < 18446744073709551616) :
    Calls Try.prog 8 #[.slice (some ⟨g, off, none⟩) (pf t).length cap, .slice (some ⟨gs, 0, none⟩) sl.length cs] w fun e w' => e = .returned (ansV (evT sl t)) ∧ Below w.heap.size w w' := by
  have := eval_any g off cap gs cs (pf t) sl w (Valid.tree ht hl) h hg c gl wf
  rw [evL_tree sl ht] at this
  exact this
end Go.Proofs.Ytjkjgichneoflaa.Ex
