/- The walk of FnStepByStep: it returns true. -/
import Derived.Test.YtpemmmnohlimmaaRows
import Derived.Test.YtpemmmnohlimmaaStpH
import Derived.Test.YtpemmmnohlimmaaCrt
namespace Go.Proofs.Ytpemmmnohlimmaa.fnStepByStep
open Go.ChangeShapes Go.WideShapes Go.ChangeAt Go.RowKit Go.Proofs.Ytpemmmnohlimmaa Go.Proofs.Ytpemmmnohlimmaa.Flt Go.Proofs.Ytpemmmnohlimmaa.Mth Go.Proofs.Ytpemmmnohlimmaa.Cpx Go.Proofs.Ytpemmmnohlimmaa.Trn Go.Proofs.Ytpemmmnohlimmaa.Stp Go.Proofs.Ytpemmmnohlimmaa.Drw
set_option linter.unusedVariables false
theorem fld_append : ∀ (xs ys : List Stp) (z : Nat × Nat), fld (xs ++ ys) z = match fld xs z with | none => none | some u => fld ys u
  | [], ys, z => rfl
  | s :: r, ys, z => by
    show (match corO s z with | none => none | some y => fld (r ++ ys) y) = match (match corO s z with | none => none | some y => fld r y) with | none => none | some u => fld ys u
    cases corO s z with
    | none => rfl
    | some y => exact fld_append r ys y
theorem fld_fin : ∀ (xs : List Stp) (z u : Nat × Nat), fld xs z = some u → isFinD z.1 = true ∧ isFinD z.2 = true → isFinD u.1 = true ∧ isFinD u.2 = true
  | [], z, u, h, hz => by cases h; exact hz
  | s :: r, z, u, h, hz => by
    unfold fld at h
    cases hc : corO s z with
    | none => rw [hc] at h; cases h
    | some y => rw [hc] at h; exact fld_fin r y u h (cor_lt hc)
theorem fld_wf : ∀ (xs : List Stp) (z u : Nat × Nat), fld xs z = some u → z.1 < 18446744073709551616 ∧ z.2 < 18446744073709551616 → u.1 < 18446744073709551616 ∧ u.2 < 18446744073709551616
  | [], z, u, h, hz => by cases h; exact hz
  | s :: r, z, u, h, hz => by
    unfold fld at h
    cases hc : corO s z with
    | none => rw [hc] at h; cases h
    | some y =>
      rw [hc] at h
      obtain ⟨p, q⟩ := y
      obtain ⟨a, b⟩ := z
      exact fld_wf r (p, q) u h (cor_wf hz.1 hz.2 hc)
theorem okS_of {xs : List Stp} (hl : xs.length ≤ 5) (h : ∀ s ∈ xs, s.ok = true) : okS xs = true := okS_all (by omega) fun i s hs => h s (List.mem_of_getElem? hs)
/-- all steps: those before and those behind -/
theorem parts {xs : List Stp} (k : Nat) {z : Nat × Nat} (hl : xs.length ≤ 5) (h : ∀ s ∈ xs, s.ok = true) (hz : (isFinD z.1 && isFinD z.2) = true) :
    corA xs z = match corA (xs.take k) z with | none => none | some u => corA (xs.drop k) u := by
  have h1 := okS_of hl h
  have h2 : okS (xs.take k) = true := okS_of (Nat.le_trans (by rw [List.length_take]; omega) hl) fun s hs => h s (List.mem_of_mem_take hs)
  have h3 : okS (xs.drop k) = true := okS_of (Nat.le_trans (by rw [List.length_drop]; omega) hl) fun s hs => h s (List.mem_of_mem_drop hs)
  unfold corA okZ
  rw [h1, h2, h3, hz]
  simp only [Bool.and_self, if_true]
  rw [show fld xs z = fld (xs.take k ++ xs.drop k) z by rw [List.take_append_drop], fld_append]
  cases hf : fld (xs.take k) z with
  | none => rfl
  | some u =>
    rw [Bool.and_eq_true] at hz
    have hu := fld_fin _ _ _ hf hz
    simp only [hu.1, hu.2, Bool.and_self, if_true]
theorem corA_nofin {xs : List Stp} {z : Nat × Nat} (hz : (isFinD z.1 && isFinD z.2) = false) : corA xs z = none := by
  unfold corA okZ
  rw [hz, Bool.and_false]
  rfl
/-- what is known of the list all along -/
structure Ctx (w : World) (g : Nat) (xs : List Stp) (W : World) : Prop where
  c : CellsS W g 0 xs
  l : g < W.heap.size
  b : Below w.heap.size w W
theorem Ctx.next {w : World} {g : Nat} {xs : List Stp} {W W' : World} (h : Ctx w g xs W) (hb : Below W.heap.size W W') : Ctx w g xs W' :=
  ⟨h.c.keep h.l hb, Nat.lt_of_lt_of_le h.l hb.size, h.b.trans (hb.mono h.b.size)⟩
def Ans (o : Option (Nat × Nat)) (W : World) (e : Ending) (w' : World) : Prop := e = .returned (ansV o) ∧ Below W.heap.size W w'
theorem ans_none {f : FuncId} {args : Array Value} {o : Option (Nat × Nat)} {W : World} (h : Calls Try.prog f args W (Ans o W)) (ho : o = none) : Calls Try.prog f args W fun e w' => e = .returned (.tuple #[.complex .f64 0 0, .bool false]) ∧ Below W.heap.size W w' := by
  subst ho; exact h
theorem ans_some {f : FuncId} {args : Array Value} {o : Option (Nat × Nat)} {p q : Nat} {W : World} (h : Calls Try.prog f args W (Ans o W)) (ho : o = some (p, q)) : Calls Try.prog f args W fun e w' => e = .returned (.tuple #[.complex .f64 p q, .bool true]) ∧ Below W.heap.size W w' := by
  subst ho; exact h
theorem half (n : Nat) : (n : Int) / 2 = ((n / 2 : Nat) : Int) := by omega
theorem cells_drop {W : World} {g off k n : Nat} {xs : List Stp} (h : CellsS W g 0 xs) (hn : xs.length = n) (ho : 0 < n - k → off = k * 4) : CellsS W g off (xs.drop k) := by
  by_cases h0 : 0 < n - k
  · rw [ho h0]; exact Drw.CellsS.drop h k
  · rw [List.drop_eq_nil_of_le (by omega)]
    intro i s hs
    simp at hs
set_option maxRecDepth 20000 in
set_option maxHeartbeats 3200000 in
theorem walk (a : Option Addr) (len cap : Nat) (zs : List Int) (w : World) (hr : IsRow .u8 w a len cap zs) :
    Calls Try.prog 3 #[.slice a len cap] w fun x w' => x = .returned (.bool true) ∧ Below w.heap.size w w' := by
  by_cases hl : (len : Int) ≤ 1048576
  · go_enter Try.func3, Try.ntmps3
    go_wp2_with fail
    refine (Drw.big_no _ _ _ _ hl).mono ?_
    rintro e w' ⟨rfl, rfl⟩
    go_wp2_with fail
    refine (drawSteps a len cap zs _ hr).mono ?_
    rintro e w1 ⟨g, cp, xs, x, y, ⟨hx5, hwf, hok⟩, ⟨wx, wy⟩, rfl, hcell, hg, hcp, hb1⟩
    have hS := okS_of hx5 hok
    have C1 := Lib.hid (show Ctx w' g xs w1 from ⟨hcell, hg, hb1⟩)
    clear hr hcell hb1 hg
    obtain ⟨n, hn⟩ : ∃ n, xs.length = n := ⟨_, rfl⟩
    obtain ⟨k, hk⟩ : ∃ k, n / 2 = k := ⟨_, rfl⟩
    have hhalf := half n
    rw [hk] at hhalf
    have hkn : k ≤ n := by omega
    have cC := Lib.hid (show ∀ W, Ctx w' g xs W → Calls Try.prog 8 #[.slice (some ⟨g, 0, none⟩) n cp, .complex .f64 x y] W (Ans (corA xs (x, y)) W) from fun W h => by
      have := correct_any g 0 cp xs x y W h.l hwf h.c wx wy
      rw [hn] at this
      exact this)
    have cT := Lib.hid (show ∀ W, Ctx w' g xs W → okZ xs (x, y) = true → Calls Try.prog 9 #[.slice (some ⟨g, 0, none⟩) n cp, .complex .f64 x y] W (TrOut xs (x, y) W) from fun W h ho => by
      have := trace_yes g 0 cp xs x y W h.l hwf h.c wx wy ho
      rw [hn] at this
      exact this)
    have cT' := Lib.hid (show ∀ W, Ctx w' g xs W → okZ xs (x, y) = false → Calls Try.prog 9 #[.slice (some ⟨g, 0, none⟩) n cp, .complex .f64 x y] W (TrOut xs (x, y) W) from fun W h ho => by
      have := trace_no g 0 cp xs x y W h.l hwf h.c wx wy ho
      rw [hn] at this
      exact this)
    have cS := Lib.hid (show ∀ W, Ctx w' g xs W → Calls Try.prog 10 #[.slice (some ⟨g, 0, none⟩) n cp] W fun e w2 => e = .returned (.bool true) ∧ Below W.heap.size W w2 from fun W h => by
      have := stepsOk_any g 0 cp xs W h.l hwf h.c
      rw [hn, hS] at this
      exact this)
    have cL := Lib.hid (show ∀ W, Ctx w' g xs W → Calls Try.prog 8 #[.slice (some ⟨g, 0, none⟩) k cp, .complex .f64 x y] W (Ans (corA (xs.take k) (x, y)) W) from fun W h => by
      have := correct_any g 0 cp (xs.take k) x y W h.l (wfS_take hwf k) (Drw.CellsS.take h.c k) wx wy
      rw [List.length_take, hn, Nat.min_eq_left hkn] at this
      exact this)
    have s1 := slice_to g n cp k (by omega)
    obtain ⟨off, hoff, s2⟩ := slice_from g n cp k hkn (by omega)
    have cD := Lib.hid (show ∀ W (u v : Nat), Ctx w' g xs W → u < 18446744073709551616 → v < 18446744073709551616 → Calls Try.prog 8 #[.slice (some ⟨g, off, none⟩) (n - k) (cp - k), .complex .f64 u v] W (Ans (corA (xs.drop k) (u, v)) W) from fun W u v h wu wv => by
      have := correct_any g off (cp - k) (xs.drop k) u v W h.l (wfS_drop hwf k) (cells_drop h.c hn hoff) wu wv
      rw [List.length_drop, hn] at this
      exact this)
    have cF := fun W => finI_any x y W wx wy
    have hP := fun hz => parts k (z := (x, y)) hx5 hok hz
    clear hoff
    cases hz : (isFinD x && isFinD y)
    · have hA : corA xs (x, y) = none := corA_nofin hz
      have hB : corA (xs.take k) (x, y) = none := corA_nofin hz
      have hZ : okZ xs (x, y) = false := by unfold okZ; rw [show (isFinD (x, y).1 && isFinD (x, y).2) = (isFinD x && isFinD y) from rfl, hz, Bool.and_false]
      rw [hz] at cF
      have HA := Lib.hid (And.intro hA (And.intro hB hZ))
      clear hA hB hZ hP hz hS hok hwf
      go_wp2_with fail
      refine (ans_none (cC.out _ C1.out) HA.out.1).mono ?_
      rintro e w2 ⟨rfl, hb⟩
      have C2 := Lib.hid (C1.out.next hb)
      clear hb
      go_wp2_with fail
      refine (cT'.out _ C2.out HA.out.2.2).mono ?_
      rintro e w3 ⟨v, rfl, hown, hb⟩
      obtain ⟨tr, htr⟩ : ∃ tr, trA xs (x, y) = tr := ⟨_, rfl⟩
      rw [htr] at hown
      obtain ⟨ta, tc, rfl, _⟩ := ownZ_form hown
      have C3 := Lib.hid (C2.out.next hb)
      clear hb hown
      go_wp2_with fail
      refine (cS.out _ C3.out).mono ?_
      rintro e w4 ⟨rfl, hb⟩
      have C4 := Lib.hid (C3.out.next hb)
      clear hb
      go_wp2_with fail
      refine (cF _).mono ?_
      rintro e w5 ⟨rfl, rfl⟩
      go_wp2_with fail
      refine (ans_none (cL.out _ C4.out) HA.out.2.1).mono ?_
      rintro e w6 ⟨rfl, hb⟩
      have C5 := Lib.hid (C4.out.next hb)
      clear hb
      go_wp2_with fail
      have cD0 := cD.out _ 0 0 C5.out (by decide) (by decide)
      cases hd : corA (xs.drop k) (0, 0) with
      | none =>
        refine (ans_none cD0 hd).mono ?_
        rintro e w7 ⟨rfl, hb⟩
        have C6 := Lib.hid (C5.out.next hb)
        clear hb cD0 hd
        go_wp2_with fail
        go_ret
        exact ⟨rfl, C6.out.b⟩
      | some u =>
        obtain ⟨p, q⟩ := u
        refine (ans_some cD0 hd).mono ?_
        rintro e w7 ⟨rfl, hb⟩
        have C6 := Lib.hid (C5.out.next hb)
        clear hb cD0 hd
        go_wp2_with fail
        go_ret
        exact ⟨rfl, C6.out.b⟩
    · have hZ : okZ xs (x, y) = true := by unfold okZ; rw [show (isFinD (x, y).1 && isFinD (x, y).2) = (isFinD x && isFinD y) from rfl, hz, hS]; rfl
      have hA : corA xs (x, y) = fld xs (x, y) := by unfold corA; rw [if_pos hZ]
      have hT : trA xs (x, y) = trc xs (x, y) := by unfold trA; rw [if_pos hZ]
      have hP' := hP hz
      rw [hA] at hP'
      rw [hz] at cF
      have HT := Lib.hid hT
      have hF := fld_trc xs (x, y)
      have hW : ∀ (p q : Nat), fld xs (x, y) = some (p, q) → p < 18446744073709551616 ∧ q < 18446744073709551616 := fun p q h => fld_wf _ _ _ h ⟨wx, wy⟩
      have hW2 : ∀ (p q : Nat), corA (xs.take k) (x, y) = some (p, q) → p < 18446744073709551616 ∧ q < 18446744073709551616 := fun p q h => by
        unfold corA at h
        split at h
        · exact fld_wf _ _ _ h ⟨wx, wy⟩
        · cases h
      have HW := Lib.hid (And.intro hW hW2)
      have HA := Lib.hid hA
      have HZ := Lib.hid hZ
      clear hA hZ hT hP hz hS hok hwf hW hW2
      rcases hF with ⟨hf, hlen⟩ | ⟨⟨p, q⟩, hf, hlen, hlast⟩
      · have HA' := Lib.hid (HA.out.trans hf)
        rw [hf] at hP'
        obtain ⟨m, hm⟩ : ∃ m, (trc xs (x, y)).length = m := ⟨_, rfl⟩
        rw [hm, hn] at hlen
        have Hm := Lib.hid hm
        clear hm
        have hmn : ((m : Int) == (n : Int)) = false := beq_eq_false_iff_ne.2 (by omega)
        have hmn2 : ¬ ((m : Int) = (n : Int)) := by omega
        have Hf := Lib.hid hf
        have HP := Lib.hid hP'
        clear hf hP'
        go_wp2_with fail
        refine (ans_none (cC.out _ C1.out) HA'.out).mono ?_
        rintro e w2 ⟨rfl, hb⟩
        have C2 := Lib.hid (C1.out.next hb)
        clear hb
        go_wp2_with fail
        refine (cT.out _ C2.out HZ.out).mono ?_
        rintro e w3 ⟨v, rfl, hown, hb⟩
        rw [HT.out] at hown
        obtain ⟨ta, tc, rfl, _⟩ := ownZ_form hown
        rw [Hm.out]
        have C3 := Lib.hid (C2.out.next hb)
        clear hb hown
        go_wp2_with fail
        refine (cS.out _ C3.out).mono ?_
        rintro e w4 ⟨rfl, hb⟩
        have C4 := Lib.hid (C3.out.next hb)
        clear hb
        go_wp2_with fail
        refine (cF _).mono ?_
        rintro e w5 ⟨rfl, rfl⟩
        go_wp2_with fail
        have cL0 := cL.out _ C4.out
        cases ht : corA (xs.take k) (x, y) with
        | none =>
          refine (ans_none cL0 ht).mono ?_
          rintro e w6 ⟨rfl, hb⟩
          have C5 := Lib.hid (C4.out.next hb)
          clear hb cL0 ht
          go_wp2_with fail
          have cD0 := cD.out _ 0 0 C5.out (by decide) (by decide)
          cases hd : corA (xs.drop k) (0, 0) with
          | none =>
            refine (ans_none cD0 hd).mono ?_
            rintro e w7 ⟨rfl, hb⟩
            have C6 := Lib.hid (C5.out.next hb)
            clear hb cD0 hd
            go_wp2_with fail
            go_ret
            exact ⟨rfl, C6.out.b⟩
          | some u =>
            obtain ⟨p, q⟩ := u
            refine (ans_some cD0 hd).mono ?_
            rintro e w7 ⟨rfl, hb⟩
            have C6 := Lib.hid (C5.out.next hb)
            clear hb cD0 hd
            go_wp2_with fail
            go_ret
            exact ⟨rfl, C6.out.b⟩
        | some u =>
          obtain ⟨p, q⟩ := u
          have hd := HP.out
          rw [ht] at hd
          have hd' : corA (xs.drop k) (p, q) = none := hd.symm
          have hw := HW.out.2 p q ht
          refine (ans_some cL0 ht).mono ?_
          rintro e w6 ⟨rfl, hb⟩
          have C5 := Lib.hid (C4.out.next hb)
          have Hd := Lib.hid hd'
          clear hb cL0 ht hd hd'
          go_wp2_with fail
          refine (ans_none (cD.out _ p q C5.out hw.1 hw.2) Hd.out).mono ?_
          rintro e w7 ⟨rfl, hb⟩
          have C6 := Lib.hid (C5.out.next hb)
          clear hb
          go_wp2_with fail
          go_ret
          exact ⟨rfl, C6.out.b⟩
      · have HA' := Lib.hid (HA.out.trans hf)
        have hwpq := HW.out.1 p q hf
        rw [hf] at hP'
        obtain ⟨tr, htr⟩ : ∃ tr, trc xs (x, y) = tr := ⟨_, rfl⟩
        rw [htr, hn] at hlen
        rw [htr, hn] at hlast
        have Htr := Lib.hid htr
        have Hlast := Lib.hid hlast
        have Hlen := Lib.hid hlen
        have HP := Lib.hid hP'
        obtain ⟨u, ht, hd'⟩ : ∃ u, corA (xs.take k) (x, y) = some u ∧ corA (xs.drop k) u = some (p, q) := by
          cases ht : corA (xs.take k) (x, y) with
          | none => rw [ht] at hP'; cases hP'
          | some u => rw [ht] at hP'; exact ⟨u, rfl, hP'.symm⟩
        obtain ⟨c, d⟩ := u
        have hwcd := HW.out.2 c d ht
        have Hd := Lib.hid (And.intro ht hd')
        have cE := fun W => same_any p q W hwpq.1 hwpq.2
        clear hf hP' htr hlen hlast ht hd'
        go_wp2_with fail
        refine (ans_some (cC.out _ C1.out) HA'.out).mono ?_
        rintro e w2 ⟨rfl, hb⟩
        have C2 := Lib.hid (C1.out.next hb)
        clear hb
        go_wp2_with fail
        refine (cT.out _ C2.out HZ.out).mono ?_
        rintro e w3 ⟨v, rfl, hown, hb⟩
        rw [HT.out, Htr.out] at hown
        obtain ⟨ta, tc, rfl, hform⟩ := ownZ_form hown
        rw [Hlen.out]
        have C3 := Lib.hid (C2.out.next hb)
        have Hform := Lib.hid (And.intro hform (show Below w2.heap.size w2 w3 from hb))
        clear hb hown hform
        go_wp2_with fail
        refine (cS.out _ C3.out).mono ?_
        rintro e w4 ⟨rfl, hb⟩
        have C4 := Lib.hid (C3.out.next hb)
        have Hb4 := Lib.hid hb
        clear hb
        go_wp2_with fail
        refine (cF _).mono ?_
        rintro e w5 ⟨rfl, rfl⟩
        rcases Nat.eq_zero_or_pos n with h0 | h0
        · have hpos : ¬ ((0 : Int) < (n : Int)) := by omega
          clear h0
          go_wp2_with fail
          refine (ans_some (cL.out _ C4.out) Hd.out.1).mono ?_
          rintro e w6 ⟨rfl, hb⟩
          have C5 := Lib.hid (C4.out.next hb)
          clear hb
          go_wp2_with fail
          refine (ans_some (cD.out _ c d C5.out hwcd.1 hwcd.2) Hd.out.2).mono ?_
          rintro e w7 ⟨rfl, hb⟩
          have C6 := Lib.hid (C5.out.next hb)
          clear hb
          go_wp2_with fail
          refine (cE _).mono ?_
          rintro e w8 ⟨rfl, rfl⟩
          go_wp2_with fail
          go_ret
          exact ⟨rfl, C6.out.b⟩
        · obtain ⟨m, hm⟩ : ∃ m, n = m + 1 := ⟨n - 1, by omega⟩
          have hpos : (0 : Int) < (n : Int) := by omega
          have hw1 : IntKind.i64.wrap ((n : Int) - 1) = (m : Int) := by rw [IntKind.wrap_i64]; omega
          have hmn : m < n := by omega
          obtain ⟨g2, rfl, hg2, hcz⟩ : ∃ g2, ta = some ⟨g2, 0, none⟩ ∧ g2 < w3.heap.size ∧ ∀ (i : Nat) (u : Nat × Nat), tr[i]? = some u → w3.cell? ⟨g2, i, none⟩ = some (.complex .f64 u.1 u.2) := by
            rcases Hform.out.1 with h | h
            · have := Hlen.out
              rw [h] at this
              simp at this
              omega
            · exact h
          have hct := (Hb4.out.cell (p := ⟨g2, m, none⟩) hg2).trans (hcz m (p, q) (by have := Hlast.out; rw [hm] at this; simpa using this))
          have hct' : w5.cell? ⟨g2, m, none⟩ = some (.complex .f64 p q) := hct
          clear hct hcz hm
          go_wp2_with fail
          refine (cE _).mono ?_
          rintro e w6 ⟨rfl, rfl⟩
          go_wp2_with fail
          refine (ans_some (cL.out _ C4.out) Hd.out.1).mono ?_
          rintro e w6 ⟨rfl, hb⟩
          have C5 := Lib.hid (C4.out.next hb)
          clear hb
          go_wp2_with fail
          refine (ans_some (cD.out _ c d C5.out hwcd.1 hwcd.2) Hd.out.2).mono ?_
          rintro e w7 ⟨rfl, hb⟩
          have C6 := Lib.hid (C5.out.next hb)
          clear hb
          go_wp2_with fail
          refine (cE _).mono ?_
          rintro e w8 ⟨rfl, rfl⟩
          go_wp2_with fail
          go_ret
          exact ⟨rfl, C6.out.b⟩
  · go_enter Try.func3, Try.ntmps3
    go_wp2_with fail
    refine (Drw.big_yes _ _ _ _ (by omega)).mono ?_
    rintro e w' ⟨rfl, rfl⟩
    go_wp2_with fail
    go_ret
    exact ⟨rfl, Below.refl _ _⟩
end Go.Proofs.Ytpemmmnohlimmaa.fnStepByStep
