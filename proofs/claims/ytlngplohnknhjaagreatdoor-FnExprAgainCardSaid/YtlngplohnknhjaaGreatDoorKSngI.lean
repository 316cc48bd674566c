/- The program's ParseSingle. -/
import Derived.Test.YtlngplohnknhjaaGreatDoorKSngR
namespace Go.Proofs.YtlngplohnknhjaaGreatDoor.Sng
open Go.ChangeShapes Go.WideShapes Go.ChangeAt Go.RowKit Go.Proofs.YtlngplohnknhjaaGreatDoor Go.Proofs.YtlngplohnknhjaaGreatDoor.Flt Go.Proofs.YtlngplohnknhjaaGreatDoor.Mth
set_option linter.unusedVariables false
/-- what readSingle gives: if the text is some single's, a single with this text -/
def Rds (s : ByteArray) (w : World) (e : Ending) (w' : World) : Prop :=
  ∃ (x : Nat) (ok : Bool), (Lit.float .f32 x).wf = true ∧ e = .returned (.tuple #[.float .f32 x, .bool ok]) ∧ (∀ y, y < 4294967296 → fmtL y = s.data.toList → ok = true ∧ fmtL x = s.data.toList) ∧ Below w.heap.size w w'
theorem lt_w {y : Nat} (h : y < 4294967296) : y < 2 ^ Ieee.single.width := by rw [width_single]; exact h
/-- a text that is no NaN's: its sign and the rest -/
theorem fmt_cut {s : ByteArray} {y : Nat} (h1 : s.data.toList ≠ [110, 97, 110]) (h : fmtL y = s.data.toList) :
    isNaN Ieee.single y = false ∧ (s.extract 0 1).toList = sgL y ∧ (s.extract 1 s.size).data.toList = bodyL y := by
  have ny : isNaN Ieee.single y = false := by
    cases ny : isNaN Ieee.single y
    · rfl
    · rw [fmt_nan ny] at h; exact absurd h.symm h1
  rw [fmt_num ny] at h
  obtain ⟨c, hc, _⟩ := sg_one y
  rw [hc] at h ⊢
  refine ⟨ny, ?_, ?_⟩
  · rw [Lib.toList_data, Lib.extract_data, ← h]; rfl
  · rw [Lib.extract_to_end, ← h]; rfl
theorem narrow_inf (w : World) : (convert 60 92 (.float .f64 9218868437227405312)).run Tryz.prog w = .ok (.float .f32 2139095040) w :=
  run_convert_float_float w _ _ .f64 .f32 _ _ (by rw [Tryz.underlying60]; rfl) Tryz.underlying92 (by decide)
theorem extract_len (s : ByteArray) : (s.extract 1 s.size).size ≤ s.size := by
  have e : (s.extract 1 s.size).data.toList.length = (s.extract 1 s.size).size := Array.length_toList
  rw [Lib.extract_to_end, List.length_drop, Array.length_toList] at e
  have e2 : s.data.size = s.size := rfl
  omega
set_option maxRecDepth 20000 in
set_option maxHeartbeats 2000000 in
theorem read_any (s : ByteArray) (hm : s.size ≤ maxLen) (w : World) (htab : Door.Tab w) : Calls Tryz.prog 116 #[.string s] w (Rds s w) := by
  have Ht := Lib.hid htab
  clear htab
  have hsd : s.toList = s.data.toList := Lib.toList_data s
  by_cases hnan : s.data.toList = [110, 97, 110]
  · have e1 : (s.toList == [110, 97, 110]) = true := by rw [hsd, hnan]; rfl
    have Hx := Lib.hid hnan
    clear hnan hsd hm
    have Us := Lib.hid (show (Tryz.prog.underlying 60).isSome = true by rw [Tryz.underlying60]; rfl)
    obtain ⟨r, hr1, hr2, kr⟩ := run_narrow_nan (P := Tryz.prog) 60 92 9221120237041090561 Us.out Tryz.underlying92 (by decide) w
    have Hr := Lib.hid (show (Lit.float .f32 r).wf = true ∧ fmtL r = s.data.toList from ⟨wf_single hr2, by rw [fmt_nan hr1, Hx.out]⟩)
    clear hr1 hr2
    go_enter Tryz.func116, Tryz.ntmps116
    go_wp2_with fail
    refine (nan_any _).mono ?_
    rintro e w1 ⟨rfl, hw1⟩
    subst w1
    go_wp2_with fail
    go_ret2
    exact ⟨r, true, Hr.out.1, rfl, fun y hy h => ⟨rfl, Hr.out.2⟩, below_dr (Below.refl _ _) 1⟩
  · have e1 : (s.toList == [110, 97, 110]) = false := by rw [hsd]; exact beq_eq_false_iff_ne.2 hnan
    by_cases hz : s.size = 0
    · have hnil : s.data.toList = [] := List.eq_nil_of_length_eq_zero (by rw [Array.length_toList]; exact hz)
      have Hno := Lib.hid (show ∀ y, y < 4294967296 → fmtL y = s.data.toList → False from fun y hy h => by
        have := (fmt_len (x := y)).1
        rw [h, hnil] at this
        exact absurd this (by decide))
      have he1 : (s.toList == []) = true := by rw [hsd, hnil]; rfl
      have he2 : s.toList.isEmpty = true := by rw [hsd, hnil]; rfl
      have he3 : s.toList = [] := by rw [hsd, hnil]
      clear hnan hsd hm hz hnil
      go_enter Tryz.func116, Tryz.ntmps116
      go_wp2_with fail
      go_ret2
      exact ⟨0, false, by decide, rfl, fun y hy h => (Hno.out y hy h).elim, Below.refl _ _⟩
    · have hne : ¬ s.toList = [] := by
        intro h
        apply hz
        have : s.data.toList.length = 0 := by rw [← hsd, h]; rfl
        rw [Array.length_toList] at this
        exact this
      have he1 : (s.toList == []) = false := beq_eq_false_iff_ne.2 hne
      have he2 : s.toList.isEmpty = false := by rw [← Bool.not_eq_true, List.isEmpty_iff]; exact hne
      have hs1 : (1 : Int) ≤ s.size := by omega
      have hA := extract_len s
      have HA := Lib.hid (show (s.extract 1 s.size).size ≤ maxLen by omega)
      have Hc := Lib.hid (fun y (h : fmtL y = s.data.toList) => fmt_cut (y := y) hnan h)
      have Hne := Lib.hid hne
      have hm' : s.size ≤ 9223372036854775807 := by unfold maxLen at hm; omega
      have Hs := Lib.hid (show ∀ x, isNaN Ieee.single x = false → (s.extract 0 1).toList = sgL x → (s.extract 1 s.size).data.toList = bodyL x → fmtL x = s.data.toList from fun x nx hs hb => by
        rw [fmt_num nx, ← hs, ← hb, Lib.toList_data, Lib.extract_data, Lib.extract_to_end, List.drop_zero]
        exact List.take_append_drop 1 _)
      clear hnan hsd hz hne hA hm
      obtain ⟨g, hg⟩ : ∃ g, g = s.extract 0 1 := ⟨_, rfl⟩
      obtain ⟨A, hAe⟩ : ∃ A, A = s.extract 1 s.size := ⟨_, rfl⟩
      have Hg := Lib.hid (And.intro hg hAe)
      rw [← hg, ← hAe] at Hc Hs
      rw [← hAe] at HA
      clear hg hAe
      have hAd : A.toList = A.data.toList := Lib.toList_data A
      go_enter Tryz.func116, Tryz.ntmps116
      clear hAd
      go_wp2_with fail
      go_quiet (fail)
      obtain ⟨w1, hw1⟩ : ∃ w1, w1 = w.drewN nq := ⟨_, rfl⟩
      rw [← hw1, ← Hg.out.1, ← Hg.out.2]
      have Hb := Lib.hid (show Below w.heap.size w w1 by rw [hw1]; exact below_dr (Below.refl _ _) _)
      have Ht1 := Lib.hid (show Door.Tab w1 from Door.tab_below Ht.out Hb.out)
      clear hw1
      have hAd : A.toList = A.data.toList := Lib.toList_data A
      by_cases hinf : A.data.toList = [105, 110, 102]
      · have e2 : (A.toList == [105, 110, 102]) = true := by rw [hAd, hinf]; rfl
        have wx := Sgd.out_lt g 2139095040 (by decide)
        have Hx := Lib.hid (show ∀ y, y < 4294967296 → fmtL y = s.data.toList → (Sgd.out g 2139095040).2 = true ∧ fmtL (Sgd.out g 2139095040).1 = s.data.toList from fun y hy h => by
          obtain ⟨ny, h1, h2⟩ := Hc.out y h
          rw [sgd_inf (lt_w hy) (body_is_inf ny (by rw [← h2, hinf])) g h1]
          exact ⟨rfl, h⟩)
        have c1 := fun w => Sgd.impl_any g 2139095040 w
        have ni := narrow_inf
        generalize (Sgd.out g 2139095040).1 = x at *
        generalize (Sgd.out g 2139095040).2 = ok at *
        have Hw := Lib.hid wx
        clear hinf hAd wx
        go_wp2_with fail
        refine (inf_any _).mono ?_
        rintro e w2 ⟨rfl, hw2⟩
        subst w2
        go_wp2_with fail
        refine (c1 _).mono ?_
        rintro e w2 ⟨rfl, hb2⟩
        have Hb2 := Lib.hid (Hb.out.trans (hb2.mono Hb.out.size))
        clear hb2
        go_wp2_with fail
        go_ret2
        exact ⟨x, ok, Hw.out, rfl, Hx.out, Hb2.out⟩
      · have e2 : (A.toList == [105, 110, 102]) = false := by rw [hAd]; exact beq_eq_false_iff_ne.2 hinf
        by_cases hzero : A.data.toList = [48]
        · have e3 : (A.toList == [48]) = true := by rw [hAd, hzero]; rfl
          have wx := Sgd.out_lt g 0 (by decide)
          have Hx := Lib.hid (show ∀ y, y < 4294967296 → fmtL y = s.data.toList → (Sgd.out g 0).2 = true ∧ fmtL (Sgd.out g 0).1 = s.data.toList from fun y hy h => by
            obtain ⟨ny, h1, h2⟩ := Hc.out y h
            rw [sgd_zero (lt_w hy) (body_is_zero ny (by rw [← h2, hzero])) g h1]
            exact ⟨rfl, h⟩)
          have c1 := fun w => Sgd.impl_any g 0 w
          generalize (Sgd.out g 0).1 = x at *
          generalize (Sgd.out g 0).2 = ok at *
          have Hw := Lib.hid wx
          clear hinf hAd wx hzero
          go_wp2_with fail
          refine (c1 _).mono ?_
          rintro e w2 ⟨rfl, hb2⟩
          have Hb2 := Lib.hid (Hb.out.trans (hb2.mono Hb.out.size))
          clear hb2
          go_wp2_with fail
          go_ret2
          exact ⟨x, ok, Hw.out, rfl, Hx.out, Hb2.out⟩
        · have e3 : (A.toList == [48]) = false := by rw [hAd]; exact beq_eq_false_iff_ne.2 hzero
          have Hk := Lib.hid (show ∀ y, y < 4294967296 → fmtL y = s.data.toList → isNaN Ieee.single y = false ∧ Some' y ∧ g.toList = sgL y ∧ A.data.toList = Lib.decDigits (mOf y) ++ 112 :: Lib.itoa (eOf y) from fun y hy h => by
            obtain ⟨ny, h1, h2⟩ := Hc.out y h
            rcases kinds ny with k | k | k
            · rw [body_inf k] at h2; exact absurd h2 hinf
            · rw [body_zero k] at h2; exact absurd h2 hzero
            · rw [body_some k, itoa_pos] at h2
              exact ⟨ny, k, h1, h2⟩)
          have cc := fun w => cut_any A HA.out w
          clear hinf hAd hzero
          go_wp2_with fail
          refine (cc _).mono ?_
          rintro e w2 ⟨⟨a, b, f, rfl, hf⟩, n2, hw2⟩
          have Hb2 := Lib.hid (show Below w.heap.size w w2 by rw [hw2]; exact below_dr Hb.out _)
          have Ht2 := Lib.hid (show Door.Tab w2 from Door.tab_below Ht.out Hb2.out)
          have Hp := Lib.hid (show ∀ y, y < 4294967296 → fmtL y = s.data.toList → Some' y ∧ g.toList = sgL y ∧ a.data.toList = Lib.decDigits (mOf y) ∧ b.data.toList = Lib.itoa (eOf y) from fun y hy h => by
            obtain ⟨ny, k, h1, h2⟩ := Hk.out y hy h
            rcases hf with ⟨_, h3, h4⟩ | ⟨_, h3⟩
            · rw [h2] at h3
              obtain ⟨p1, p2⟩ := split_p (dec_no_p _) h4 h3
              exact ⟨k, h1, p1.symm, p2.symm⟩
            · exact absurd rfl (h3 112 (by rw [h2]; exact List.mem_append_right _ (List.mem_cons_self ..))))
          clear hw2 hf cc
          have cm := fun w h => Pu.impl_any a w h
          have Hm := Lib.hid (show ∀ y, y < 4294967296 → fmtL y = s.data.toList → (Pu.out a.data.toList).1 = mOf y ∧ (Pu.out a.data.toList).2 = true from fun y hy h => by
            obtain ⟨k, _, h1, _⟩ := Hp.out y hy h
            have hp := parts k
            rw [h1, out_dec (by omega)]
            exact ⟨rfl, rfl⟩)
          have hml := out_le a.data.toList
          unfold Pu.Res at cm
          generalize (Pu.out a.data.toList).1 = m at *
          generalize (Pu.out a.data.toList).2 = mok at *
          go_wp2_with fail
          refine (cm _ Ht2.out).mono ?_
          rintro e w3 ⟨rfl, hb3⟩
          have Hb3 := Lib.hid (Hb2.out.trans (hb3.mono Hb2.out.size))
          have Ht3 := Lib.hid (show Door.Tab w3 from Door.tab_below Ht2.out hb3)
          clear hb3 cm
          go_wp2_with fail
          refine (exponent_any b _ Ht3.out).mono ?_
          rintro e w4 ⟨v, vok, rfl, hv, v0, v1, hb4⟩
          have Hb4 := Lib.hid (Hb3.out.trans (hb4.mono Hb3.out.size))
          have Hv := Lib.hid (show ∀ y, y < 4294967296 → fmtL y = s.data.toList → v = eOf y ∧ vok = true from fun y hy h => by
            obtain ⟨k, _, _, h1⟩ := Hp.out y hy h
            have hp := parts k
            exact hv (eOf y) (by omega) (by omega) h1)
          clear hb4 hv
          cases mok with
          | false =>
            go_wp2_with fail
            go_ret2
            exact ⟨0, false, by decide, rfl, (fun y hy h => by have := (Hm.out y hy h).2; cases this), Hb4.out⟩
          | true =>
            cases vok with
            | false =>
              go_wp2_with fail
              go_ret2
              exact ⟨0, false, by decide, rfl, (fun y hy h => by have := (Hv.out y hy h).2; cases this), Hb4.out⟩
            | true =>
              have wx := Mks.out_lt g m v
              have Hx := Lib.hid (show ∀ y, y < 4294967296 → fmtL y = s.data.toList → (Mks.out g m v).2 = true ∧ fmtL (Mks.out g m v).1 = s.data.toList from fun y hy h => by
                obtain ⟨k, h1, _, _⟩ := Hp.out y hy h
                rw [(Hm.out y hy h).1, (Hv.out y hy h).1, made_some (lt_w hy) k g h1]
                exact ⟨rfl, h⟩)
              have c1 := fun w => Mks.impl_any g m v w
              unfold Mks.OutB at c1
              generalize (Mks.out g m v).1 = x at *
              generalize (Mks.out g m v).2 = ok at *
              have Hw := Lib.hid wx
              clear wx
              go_wp2_with fail
              refine (c1 _).mono ?_
              rintro e w5 ⟨rfl, hb5⟩
              have Hb5 := Lib.hid (Hb4.out.trans (hb5.mono Hb4.out.size))
              clear hb5
              go_wp2_with fail
              go_ret2
              exact ⟨x, ok, Hw.out, rfl, Hx.out, Hb5.out⟩
/-- what ParseSingle gives -/
def Prs (s : ByteArray) (w : World) (e : Ending) (w' : World) : Prop :=
  ∃ (x : Nat) (ok : Bool), (Lit.float .f32 x).wf = true ∧ e = .returned (.tuple #[.float .f32 x, .bool ok]) ∧ ((ok = true ∧ fmtL x = s.data.toList) ∨ (ok = false ∧ x = 0 ∧ ∀ y, y < 4294967296 → fmtL y ≠ s.data.toList)) ∧ Below w.heap.size w w'
set_option maxRecDepth 20000 in
set_option maxHeartbeats 2000000 in
theorem impl_parse (s : ByteArray) (hm : s.size ≤ maxLen) (w : World) (htab : Door.Tab w) : Calls Tryz.prog 98 #[.string s] w (Prs s w) := by
  have Ht := Lib.hid htab
  clear htab
  have c1 := fun w h => read_any s hm w h
  clear hm
  go_enter Tryz.func98, Tryz.ntmps98
  go_wp2_with fail
  refine (c1 _ Ht.out).mono ?_
  rintro e w1 ⟨x, ok, wx, rfl, hx, hb1⟩
  have Hb1 := Lib.hid hb1
  have Ht1 := Lib.hid (show Door.Tab w1 from Door.tab_below Ht.out hb1)
  have Hx := Lib.hid hx
  have Hw := Lib.hid wx
  clear hb1 hx wx c1
  cases ok with
  | false =>
    go_wp2_with fail
    go_ret2
    exact ⟨0, false, by decide, rfl, .inr ⟨rfl, rfl, fun y hy h => by have := (Hx.out y hy h).1; cases this⟩, Hb1.out⟩
  | true =>
    have c2 := fun w h => impl_fmt x w Hw.out h
    have hd : (fmtS x).toList = fmtL x := by rw [Lib.toList_data]; rfl
    have hsd : s.toList = s.data.toList := Lib.toList_data s
    unfold Fmt at c2
    by_cases hq : fmtL x = s.data.toList
    · have e1 : ((fmtS x).toList == s.toList) = true := by rw [hd, hsd, hq]; exact beq_self_eq_true _
      have e2 : ((fmtS x).toList != s.toList) = false := by rw [bne, e1]; rfl
      have Hq := Lib.hid hq
      generalize fmtS x = f at *
      clear hd hsd hq
      go_wp2_with fail
      refine (c2 _ Ht1.out).mono ?_
      rintro e w2 ⟨rfl, hb2⟩
      have Hb2 := Lib.hid (Hb1.out.trans (hb2.mono Hb1.out.size))
      clear hb2
      go_wp2_with fail
      go_ret2
      exact ⟨x, true, Hw.out, rfl, .inl ⟨rfl, Hq.out⟩, Hb2.out⟩
    · have e1 : ((fmtS x).toList == s.toList) = false := by rw [hd, hsd]; exact beq_eq_false_iff_ne.2 hq
      have e2 : ((fmtS x).toList != s.toList) = true := by rw [bne, e1]; rfl
      have Hq := Lib.hid hq
      generalize fmtS x = f at *
      clear hd hsd hq
      go_wp2_with fail
      refine (c2 _ Ht1.out).mono ?_
      rintro e w2 ⟨rfl, hb2⟩
      have Hb2 := Lib.hid (Hb1.out.trans (hb2.mono Hb1.out.size))
      clear hb2
      go_wp2_with fail
      go_ret2
      exact ⟨0, false, by decide, rfl, .inr ⟨rfl, rfl, fun y hy h => Hq.out (Hx.out y hy h).2⟩, Hb2.out⟩
end Go.Proofs.YtlngplohnknhjaaGreatDoor.Sng
