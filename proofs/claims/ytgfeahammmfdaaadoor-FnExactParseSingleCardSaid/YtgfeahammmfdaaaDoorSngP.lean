/- The walk of the model's ParseSingle. -/
import Derived.Test.YtgfeahammmfdaaaDoorSngS
namespace Go.Proofs.YtgfeahammmfdaaaDoor.Sng
open Go.ChangeShapes Go.WideShapes Go.ChangeAt Go.RowKit Go.Proofs.YtgfeahammmfdaaaDoor Go.Proofs.YtgfeahammmfdaaaDoor.Flt Go.Proofs.YtgfeahammmfdaaaDoor.Mth
set_option linter.unusedVariables false
theorem prs_no {s : ByteArray} {w w' : World} (h : ∀ y, y < 4294967296 → fmtL y ≠ s.data.toList) (hb : Below w.heap.size w w') : Prs s w (.returned (.tuple #[.float .f32 0, .bool false])) w' :=
  ⟨0, false, by decide, rfl, .inr ⟨rfl, rfl, h⟩, hb⟩
theorem use_parse (t : ByteArray) : ∃ (m : Nat) (mok : Bool), (∀ w, Calls Tryd.prog 61 #[.string t] w fun e w' => e = .returned (.tuple #[.int .i64 (m : Int), .bool mok]) ∧ Below w.heap.size w w') ∧
    m = (Pu.out t.data.toList).1 ∧ mok = (Pu.out t.data.toList).2 ∧ m ≤ 1000000000 :=
  ⟨_, _, fun w => Pu.spec_any t w, rfl, rfl, out_le _⟩
theorem use_make (g : ByteArray) (m v : Int) : ∃ (x : Nat) (ok : Bool), (Lit.float .f32 x).wf = true ∧ (∀ w, Calls Tryd.prog 62 #[.string g, .int .i64 m, .int .i64 v] w fun e w' => e = .returned (.tuple #[.float .f32 x, .bool ok]) ∧ ∃ n, w' = w.drewN n) ∧ Mks.out g m v = (x, ok) :=
  ⟨_, _, Mks.out_lt g m v, fun w => Mks.spec_any g m v w, rfl⟩
theorem use_fmt (x : Nat) (wx : (Lit.float .f32 x).wf = true) : ∃ f : ByteArray, (∀ w, Calls Tryd.prog 28 #[.float .f32 x] w fun e w' => e = .returned (.string f) ∧ Below w.heap.size w w') ∧ f.toList = fmtL x :=
  ⟨fmtS x, fun w => spec_fmt x w wx, by rw [Lib.toList_data]; rfl⟩
set_option maxRecDepth 40000 in
set_option maxHeartbeats 1600000 in
theorem spec_parse (s : ByteArray) (w : World) : Calls Tryd.prog 30 #[.string s] w (Prs s w) := by
  have hsd : s.toList = s.data.toList := Lib.toList_data s
  by_cases hnan : s.data.toList = [110, 97, 110]
  · have e1 : (s.toList == [110, 97, 110]) = true := by rw [hsd, hnan]; rfl
    have Hx := Lib.hid hnan
    clear hnan hsd
    obtain ⟨r, n, hr, hq, kr⟩ := run_float_any (P := Tryd.prog) .quo (.inr (.inr (.inr rfl))) 30 .f32 0 0 w
    have hnr : isNaN Ieee.single r = true := by
      rcases hq with h | h
      · exact absurd h (by rw [show floatBits .quo .f32 0 0 = none by decide]; intro h; cases h)
      · exact h.2
    have Hr := Lib.hid (show (Lit.float .f32 r).wf = true ∧ fmtL r = s.data.toList from ⟨hr, by rw [fmt_nan hnr, Hx.out]⟩)
    clear hr hq hnr
    go_enter Tryd.func30, Tryd.ntmps30
    go_wp2_with fail
    go_ret2
    exact ⟨r, true, Hr.out.1, rfl, .inl ⟨rfl, Hr.out.2⟩, below_dr (Below.refl _ _) _⟩
  · have e1 : (s.toList == [110, 97, 110]) = false := by rw [hsd]; exact beq_eq_false_iff_ne.2 hnan
    have hlen : s.data.toList.length = s.size := Array.length_toList
    by_cases h2 : 2 ≤ s.size
    · by_cases h20 : s.size ≤ 20
      · have i2 : ¬ (s.size : Int) < 2 := by omega
        have i20 : ¬ (20 : Int) < s.size := by omega
        have i1 : (1 : Int) ≤ s.size := by omega
        have Hc := Lib.hid (fun y (h : fmtL y = s.data.toList) => fmt_cut (y := y) hnan h)
        have hqi : floatBits .quo .f32 1065353216 0 = some 2139095040 := by decide
        have ki := fun w => run_float_arith (P := Tryd.prog) w .quo 30 .f32 _ _ _ hqi
        obtain ⟨g, hg⟩ : ∃ g, g = s.extract 0 1 := ⟨_, rfl⟩
        obtain ⟨A, hA⟩ : ∃ A, A = s.extract 1 s.size := ⟨_, rfl⟩
        have Hst := Lib.hid (signed_text hg h2)
        have hAd : A.toList = A.data.toList := Lib.toList_data A
        have hAl : A.data.toList = s.data.toList.drop 1 := by rw [hA, Lib.extract_to_end]
        have Hg := Lib.hid (And.intro hg hA)
        rw [← hg, ← hA] at Hc
        have hAt : (s.extract 1 s.size).toList = A.toList := by rw [hA]
        clear hqi hnan hsd hg hA hlen
        by_cases hinf : A.data.toList = [105, 110, 102]
        · have e2 : ((s.extract 1 s.size).toList == [105, 110, 102]) = true := by rw [hAt, hAd, hinf]; rfl
          have wx := Sgd.out_lt g 2139095040 (by decide)
          have Hx := Lib.hid (show (((Sgd.out g 2139095040).2 = true ∧ fmtL (Sgd.out g 2139095040).1 = s.data.toList) ∨ ((Sgd.out g 2139095040).2 = false ∧ (Sgd.out g 2139095040).1 = 0 ∧ ∀ y, y < 4294967296 → fmtL y ≠ s.data.toList)) from by
            cases hok : (Sgd.out g 2139095040).2
            · refine .inr ⟨rfl, Hst.out.2.2 _ hok, fun y hy h => ?_⟩
              obtain ⟨ny, h1, h2⟩ := Hc.out y h
              rw [sgd_inf (lt_w hy) (body_is_inf ny (by rw [← h2, hinf])) g h1] at hok
              cases hok
            · exact .inl ⟨rfl, Hst.out.1 (by rw [← hAl, hinf]) hok⟩)
          have c1 := fun w => Sgd.spec_any g 2139095040 w
          generalize (Sgd.out g 2139095040).1 = x at *
          generalize (Sgd.out g 2139095040).2 = ok at *
          have Hw := Lib.hid wx
          clear hinf hAd wx hAl hAt
          rw [Hg.out.1] at c1
          go_enter Tryd.func30, Tryd.ntmps30
          go_wp2_with fail
          refine (c1 _).mono ?_
          rintro e w2 ⟨rfl, hw2⟩
          subst w2
          go_wp2_with fail
          go_ret2
          exact ⟨x, ok, Hw.out, rfl, Hx.out, Below.refl _ _⟩
        · have e2 : ((s.extract 1 s.size).toList == [105, 110, 102]) = false := by rw [hAt, hAd]; exact beq_eq_false_iff_ne.2 hinf
          by_cases hzero : A.data.toList = [48]
          · have e3 : ((s.extract 1 s.size).toList == [48]) = true := by rw [hAt, hAd, hzero]; rfl
            have wx := Sgd.out_lt g 0 (by decide)
            have Hx := Lib.hid (show (((Sgd.out g 0).2 = true ∧ fmtL (Sgd.out g 0).1 = s.data.toList) ∨ ((Sgd.out g 0).2 = false ∧ (Sgd.out g 0).1 = 0 ∧ ∀ y, y < 4294967296 → fmtL y ≠ s.data.toList)) from by
              cases hok : (Sgd.out g 0).2
              · refine .inr ⟨rfl, Hst.out.2.2 _ hok, fun y hy h => ?_⟩
                obtain ⟨ny, h1, h2⟩ := Hc.out y h
                rw [sgd_zero (lt_w hy) (body_is_zero ny (by rw [← h2, hzero])) g h1] at hok
                cases hok
              · exact .inl ⟨rfl, Hst.out.2.1 (by rw [← hAl, hzero]) hok⟩)
            have c1 := fun w => Sgd.spec_any g 0 w
            generalize (Sgd.out g 0).1 = x at *
            generalize (Sgd.out g 0).2 = ok at *
            have Hw := Lib.hid wx
            clear hinf hAd wx hAl hzero hAt
            rw [Hg.out.1] at c1
            go_enter Tryd.func30, Tryd.ntmps30
            go_wp2_with fail
            refine (c1 _).mono ?_
            rintro e w2 ⟨rfl, hw2⟩
            subst w2
            go_wp2_with fail
            go_ret2
            exact ⟨x, ok, Hw.out, rfl, Hx.out, Below.refl _ _⟩
          · have e3 : ((s.extract 1 s.size).toList == [48]) = false := by rw [hAt, hAd]; exact beq_eq_false_iff_ne.2 hzero
            have Hk := Lib.hid (show ∀ y, y < 4294967296 → fmtL y = s.data.toList → Some' y ∧ g.toList = sgL y ∧ s.data.toList.drop 1 = Lib.decDigits (mOf y) ++ 112 :: Lib.itoa (eOf y) from fun y hy h => by
              obtain ⟨ny, h1, h2⟩ := Hc.out y h
              rw [← hAl]
              rcases kinds ny with k | k | k
              · rw [body_inf k] at h2; exact absurd h2 hinf
              · rw [body_zero k] at h2; exact absurd h2 hzero
              · rw [body_some k, itoa_pos] at h2
                exact ⟨k, h1, h2⟩)
            clear hinf hAd hzero hAl hAt
            go_enter Tryd.func30, Tryd.ntmps30
            go_wp2_with fail
            go_loopw [10] (fun pv wr => ∃ p : Nat, 1 ≤ p ∧ p ≤ s.size ∧ Hid (∀ j, 1 ≤ j → j < p → Dec.byt s j ≠ 112) ∧ pv = .int .i64 (p : Int) ∧ wr = w) (fun pv _ => s.size - (intOf pv).toNat)
            case atStart => exact ⟨1, Nat.le_refl _, by omega, (fun j h1 h2 => by omega), rfl, rfl⟩
            case round =>
              obtain ⟨p, hp1, hps, hno, rfl, hwr⟩ := hrel
              subst wr
              by_cases hlt : p < s.size
              · have hlt' : (p : Int) < s.size := by omega
                obtain ⟨c, hc, hcb, hidx⟩ := Dec.idx_run s p hlt (p : Int) rfl
                have Hcc := Lib.hid hc
                clear hc
                by_cases h112 : c = 112
                · have q1 : ((c : Int) == 112) = true := by rw [beq_iff_eq]; omega
                  have q2 : ((c : Int) != 112) = false := by rw [bne, q1]; rfl
                  have Hca := Lib.hid (cut_at hp1 hlt (by rw [← Hcc.out]; exact h112))
                  have Hna := Lib.hid (show ∀ x ∈ (s.extract 1 p).data.toList, x ≠ 112 by rw [Lib.extract_data]; exact range_ne hno.out)
                  clear h112
                  by_cases hp2 : p + 1 < s.size
                  · have hp2' : (p : Int) + 1 < s.size := by omega
                    have hrs : 0 < (s.extract (p + 1) s.size).size := by rw [Dec.extract_size]; omega
                    have j1 : (1 : Int) ≤ p := by omega
                    have j2 : (p : Int) ≤ s.size := by omega
                    have j3 : (p : Int) + 1 ≤ s.size := by omega
                    have Hp := Lib.hid (show ∀ y, y < 4294967296 → fmtL y = s.data.toList → Some' y ∧ (s.extract 1 p).data.toList = Lib.decDigits (mOf y) ∧ (s.extract (p + 1) s.size).data.toList = Lib.itoa (eOf y) from fun y hy h => by
                      obtain ⟨k, _, h1⟩ := Hk.out y hy h
                      rw [Hca.out] at h1
                      obtain ⟨p1, p2⟩ := split_p Hna.out (dec_no_p _) h1
                      exact ⟨k, p1, p2⟩)
                    obtain ⟨m, mok, cm, hm1, hm2, hml⟩ := use_parse (s.extract 1 p)
                    have Hm := Lib.hid (show ∀ y, y < 4294967296 → fmtL y = s.data.toList → m = mOf y ∧ mok = true from fun y hy h => by
                      obtain ⟨k, h1, _⟩ := Hp.out y hy h
                      have hp := parts k
                      rw [hm1, hm2, h1, out_dec (by omega)]
                      exact ⟨rfl, rfl⟩)
                    have Hrs := Lib.hid (And.intro hrs (Dec.extract_size s (p + 1)))
                    obtain ⟨d, hd, hdb, hidx2⟩ := Dec.idx_run (s.extract (p + 1) s.size) 0 hrs 0 rfl
                    have Hd := Lib.hid hd
                    clear hd hm1 hm2
                    have hrz : (1 : Int) ≤ (s.extract (p + 1) s.size).size := by omega
                    go_wp2_with fail
                    ((with_reducible refine (cm _).mono ?_))
                    rintro e w3 ⟨rfl, hb3⟩
                    have Hb3 := Lib.hid hb3
                    clear hb3 cm
                    by_cases h45 : d = 45
                    · have q3 : ((d : Int) == 45) = true := by rw [beq_iff_eq]; omega
                      obtain ⟨v, vok, cv, hv1, hv2, hvl⟩ := use_parse ((s.extract (p + 1) s.size).extract 1 (s.size - (p + 1)))
                      have Hv := Lib.hid (show ∀ y, y < 4294967296 → fmtL y = s.data.toList → (-(v : Int)) = eOf y ∧ vok = true from fun y hy h => by
                        obtain ⟨k, _, h1⟩ := Hp.out y hy h
                        have hp := parts k
                        rw [hv1, hv2]
                        exact (exp_out Hrs.out.1 Hrs.out.2 ⟨by omega, by omega⟩ h1).1 (by rw [← Hd.out]; omega))
                      clear hv1 hv2
                      cases mok with
                      | false =>
                        go_wp2_with fail
                        ((with_reducible refine (cv _).mono ?_))
                        rintro e w4 ⟨rfl, hb4⟩
                        have Hb4 := Lib.hid (Hb3.out.trans (hb4.mono Hb3.out.size))
                        clear hb4 cv
                        go_wp2_with fail
                        go_ret2
                        exact prs_no (fun y hy h => by have := (Hm.out y hy h).2; cases this) Hb4.out
                      | true =>
                        cases vok with
                        | false =>
                          go_wp2_with fail
                          ((with_reducible refine (cv _).mono ?_))
                          rintro e w4 ⟨rfl, hb4⟩
                          have Hb4 := Lib.hid (Hb3.out.trans (hb4.mono Hb3.out.size))
                          clear hb4 cv
                          go_wp2_with fail
                          go_ret2
                          exact prs_no (fun y hy h => by have := (Hv.out y hy h).2; cases this) Hb4.out
                        | true =>
                          go_wp2_with fail
                          ((with_reducible refine (cv _).mono ?_))
                          rintro e w4 ⟨rfl, hb4⟩
                          have Hb4 := Lib.hid (Hb3.out.trans (hb4.mono Hb3.out.size))
                          clear hb4 cv
                          obtain ⟨x, ok, wx, c1, hmk⟩ := use_make (s.extract 0 1) m (-(v : Int))
                          have Hx := Lib.hid (show ∀ y, y < 4294967296 → fmtL y = s.data.toList → ok = true ∧ fmtL x = s.data.toList from fun y hy h => by
                            obtain ⟨k, h1, _⟩ := Hk.out y hy h
                            rw [(Hm.out y hy h).1, (Hv.out y hy h).1, made_some (lt_w hy) k _ (by rw [← Hg.out.1]; exact h1)] at hmk
                            injection hmk with q1 q2
                            exact ⟨q2.symm, by rw [← q1]; exact h⟩)
                          have Hw := Lib.hid wx
                          clear wx hmk
                          go_wp2_with fail
                          ((with_reducible refine (c1 _).mono ?_))
                          rintro e w5 ⟨rfl, n5, hw5⟩
                          have Hb5 := Lib.hid (show Below w.heap.size w w5 by rw [hw5]; exact below_dr Hb4.out _)
                          clear hw5 c1
                          cases ok with
                          | false =>
                            go_wp2_with fail
                            go_ret2
                            exact prs_no (fun y hy h => by have := (Hx.out y hy h).1; cases this) Hb5.out
                          | true =>
                            obtain ⟨f, c2, hf⟩ := use_fmt x Hw.out
                            have hsd : s.toList = s.data.toList := Lib.toList_data s
                            by_cases hq : fmtL x = s.data.toList
                            · have q1 : (f.toList == s.toList) = true := by rw [hf, hsd, hq]; exact beq_self_eq_true _
                              have q2 : (f.toList != s.toList) = false := by rw [bne, q1]; rfl
                              have Hq := Lib.hid hq
                              clear hf hsd hq
                              go_wp2_with fail
                              ((with_reducible refine (c2 _).mono ?_))
                              rintro e w6 ⟨rfl, hb6⟩
                              have Hb6 := Lib.hid (Hb5.out.trans (hb6.mono Hb5.out.size))
                              clear hb6 c2
                              go_wp2_with fail
                              go_ret2
                              exact ⟨x, true, Hw.out, rfl, .inl ⟨rfl, Hq.out⟩, Hb6.out⟩
                            · have q1 : (f.toList == s.toList) = false := by rw [hf, hsd]; exact beq_eq_false_iff_ne.2 hq
                              have q2 : (f.toList != s.toList) = true := by rw [bne, q1]; rfl
                              have Hq := Lib.hid hq
                              clear hf hsd hq
                              go_wp2_with fail
                              ((with_reducible refine (c2 _).mono ?_))
                              rintro e w6 ⟨rfl, hb6⟩
                              have Hb6 := Lib.hid (Hb5.out.trans (hb6.mono Hb5.out.size))
                              clear hb6 c2
                              go_wp2_with fail
                              go_ret2
                              exact prs_no (fun y hy h => Hq.out (Hx.out y hy h).2) Hb6.out
                    · have q3 : ((d : Int) == 45) = false := by rw [beq_eq_false_iff_ne]; omega
                      obtain ⟨v, vok, cv, hv1, hv2, hvl⟩ := use_parse (s.extract (p + 1) s.size)
                      have Hv := Lib.hid (show ∀ y, y < 4294967296 → fmtL y = s.data.toList → (v : Int) = eOf y ∧ vok = true from fun y hy h => by
                        obtain ⟨k, _, h1⟩ := Hp.out y hy h
                        have hp := parts k
                        rw [hv1, hv2]
                        exact (exp_out Hrs.out.1 Hrs.out.2 ⟨by omega, by omega⟩ h1).2 (by rw [← Hd.out]; omega))
                      clear hv1 hv2
                      cases mok with
                      | false =>
                        go_wp2_with fail
                        ((with_reducible refine (cv _).mono ?_))
                        rintro e w4 ⟨rfl, hb4⟩
                        have Hb4 := Lib.hid (Hb3.out.trans (hb4.mono Hb3.out.size))
                        clear hb4 cv
                        go_wp2_with fail
                        go_ret2
                        exact prs_no (fun y hy h => by have := (Hm.out y hy h).2; cases this) Hb4.out
                      | true =>
                        cases vok with
                        | false =>
                          go_wp2_with fail
                          ((with_reducible refine (cv _).mono ?_))
                          rintro e w4 ⟨rfl, hb4⟩
                          have Hb4 := Lib.hid (Hb3.out.trans (hb4.mono Hb3.out.size))
                          clear hb4 cv
                          go_wp2_with fail
                          go_ret2
                          exact prs_no (fun y hy h => by have := (Hv.out y hy h).2; cases this) Hb4.out
                        | true =>
                          go_wp2_with fail
                          ((with_reducible refine (cv _).mono ?_))
                          rintro e w4 ⟨rfl, hb4⟩
                          have Hb4 := Lib.hid (Hb3.out.trans (hb4.mono Hb3.out.size))
                          clear hb4 cv
                          obtain ⟨x, ok, wx, c1, hmk⟩ := use_make (s.extract 0 1) m (v : Int)
                          have Hx := Lib.hid (show ∀ y, y < 4294967296 → fmtL y = s.data.toList → ok = true ∧ fmtL x = s.data.toList from fun y hy h => by
                            obtain ⟨k, h1, _⟩ := Hk.out y hy h
                            rw [(Hm.out y hy h).1, (Hv.out y hy h).1, made_some (lt_w hy) k _ (by rw [← Hg.out.1]; exact h1)] at hmk
                            injection hmk with q1 q2
                            exact ⟨q2.symm, by rw [← q1]; exact h⟩)
                          have Hw := Lib.hid wx
                          clear wx hmk
                          go_wp2_with fail
                          ((with_reducible refine (c1 _).mono ?_))
                          rintro e w5 ⟨rfl, n5, hw5⟩
                          have Hb5 := Lib.hid (show Below w.heap.size w w5 by rw [hw5]; exact below_dr Hb4.out _)
                          clear hw5 c1
                          cases ok with
                          | false =>
                            go_wp2_with fail
                            go_ret2
                            exact prs_no (fun y hy h => by have := (Hx.out y hy h).1; cases this) Hb5.out
                          | true =>
                            obtain ⟨f, c2, hf⟩ := use_fmt x Hw.out
                            have hsd : s.toList = s.data.toList := Lib.toList_data s
                            by_cases hq : fmtL x = s.data.toList
                            · have q1 : (f.toList == s.toList) = true := by rw [hf, hsd, hq]; exact beq_self_eq_true _
                              have q2 : (f.toList != s.toList) = false := by rw [bne, q1]; rfl
                              have Hq := Lib.hid hq
                              clear hf hsd hq
                              go_wp2_with fail
                              ((with_reducible refine (c2 _).mono ?_))
                              rintro e w6 ⟨rfl, hb6⟩
                              have Hb6 := Lib.hid (Hb5.out.trans (hb6.mono Hb5.out.size))
                              clear hb6 c2
                              go_wp2_with fail
                              go_ret2
                              exact ⟨x, true, Hw.out, rfl, .inl ⟨rfl, Hq.out⟩, Hb6.out⟩
                            · have q1 : (f.toList == s.toList) = false := by rw [hf, hsd]; exact beq_eq_false_iff_ne.2 hq
                              have q2 : (f.toList != s.toList) = true := by rw [bne, q1]; rfl
                              have Hq := Lib.hid hq
                              clear hf hsd hq
                              go_wp2_with fail
                              ((with_reducible refine (c2 _).mono ?_))
                              rintro e w6 ⟨rfl, hb6⟩
                              have Hb6 := Lib.hid (Hb5.out.trans (hb6.mono Hb5.out.size))
                              clear hb6 c2
                              go_wp2_with fail
                              go_ret2
                              exact prs_no (fun y hy h => Hq.out (Hx.out y hy h).2) Hb6.out
                  · have hp2' : ¬ (p : Int) + 1 < s.size := by omega
                    have Hno2 := Lib.hid (show ∀ y, y < 4294967296 → fmtL y ≠ s.data.toList from fun y hy h => by
                      obtain ⟨k, _, h1⟩ := Hk.out y hy h
                      rw [Hca.out] at h1
                      obtain ⟨p1, p2⟩ := split_p Hna.out (dec_no_p _) h1
                      have : (s.extract (p + 1) s.size).data.toList = [] := by rw [Lib.extract_to_end]; exact List.drop_eq_nil_of_le (by rw [Array.length_toList]; show s.size ≤ p + 1; omega)
                      rw [this] at p2
                      exact itoa_some _ p2.symm)
                    go_wp2_with fail
                    go_ret2
                    exact prs_no Hno2.out (Below.refl _ _)
                · have q1 : ((c : Int) == 112) = false := by rw [beq_eq_false_iff_ne]; omega
                  have q2 : ((c : Int) != 112) = true := by rw [bne, q1]; rfl
                  have Hn := Lib.hid (show ∀ j, 1 ≤ j → j < p + 1 → Dec.byt s j ≠ 112 from fun j h1 h2 => by
                    by_cases e : j = p
                    · subst e; rw [← Hcc.out]; exact h112
                    · exact hno.out j h1 (by omega))
                  clear h112
                  go_wp2_with fail
                  go_roundw
                  case rel => exact ⟨p + 1, by omega, hlt, Hn.out, by go_num, trivial⟩
                  case measure => simp [intOf]; omega
              · have hlt' : ¬ (p : Int) < s.size := by omega
                have Hno2 := Lib.hid (show ∀ y, y < 4294967296 → fmtL y ≠ s.data.toList from fun y hy h => by
                  obtain ⟨k, _, h1⟩ := Hk.out y hy h
                  exact no_p (fun j j1 j2 => hno.out j j1 (by omega)) 112 (by rw [h1]; exact List.mem_append_right _ (List.mem_cons_self ..)) rfl)
                go_wp2_with fail
                go_ret2
                exact prs_no Hno2.out (Below.refl _ _)
      · have i2 : ¬ (s.size : Int) < 2 := by omega
        have i20 : (20 : Int) < s.size := by omega
        have Hno := Lib.hid (show ∀ y, y < 4294967296 → fmtL y ≠ s.data.toList from fun y hy h => by
          have := (fmt_len (x := y)).2
          rw [h, hlen] at this
          omega)
        clear hnan hsd hlen
        go_enter Tryd.func30, Tryd.ntmps30
        go_wp2_with fail
        go_ret2
        exact prs_no Hno.out (Below.refl _ _)
    · have i2 : (s.size : Int) < 2 := by omega
      have Hno := Lib.hid (show ∀ y, y < 4294967296 → fmtL y ≠ s.data.toList from fun y hy h => by
        have := (fmt_len (x := y)).1
        rw [h, hlen] at this
        omega)
      clear hnan hsd hlen
      go_enter Tryd.func30, Tryd.ntmps30
      go_wp2_with fail
      go_ret2
      exact prs_no Hno.out (Below.refl _ _)
end Go.Proofs.YtgfeahammmfdaaaDoor.Sng
