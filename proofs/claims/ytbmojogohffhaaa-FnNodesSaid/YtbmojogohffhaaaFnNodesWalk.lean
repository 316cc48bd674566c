/- The walk of FnNodes: it returns true. -/
import Derived.Test.YtbmojogohffhaaaRows
import Derived.Test.YtbmojogohffhaaaTabX
namespace Go.Proofs.Ytbmojogohffhaaa.fnNodes
open Go.ChangeShapes Go.WideShapes Go.ChangeAt Go.RowKit Go.Proofs.Ytbmojogohffhaaa Go.Proofs.Ytbmojogohffhaaa.Flt Go.Proofs.Ytbmojogohffhaaa.Mth Go.Proofs.Ytbmojogohffhaaa.Pnt
open Ieee (single double)
set_option linter.unusedVariables false
set_option maxRecDepth 100000 in
set_option maxHeartbeats 1600000 in
theorem walk (a : Option Addr) (len cap : Nat) (zs : List Int) (w : World) (hr : IsRow .u8 w a len cap zs) :
    Calls Try.prog 3 #[.slice a len cap] w fun x w' => x = .returned (.bool true) ∧ Below w.heap.size w w' := by
  by_cases hl : (len : Int) ≤ 1048576
  · go_enter Try.func3, Try.ntmps3
    go_wp2_with fail
    refine (Drw.big_no _ _ _ _ hl).mono ?_
    rintro e w ⟨rfl, rfl⟩
    go_wp2_with fail
    refine (draw_table a len cap zs _ hr).mono ?_
    rintro e w1 ⟨g, n, cp, X, x, rfl, n1, n2, hok, hwf, hg, hglt, hcells, wx, hb, hat⟩
    have HX := Lib.hid (And.intro hok (And.intro hwf hat))
    have H1 := Lib.hid (And.intro hcells (And.intro hb (show Lst w1 (some ⟨g, 0, none⟩) n X from ⟨hwf, .inr ⟨g, 0, rfl, hglt, hcells⟩⟩)))
    have hln : n ≤ 1048576 := by omega
    have hsz1 := hb.size
    clear hok hwf hcells hb hat hr
    go_wp2_with fail
    refine (implTab _ _ _ X _ hln H1.out.2.2).mono ?_
    rintro e w2 ⟨rfl, hb2⟩
    rw [HX.out.1]
    have H2 := Lib.hid (And.intro (H1.out.1.keep hglt hb2) (And.intro (H1.out.2.1.trans (hb2.mono hsz1)) (H1.out.2.2.keep hb2)))
    have hglt2 := Nat.lt_of_lt_of_le hglt hb2.size
    clear hb2
    go_wp2_with fail
    have hszw : w.heap.size ≤ w2.heap.size := H2.out.2.1.size
    have Hlt2 := Lib.hid hglt2
    go_loopw [5, 6] (fun nv iv wr => ∃ (k : Nat) (c : Bool), nv = .bool c ∧ iv = .int .i64 (k : Int) ∧ k ≤ n ∧ Hid (c = false → ∀ j, j < k → eqB (X (j * 2)) x = false) ∧ Hid (c = true → ∃ j, j < n ∧ eqB (X (j * 2)) x = true) ∧ Below w2.heap.size w2 wr)
      (fun _ iv _ => n - (intOf iv).toNat)
    case atStart => exact ⟨0, false, rfl, rfl, Nat.zero_le _, Lib.hid (fun _ j hj => absurd hj (Nat.not_lt_zero _)), Lib.hid (fun h => by cases h), Below.refl _ _⟩
    case round =>
      obtain ⟨k, c, rfl, rfl, hk, hno, hyes, hbel⟩ := hrel
      have Hbel := Lib.hid hbel
      have hszr := hbel.size
      have HL := Lib.hid (H2.out.2.2.keep hbel)
      have Hcc := Lib.hid (H2.out.1.keep Hlt2.out hbel)
      by_cases hkn : k < n
      · have hkn' : (k : Int) < (n : Int) := by omega
        have hin := node_in HX.out.1 hkn
        have hval := node_val HX.out.1 hkn
        have wy := (HX.out.2.1 k hkn).2
        obtain ⟨a0, a1⟩ := Hcc.out k hkn
        rw [Nat.zero_add] at a0 a1
        have Hin := Lib.hid (And.intro hin hval)
        obtain ⟨d, hd⟩ : ∃ d, eqB (X (k * 2)) x = d := ⟨_, rfl⟩
        have Hd := Lib.hid hd
        unfold eqB at hd
        clear hbel hin hval
        go_wp2_with fail
        refine (implItp _ _ _ X _ _ hln HL.out).mono ?_
        rintro e w3 ⟨rfl, hb3⟩
        rw [Hin.out.1, Hin.out.2]
        obtain ⟨b0, b1⟩ := (Hcc.out.keep (Nat.lt_of_lt_of_le Hlt2.out hszr) hb3) k hkn
        rw [Nat.zero_add] at b0 b1
        have H3 := Lib.hid (Hbel.out.trans (hb3.mono hszr))
        clear hb3 a0 a1
        go_wp2_with fail
        refine (same32_any _ _ _ wy wy).mono ?_
        rintro e w4 ⟨rfl, q, hw4⟩
        rw [sameW_refl]
        have H4 := Lib.hid (show Below w2.heap.size w2 w4 from by rw [hw4]; exact below_drewN H3.out q)
        have c0 : w4.cell? ⟨g, k * 2, none⟩ = some (.float .f32 (X (k * 2))) := by rw [hw4]; exact b0
        clear hw4 b0 b1
        have Hno2 := Lib.hid (show (c || d) = false → ∀ j, j < k + 1 → eqB (X (j * 2)) x = false from fun hcd j hj => by
          rw [Bool.or_eq_false_iff] at hcd
          by_cases e : j = k
          · rw [e, Hd.out]; exact hcd.2
          · exact hno.out hcd.1 j (by omega))
        have Hyes2 := Lib.hid (show (c || d) = true → ∃ j, j < n ∧ eqB (X (j * 2)) x = true from fun hcd => by
          rw [Bool.or_eq_true] at hcd
          rcases hcd with h | h
          · exact hyes.out h
          · exact ⟨k, hkn, by rw [Hd.out]; exact h⟩)
        cases c
        · cases d
          · go_wp2_with fail
            go_roundw
            case rel => exact ⟨k + 1, false, rfl, by go_num, hkn, Lib.hid (fun _ => Hno2.out rfl), Lib.hid (fun h => by cases h), H4.out⟩
            case measure => simp [intOf]; omega
          · go_wp2_with fail
            go_roundw
            case rel => exact ⟨k + 1, true, rfl, by go_num, hkn, Lib.hid (fun h => by cases h), Lib.hid (fun _ => Hyes2.out rfl), H4.out⟩
            case measure => simp [intOf]; omega
        · go_wp2_with fail
          go_roundw
          case rel => exact ⟨k + 1, true, rfl, by go_num, hkn, Lib.hid (fun h => by cases h), Lib.hid (fun _ => Hyes2.out rfl), H4.out⟩
          case measure => simp [intOf]; omega
      · obtain rfl : k = n := by omega
        have hkn' : ¬ (k : Int) < (k : Int) := by omega
        clear hbel
        cases hin : segIn k X x
        · have Hs := Lib.hid (segV_out hin)
          have Hin := Lib.hid hin
          clear hin
          go_wp2_with fail
          refine (implSeg _ _ _ X x _ hln HL.out).mono ?_
          rintro e w3 ⟨rfl, hb3⟩
          rw [Hs.out]
          have H3 := Lib.hid (And.intro (Hbel.out.trans (hb3.mono hszr)) (HL.out.keep hb3))
          clear hb3
          go_wp2_with fail
          refine (implItp _ _ _ X x _ hln H3.out.2).mono ?_
          rintro e w4 ⟨rfl, hb4⟩
          rw [Hin.out]
          have H4 := Lib.hid (show Below w.heap.size w w4 from H2.out.2.1.trans ((H3.out.1.trans (hb4.mono H3.out.1.size)).mono hszw))
          clear hb4
          cases c
          · go_wp2_with fail
            go_ret
            exact ⟨rfl, H4.out⟩
          · go_wp2_with fail
            go_ret
            exact ⟨rfl, H4.out⟩
        · obtain ⟨q, hq⟩ : ∃ q, segN k X x = q := ⟨_, rfl⟩
          have Hs := Lib.hid (show segV k X x = (q : Int) by rw [segV_in hin, hq])
          have Hin := Lib.hid hin
          have hq0 : (0 : Int) ≤ (q : Int) := by omega
          cases c
          · obtain ⟨bq, bs, ba, bor⟩ := between hin hq (hno.out rfl)
            have ks := fun W => run_float_arith (P := Try.prog) W .sub 25 .f32 _ _ _ bs
            have ka := fun W => run_float_arith (P := Try.prog) W .add 25 .f32 _ _ _ ba
            obtain ⟨v, hv⟩ : ∃ v, ipV k X x = v := ⟨_, rfl⟩
            have Hv := Lib.hid hv
            rw [hv] at bor
            have hw1 : IntKind.i64.wrap ((q : Int) + 1) = ((q + 1 : Nat) : Int) := by rw [IntKind.wrap_i64]; omega
            have hqk : q < k := by omega
            clear hin hq bs ba hv
            go_wp2_with fail
            refine (implSeg _ _ _ X x _ hln HL.out).mono ?_
            rintro e w3 ⟨rfl, hb3⟩
            rw [Hs.out]
            have H3 := Lib.hid (And.intro (Hbel.out.trans (hb3.mono hszr)) (And.intro (HL.out.keep hb3) (Hcc.out.keep (Nat.lt_of_lt_of_le Hlt2.out hszr) hb3)))
            have hs3 := hb3.size
            clear hb3
            go_wp2_with fail
            refine (implItp _ _ _ X x _ hln H3.out.2.1).mono ?_
            rintro e w4 ⟨rfl, hb4⟩
            rw [Hin.out, Hv.out]
            have hcc4 := H3.out.2.2.keep (Nat.lt_of_lt_of_le (Nat.lt_of_lt_of_le Hlt2.out hszr) hs3) hb4
            obtain ⟨_, a1⟩ := hcc4 q hqk
            obtain ⟨_, b1⟩ := hcc4 (q + 1) bq
            rw [Nat.zero_add] at a1 b1
            have H4 := Lib.hid (show Below w.heap.size w w4 from H2.out.2.1.trans ((H3.out.1.trans (hb4.mono H3.out.1.size)).mono hszw))
            clear hb4 hcc4
            obtain ⟨y0, hy0⟩ : ∃ y, X (q * 2 + 1) = y := ⟨_, rfl⟩
            obtain ⟨y1, hy1⟩ : ∃ y, X ((q + 1) * 2 + 1) = y := ⟨_, rfl⟩
            rw [hy0] at a1 ks ka bor
            rw [hy1] at b1 ks ka bor
            obtain ⟨d, hd⟩ : ∃ d, subB y1 y0 = d := ⟨_, rfl⟩
            rw [hd] at ks ka bor
            obtain ⟨en, hen⟩ : ∃ en, addB y0 d = en := ⟨_, rfl⟩
            rw [hen] at ka bor
            clear hd hen hy0 hy1
            rcases bor with ⟨o1, o2, o3⟩ | ⟨o1, o2, o3, o4⟩
            · unfold geB at o1 o2
              unfold leB at o3
              go_wp2_with fail
              go_quiet (fail)
              go_wp2_with fail
              go_ret
              exact ⟨rfl, by (repeat refine below_drewN ?_ _); exact H4.out⟩
            · obtain ⟨c1, e1⟩ : ∃ c, geB v y0 = c := ⟨_, rfl⟩
              obtain ⟨c2, e2⟩ : ∃ c, leB v en = c := ⟨_, rfl⟩
              unfold geB at o1 o4 e1
              unfold leB at o2 o3 e2
              cases c1
              · go_wp2_with fail
                go_quiet (fail)
                go_wp2_with fail
                go_ret
                exact ⟨rfl, by (repeat refine below_drewN ?_ _); exact H4.out⟩
              · cases c2
                · go_wp2_with fail
                  go_quiet (fail)
                  go_wp2_with fail
                  go_ret
                  exact ⟨rfl, by (repeat refine below_drewN ?_ _); exact H4.out⟩
                · go_wp2_with fail
                  go_quiet (fail)
                  go_wp2_with fail
                  go_ret
                  exact ⟨rfl, by (repeat refine below_drewN ?_ _); exact H4.out⟩
          · clear hin hq
            go_wp2_with fail
            refine (implSeg _ _ _ X x _ hln HL.out).mono ?_
            rintro e w3 ⟨rfl, hb3⟩
            rw [Hs.out]
            have H3 := Lib.hid (And.intro (Hbel.out.trans (hb3.mono hszr)) (HL.out.keep hb3))
            clear hb3
            go_wp2_with fail
            refine (implItp _ _ _ X x _ hln H3.out.2).mono ?_
            rintro e w4 ⟨rfl, hb4⟩
            rw [Hin.out]
            have H4 := Lib.hid (show Below w.heap.size w w4 from H2.out.2.1.trans ((H3.out.1.trans (hb4.mono H3.out.1.size)).mono hszw))
            clear hb4
            go_wp2_with fail
            go_ret
            exact ⟨rfl, H4.out⟩
  · go_enter Try.func3, Try.ntmps3
    go_wp2_with fail
    refine (Drw.big_yes _ _ _ _ (by omega)).mono ?_
    rintro e w ⟨rfl, rfl⟩
    go_wp2_with fail
    go_ret
    exact ⟨rfl, Below.refl _ _⟩
end Go.Proofs.Ytbmojogohffhaaa.fnNodes
