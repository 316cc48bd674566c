/- The walk of FnPlusNothing: it returns true. -/
import Derived.Test.YtjkjgichneoflaaRows
import Derived.Test.YtjkjgichneoflaaExpKn
import Derived.Test.YtjkjgichneoflaaExpH
import Derived.Test.YtjkjgichneoflaaSameZ
namespace Go.Proofs.Ytjkjgichneoflaa.fnPlusNothing
open Go.ChangeShapes Go.WideShapes Go.ChangeAt Go.RowKit Go.Proofs.Ytjkjgichneoflaa Go.Proofs.Ytjkjgichneoflaa.Flt Go.Proofs.Ytjkjgichneoflaa.Mth Go.Proofs.Ytjkjgichneoflaa.Cpx Go.Proofs.Ytjkjgichneoflaa.Drw Go.Proofs.Ytjkjgichneoflaa.Ex
set_option linter.unusedVariables false
set_option maxRecDepth 20000 in
set_option maxHeartbeats 3200000 in
theorem walk (a : Option Addr) (len cap : Nat) (zs : List Int) (w : World) (hr : IsRow .u8 w a len cap zs) :
    Calls Try.prog 3 #[.slice a len cap] w fun x w' => x = .returned (.bool true) ∧ Below w.heap.size w w' := by
  by_cases hl : (len : Int) ≤ 1048576
  · obtain ⟨i0, hi, hz, hs, hby⟩ := info_partsN
    have Hi := Lib.hid (And.intro hi (And.intro hz (And.intro hs hby)))
    clear hi hz hs hby
    go_enter Try.func3, Try.ntmps3
    go_wp2_with fail
    refine (Drw.big_no _ _ _ _ hl).mono ?_
    rintro e w' ⟨rfl, rfl⟩
    go_wp2_with fail
    refine (drawExpr a len cap zs _ hr).mono ?_
    rintro e w1 ⟨g, cp, t, h, cq, sl, ⟨tok, tlen⟩, ⟨sl2, sl5, slw⟩, rfl, ⟨hc, hg, hcp⟩, ⟨hcz, hh⟩, hb1⟩
    have K1 := Lib.hid (show Kn w' g h t sl w1 from ⟨hc, hg, hcz, hh, hb1⟩)
    have hpos := pf_pos t
    have HT := Lib.hid (And.intro tok (And.intro tlen slw))
    clear hr hc hcz hb1 hg hh hcp tok slw
    have cE := fun W (k : Kn w' g h t sl W) => eval_tree g 0 cp h cq t sl W HT.out.1 (by have := HT.out.2.1; omega) k.c k.gl k.z k.hl HT.out.2.2
    have cM := fun W (k : Kn w' g h t sl W) => evalS_any g 0 cp h cq (pf t) sl W (Valid.tree HT.out.1 (by have := HT.out.2.1; omega)) k.c k.gl k.z k.hl HT.out.2.2
    have cP := fun W (k : Kn w' g h t sl W) g2 cp2 (l : Ls g2 (pf (.un 3 t)) W) => eval_tree g2 0 cp2 h cq (.un 3 t) sl W ⟨by omega, HT.out.1⟩ (by have := HT.out.2.1; show (pf t ++ [opN 3]).length ≤ 60; rw [List.length_append]; show _ + 1 ≤ 60; omega) l.c l.gl k.z k.hl HT.out.2.2
    have cN := fun W (k : Kn w' g h t sl W) g2 cp2 (l : Ls g2 (pf (.un 4 (.un 4 t))) W) => eval_tree g2 0 cp2 h cq (.un 4 (.un 4 t)) sl W ⟨by omega, by omega, HT.out.1⟩ (by have := HT.out.2.1; show (pf t ++ [opN 4] ++ [opN 4]).length ≤ 60; rw [List.length_append, List.length_append]; show _ + 1 + 1 ≤ 60; omega) l.c l.gl k.z k.hl HT.out.2.2
    rw [evL_tree sl HT.out.1] at cM
    rw [evT_plus HT.out.1] at cP
    rw [evT_minus HT.out.2.2 HT.out.1] at cN
    obtain ⟨n, hn⟩ : ∃ n, (pf t).length = n := ⟨_, rfl⟩
    have hn1 : (pf (.un 3 t)).length = n + 1 := by show (pf t ++ [opN 3]).length = _; rw [List.length_append, hn]; rfl
    have hn2 : (pf (.un 4 (.un 4 t))).length = n + 2 := by show (pf t ++ [opN 4] ++ [opN 4]).length = _; rw [List.length_append, List.length_append, hn]; rfl
    obtain ⟨m, hm⟩ : ∃ m, sl.length = m := ⟨_, rfl⟩
    rw [hn] at tlen hpos cE cM ⊢
    rw [hn1] at cP
    rw [hn2] at cN
    rw [hm] at sl2 sl5 cE cM cP cN ⊢
    have Hm := Lib.hid (And.intro hn (And.intro hn1 hn2))
    have HE := Lib.hid cE
    have HM := Lib.hid cM
    have HP := Lib.hid cP
    have HN := Lib.hid cN
    clear hn hm hn1 hn2 cM cP cN
    have e1 : ¬ (60 : Int) < (n : Int) + 2 := by omega
    have e2 : IntKind.i64.wrap ((n : Int) + 2) = (n : Int) + 2 := by rw [IntKind.wrap_i64]; omega
    have hn63 : 0 + n ≤ maxLen := by unfold maxLen; omega
    have hnby : (0 + n) * 32 ≤ 140737488355328 := by omega
    have hn63a : n + 1 ≤ maxLen := by unfold maxLen; omega
    have hnbya : (n + 1) * 32 ≤ 140737488355328 := by omega
    have hn63b : n + 2 ≤ maxLen := by unfold maxLen; omega
    have hnbyb : (n + 2) * 32 ≤ 140737488355328 := by omega
    have Hlt := Lib.hid (show (cN (pf t)).length = n * 3 by rw [cN_len, Hm.out.1])
    have hcall := cE _ K1.out
    clear cE
    cases ho : evT sl t with
    | none =>
      have Ho := Lib.hid ho
      clear ho
      go_wp2_with fail
      refine (ans_none hcall Ho.out).mono ?_
      rintro e w2 ⟨rfl, hb2⟩
      have K2 := Lib.hid (K1.out.next hb2)
      have Ha := Lib.hid (show CellsN (w2.alloc (.cells #[] 33)) g 0 (pf t) from K2.out.c.keep K2.out.gl (below_new w2 _))
      clear hb2 hcall
      go_wp2_with (first
        | (at_builtin; refine wpList_append_lies _ rfl (.tmp 34) (.tmp 35) 24 rfl w2.heap.size 33 i0 (.agg #[.int .i64 0, .int .i64 0, .complex .f64 0 0]) 3 32 Try.underlying24 Hi.out.1 Hi.out.2.1 Hi.out.2.2.1 Hi.out.2.2.2 rfl (by decide) (.slice (some ⟨w2.heap.size, 0, none⟩) 0 0) 0 [] rfl (litN0 w2) ⟨g, 0, none⟩ n cp (cN (pf t)) rfl Hlt.out Ha.out.flat (all_oneN _) (by omega) hn63 hnby (below_new w2 _).size _ rfl ?_; intro g5 cp5 w5 hown5 hgrow5 hat5 hlt5; have H5 := Lib.hid (own_copy (W := w2) hown5 ((below_new w2 _).grown hgrow5 (below_new w2 _).size (fun q hq => (World.ownsRow.lt (litN0 w2) q hq).1))); clear hown5 hgrow5 hat5 hlt5; have hs5 := H5.out.2.size; have Hown5 := Lib.hid (World.ownsRow.alloc H5.out.1 (.cells #[.int .i64 3, .int .i64 0, .complex .f64 0 0] 33)); have hbs5 := alloc_ge' (.cells #[.int .i64 3, .int .i64 0, .complex .f64 0 0] 33) hs5)
        | (at_builtin; refine wpList_append_lies _ rfl (.tmp 36) (.tmp 38) 24 rfl w2.heap.size 33 i0 (.agg #[.int .i64 0, .int .i64 0, .complex .f64 0 0]) 3 32 Try.underlying24 Hi.out.1 Hi.out.2.1 Hi.out.2.2.1 Hi.out.2.2.2 rfl (by decide) (.slice (some ⟨g5, 0, none⟩) n cp5) n (cN (pf t)) rfl Hown5.out ⟨w5.heap.size, 0, none⟩ 1 1 (Nd.l (opN 3)) rfl rfl (one_cellN w5 (opN 3)) (one_oneN (opN 3)) (by omega) hn63a hnbya hbs5 _ rfl ?_; intro g6 cp6 w6 hown6 hgrow6 hat6 hlt6; have H6 := Lib.hid (own_one (W := w2) hown6 ((H5.out.2.alloc hs5 _).grown hgrow6 hbs5 (fun q hq => (Hown5.out.lt q hq).1))); clear hown6 hgrow6 hat6 hlt6; have K6 := Lib.hid (K2.out.next H6.out.2); have L6 := Lib.hid (H6.out.1.ls Hm.out.2.1); have Ha6 := Lib.hid (K6.out.c.keep K6.out.gl (below_new w6 (.cells #[] 33))))
        | (at_builtin; refine wpList_append_lies _ rfl (.tmp 40) (.tmp 41) 24 rfl w6.heap.size 33 i0 (.agg #[.int .i64 0, .int .i64 0, .complex .f64 0 0]) 3 32 Try.underlying24 Hi.out.1 Hi.out.2.1 Hi.out.2.2.1 Hi.out.2.2.2 rfl (by decide) (.slice (some ⟨w6.heap.size, 0, none⟩) 0 0) 0 [] rfl (litN0 w6) ⟨g, 0, none⟩ n cp (cN (pf t)) rfl Hlt.out Ha6.out.flat (all_oneN _) (by omega) hn63 hnby (below_new w6 _).size _ rfl ?_; intro g7 cp7 w7 hown7 hgrow7 hat7 hlt7; have H7 := Lib.hid (own_copy (W := w6) hown7 ((below_new w6 _).grown hgrow7 (below_new w6 _).size (fun q hq => (World.ownsRow.lt (litN0 w6) q hq).1))); clear hown7 hgrow7 hat7 hlt7; have hs7 := H7.out.2.size; have Hown7 := Lib.hid (World.ownsRow.alloc H7.out.1 (.cells #[.int .i64 4, .int .i64 0, .complex .f64 0 0, .int .i64 4, .int .i64 0, .complex .f64 0 0] 33)); have hbs7 := alloc_ge' (.cells #[.int .i64 4, .int .i64 0, .complex .f64 0 0, .int .i64 4, .int .i64 0, .complex .f64 0 0] 33) hs7)
        | (at_builtin; refine wpList_append_lies _ rfl (.tmp 42) (.tmp 45) 24 rfl w6.heap.size 33 i0 (.agg #[.int .i64 0, .int .i64 0, .complex .f64 0 0]) 3 32 Try.underlying24 Hi.out.1 Hi.out.2.1 Hi.out.2.2.1 Hi.out.2.2.2 rfl (by decide) (.slice (some ⟨g7, 0, none⟩) n cp7) n (cN (pf t)) rfl Hown7.out ⟨w7.heap.size, 0, none⟩ 2 2 (Nd.l (opN 4) ++ Nd.l (opN 4)) rfl rfl (two_cellN w7 (opN 4) (opN 4)) (two_oneN (opN 4) (opN 4)) (by omega) hn63b hnbyb hbs7 _ rfl ?_; intro g8 cp8 w9 hown8 hgrow8 hat8 hlt8; have H8 := Lib.hid (own_two (W := w6) hown8 ((H7.out.2.alloc hs7 _).grown hgrow8 hbs7 (fun q hq => (Hown7.out.lt q hq).1))); clear hown8 hgrow8 hat8 hlt8; have K9 := Lib.hid (K6.out.next H8.out.2); have L9 := Lib.hid (L6.out.next H8.out.2); have M9 := Lib.hid (OwnN.ls (xs := pf (.un 4 (.un 4 t))) (by rw [show pf (.un 4 (.un 4 t)) = pf t ++ [opN 4, opN 4] by simp [pf]]; exact H8.out.1) Hm.out.2.2)))
      refine (ans_none (HP.out _ K9.out _ _ L9.out) Ho.out).mono ?_
      rintro e w10 ⟨rfl, hb10⟩
      have K10 := Lib.hid (K9.out.next hb10)
      have M10 := Lib.hid (M9.out.next hb10)
      clear hb10
      go_wp2_with fail
      refine (ans_none (HN.out _ K10.out _ _ M10.out) Ho.out).mono ?_
      rintro e w11 ⟨rfl, hb11⟩
      have K11 := Lib.hid (K10.out.next hb11)
      clear hb11
      go_wp2_with fail
      refine (ans_none (HM.out _ K11.out) Ho.out).mono ?_
      rintro e w12 ⟨rfl, hb12⟩
      have K12 := Lib.hid (K11.out.next hb12)
      clear hb12
      go_wp2_with fail
      go_ret
      exact ⟨rfl, K12.out.b⟩
    | some z =>
      obtain ⟨p, q⟩ := z
      have Ho := Lib.hid ho
      have hpq := evT_lt HT.out.2.2 t HT.out.1 (p, q) ho
      have cSm := fun W => same_self p q W hpq.1 hpq.2
      clear ho hpq
      go_wp2_with fail
      refine (ans_some hcall Ho.out).mono ?_
      rintro e w2 ⟨rfl, hb2⟩
      have K2 := Lib.hid (K1.out.next hb2)
      have Ha := Lib.hid (show CellsN (w2.alloc (.cells #[] 33)) g 0 (pf t) from K2.out.c.keep K2.out.gl (below_new w2 _))
      clear hb2 hcall
      go_wp2_with (first
        | (at_builtin; refine wpList_append_lies _ rfl (.tmp 34) (.tmp 35) 24 rfl w2.heap.size 33 i0 (.agg #[.int .i64 0, .int .i64 0, .complex .f64 0 0]) 3 32 Try.underlying24 Hi.out.1 Hi.out.2.1 Hi.out.2.2.1 Hi.out.2.2.2 rfl (by decide) (.slice (some ⟨w2.heap.size, 0, none⟩) 0 0) 0 [] rfl (litN0 w2) ⟨g, 0, none⟩ n cp (cN (pf t)) rfl Hlt.out Ha.out.flat (all_oneN _) (by omega) hn63 hnby (below_new w2 _).size _ rfl ?_; intro g5 cp5 w5 hown5 hgrow5 hat5 hlt5; have H5 := Lib.hid (own_copy (W := w2) hown5 ((below_new w2 _).grown hgrow5 (below_new w2 _).size (fun q hq => (World.ownsRow.lt (litN0 w2) q hq).1))); clear hown5 hgrow5 hat5 hlt5; have hs5 := H5.out.2.size; have Hown5 := Lib.hid (World.ownsRow.alloc H5.out.1 (.cells #[.int .i64 3, .int .i64 0, .complex .f64 0 0] 33)); have hbs5 := alloc_ge' (.cells #[.int .i64 3, .int .i64 0, .complex .f64 0 0] 33) hs5)
        | (at_builtin; refine wpList_append_lies _ rfl (.tmp 36) (.tmp 38) 24 rfl w2.heap.size 33 i0 (.agg #[.int .i64 0, .int .i64 0, .complex .f64 0 0]) 3 32 Try.underlying24 Hi.out.1 Hi.out.2.1 Hi.out.2.2.1 Hi.out.2.2.2 rfl (by decide) (.slice (some ⟨g5, 0, none⟩) n cp5) n (cN (pf t)) rfl Hown5.out ⟨w5.heap.size, 0, none⟩ 1 1 (Nd.l (opN 3)) rfl rfl (one_cellN w5 (opN 3)) (one_oneN (opN 3)) (by omega) hn63a hnbya hbs5 _ rfl ?_; intro g6 cp6 w6 hown6 hgrow6 hat6 hlt6; have H6 := Lib.hid (own_one (W := w2) hown6 ((H5.out.2.alloc hs5 _).grown hgrow6 hbs5 (fun q hq => (Hown5.out.lt q hq).1))); clear hown6 hgrow6 hat6 hlt6; have K6 := Lib.hid (K2.out.next H6.out.2); have L6 := Lib.hid (H6.out.1.ls Hm.out.2.1); have Ha6 := Lib.hid (K6.out.c.keep K6.out.gl (below_new w6 (.cells #[] 33))))
        | (at_builtin; refine wpList_append_lies _ rfl (.tmp 40) (.tmp 41) 24 rfl w6.heap.size 33 i0 (.agg #[.int .i64 0, .int .i64 0, .complex .f64 0 0]) 3 32 Try.underlying24 Hi.out.1 Hi.out.2.1 Hi.out.2.2.1 Hi.out.2.2.2 rfl (by decide) (.slice (some ⟨w6.heap.size, 0, none⟩) 0 0) 0 [] rfl (litN0 w6) ⟨g, 0, none⟩ n cp (cN (pf t)) rfl Hlt.out Ha6.out.flat (all_oneN _) (by omega) hn63 hnby (below_new w6 _).size _ rfl ?_; intro g7 cp7 w7 hown7 hgrow7 hat7 hlt7; have H7 := Lib.hid (own_copy (W := w6) hown7 ((below_new w6 _).grown hgrow7 (below_new w6 _).size (fun q hq => (World.ownsRow.lt (litN0 w6) q hq).1))); clear hown7 hgrow7 hat7 hlt7; have hs7 := H7.out.2.size; have Hown7 := Lib.hid (World.ownsRow.alloc H7.out.1 (.cells #[.int .i64 4, .int .i64 0, .complex .f64 0 0, .int .i64 4, .int .i64 0, .complex .f64 0 0] 33)); have hbs7 := alloc_ge' (.cells #[.int .i64 4, .int .i64 0, .complex .f64 0 0, .int .i64 4, .int .i64 0, .complex .f64 0 0] 33) hs7)
        | (at_builtin; refine wpList_append_lies _ rfl (.tmp 42) (.tmp 45) 24 rfl w6.heap.size 33 i0 (.agg #[.int .i64 0, .int .i64 0, .complex .f64 0 0]) 3 32 Try.underlying24 Hi.out.1 Hi.out.2.1 Hi.out.2.2.1 Hi.out.2.2.2 rfl (by decide) (.slice (some ⟨g7, 0, none⟩) n cp7) n (cN (pf t)) rfl Hown7.out ⟨w7.heap.size, 0, none⟩ 2 2 (Nd.l (opN 4) ++ Nd.l (opN 4)) rfl rfl (two_cellN w7 (opN 4) (opN 4)) (two_oneN (opN 4) (opN 4)) (by omega) hn63b hnbyb hbs7 _ rfl ?_; intro g8 cp8 w9 hown8 hgrow8 hat8 hlt8; have H8 := Lib.hid (own_two (W := w6) hown8 ((H7.out.2.alloc hs7 _).grown hgrow8 hbs7 (fun q hq => (Hown7.out.lt q hq).1))); clear hown8 hgrow8 hat8 hlt8; have K9 := Lib.hid (K6.out.next H8.out.2); have L9 := Lib.hid (L6.out.next H8.out.2); have M9 := Lib.hid (OwnN.ls (xs := pf (.un 4 (.un 4 t))) (by rw [show pf (.un 4 (.un 4 t)) = pf t ++ [opN 4, opN 4] by simp [pf]]; exact H8.out.1) Hm.out.2.2)))
      refine (ans_some (HP.out _ K9.out _ _ L9.out) Ho.out).mono ?_
      rintro e w10 ⟨rfl, hb10⟩
      have K10 := Lib.hid (K9.out.next hb10)
      have M10 := Lib.hid (M9.out.next hb10)
      clear hb10
      go_wp2_with fail
      refine (ans_some (HN.out _ K10.out _ _ M10.out) Ho.out).mono ?_
      rintro e w11 ⟨rfl, hb11⟩
      have K11 := Lib.hid (K10.out.next hb11)
      clear hb11
      go_wp2_with fail
      refine (ans_some (HM.out _ K11.out) Ho.out).mono ?_
      rintro e w12 ⟨rfl, hb12⟩
      have K12 := Lib.hid (K11.out.next hb12)
      clear hb12
      go_wp2_with fail
      refine (cSm _).mono ?_
      rintro e w13 ⟨rfl, rfl⟩
      go_wp2_with fail
      refine (cSm _).mono ?_
      rintro e w14 ⟨rfl, rfl⟩
      go_wp2_with fail
      go_ret
      exact ⟨rfl, K12.out.b⟩
  · go_enter Try.func3, Try.ntmps3
    go_wp2_with fail
    refine (Drw.big_yes _ _ _ _ (by omega)).mono ?_
    rintro e w' ⟨rfl, rfl⟩
    go_wp2_with fail
    go_ret
    exact ⟨rfl, Below.refl _ _⟩
end Go.Proofs.Ytjkjgichneoflaa.fnPlusNothing
