/- The walk of FnSlotsOnly: it returns true. -/
import Derived.Test.YtjkjgichneoflaaRows
import Derived.Test.YtjkjgichneoflaaExpF
import Derived.Test.YtjkjgichneoflaaExpL
import Derived.Test.YtjkjgichneoflaaExpQ
import Derived.Test.YtjkjgichneoflaaSameZ
namespace Go.Proofs.Ytjkjgichneoflaa.fnSlotsOnly
open Go.ChangeShapes Go.WideShapes Go.ChangeAt Go.RowKit Go.Proofs.Ytjkjgichneoflaa Go.Proofs.Ytjkjgichneoflaa.Flt Go.Proofs.Ytjkjgichneoflaa.Mth Go.Proofs.Ytjkjgichneoflaa.Cpx Go.Proofs.Ytjkjgichneoflaa.Drw Go.Proofs.Ytjkjgichneoflaa.Ex
set_option linter.unusedVariables false
/-- the slots that are named are alike -/
theorem eval_alike {t : Tr} (h : t.ok) {sl ys : List (Nat × Nat)} {zs : List Int} (hz : ∀ x ∈ pf t, x.k = 2 → x.s ∈ zs) (hl : ys.length = sl.length) (hy : ∀ j : Nat, j < sl.length → (j : Int) ∈ zs → ys[j]? = sl[j]?) : evT sl t = evT ys t := by
  refine evT_slots t h fun n hn hk => ?_
  unfold slotV
  have hs : 0 ≤ n.s := by
    rcases pf_ok t h n hn with h1 | h1 | h1
    · have := h1.1; omega
    · exact h1.2.1.1
    · have := h1.1; omega
  by_cases hlt : n.s.toNat < sl.length
  · rw [hy _ hlt (by rw [Int.toNat_of_nonneg hs]; exact hz n hn hk)]
  · rw [List.getElem?_eq_none (by omega), List.getElem?_eq_none (by omega)]
theorem ans_none {f : FuncId} {args : Array Value} {o : Option (Nat × Nat)} {W : World} (h : Calls Try.prog f args W fun e w' => e = .returned (ansV o) ∧ Below W.heap.size W w') (ho : o = none) : Calls Try.prog f args W fun e w' => e = .returned (.tuple #[.complex .f64 0 0, .bool false]) ∧ Below W.heap.size W w' := by
  subst ho; exact h
theorem ans_some {f : FuncId} {args : Array Value} {o : Option (Nat × Nat)} {p q : Nat} {W : World} (h : Calls Try.prog f args W fun e w' => e = .returned (ansV o) ∧ Below W.heap.size W w') (ho : o = some (p, q)) : Calls Try.prog f args W fun e w' => e = .returned (.tuple #[.complex .f64 p q, .bool true]) ∧ Below W.heap.size W w' := by
  subst ho; exact h
/-- what is known all along -/
structure Kn (w : World) (g h : Nat) (t : Tr) (sl : List (Nat × Nat)) (W : World) : Prop where
  c : CellsN W g 0 (pf t)
  gl : g < W.heap.size
  z : CellsZ W h 0 sl
  hl : h < W.heap.size
  b : Below w.heap.size w W
theorem Kn.next {w : World} {g h : Nat} {t : Tr} {sl : List (Nat × Nat)} {W W' : World} (k : Kn w g h t sl W) (hb : Below W.heap.size W W') : Kn w g h t sl W' :=
  ⟨k.c.keep k.gl hb, Nat.lt_of_lt_of_le k.gl hb.size, k.z.keep k.hl hb, Nat.lt_of_lt_of_le k.hl hb.size, k.b.trans (hb.mono k.b.size)⟩
def Nm (v : Value) (n : Nat) (zs : List Int) (W : World) : Prop := (v = .slice none 0 0 ∧ n = 0 ∧ zs = []) ∨ ∃ g cap, v = .slice (some ⟨g, 0, none⟩) n cap ∧ g < W.heap.size ∧ CellsI W g zs
theorem Nm.next {v : Value} {n : Nat} {zs : List Int} {W W' : World} (h : Nm v n zs W) (hb : Below W.heap.size W W') : Nm v n zs W' := by
  rcases h with h | ⟨g, cap, h1, h2, h3⟩
  · exact .inl h
  · exact .inr ⟨g, cap, h1, Nat.lt_of_lt_of_le h2 hb.size, h3.keep h2 hb⟩
theorem seven_lt : (4619567317775286272 : Nat) < 18446744073709551616 ∧ (0 : Nat) < 18446744073709551616 := by decide
theorem snoc_at {ys sl : List (Nat × Nat)} {zs : List Int} {i : Nat} {z : Nat × Nat} (hl : ys.length = i) (h : ∀ j : Nat, j < i → (j : Int) ∈ zs → ys[j]? = sl[j]?) (hz : (i : Int) ∈ zs → some z = sl[i]?) : ∀ j : Nat, j < i + 1 → (j : Int) ∈ zs → (ys ++ [z])[j]? = sl[j]? := by
  intro j hj hm
  by_cases e : j = i
  · subst e
    rw [List.getElem?_append_right (by omega), hl, Nat.sub_self, ← hz hm]; rfl
  · rw [List.getElem?_append_left (by omega)]
    exact h j (by omega) hm
set_option maxRecDepth 20000 in
set_option maxHeartbeats 3200000 in
theorem walk (a : Option Addr) (len cap : Nat) (zs : List Int) (w : World) (hr : IsRow .u8 w a len cap zs) :
    Calls Try.prog 5 #[.slice a len cap] w fun x w' => x = .returned (.bool true) ∧ Below w.heap.size w w' := by
  by_cases hl : (len : Int) ≤ 1048576
  · obtain ⟨i0, hi, hz, hs, hby⟩ := info_partsZ
    have Hi := Lib.hid (And.intro hi (And.intro hz (And.intro hs hby)))
    clear hi hz hs hby
    go_enter Try.func5, Try.ntmps5
    go_wp2_with fail
    refine (Drw.big_no _ _ _ _ hl).mono ?_
    rintro e w' ⟨rfl, rfl⟩
    go_wp2_with fail
    refine (drawExpr a len cap zs _ hr).mono ?_
    rintro e w1 ⟨g, cp, t, h, cq, sl, ⟨tok, tlen⟩, ⟨sl2, sl5, slw⟩, rfl, ⟨hc, hg, hcp⟩, ⟨hcz, hh⟩, hb1⟩
    have K1 := Lib.hid (show Kn w' g h t sl w1 from ⟨hc, hg, hcz, hh, hb1⟩)
    have HT := Lib.hid (And.intro tok (And.intro tlen slw))
    clear hr hc hcz hb1 hg hh hcp tok slw
    have cS := fun W (k : Kn w' g h t sl W) => slotsOf_any g 0 cp (pf t) W (Valid.tree HT.out.1 (by have := HT.out.2.1; omega)) k.c k.gl
    have cE := fun W (k : Kn w' g h t sl W) => eval_tree g 0 cp h cq t sl W HT.out.1 (by have := HT.out.2.1; omega) k.c k.gl k.z k.hl HT.out.2.2
    have cE2 := fun W (k : Kn w' g h t sl W) h2 cq2 ys (z2 : CellsZ W h2 0 ys) l2 w2 => eval_tree g 0 cp h2 cq2 t ys W HT.out.1 (by have := HT.out.2.1; omega) k.c k.gl z2 l2 w2
    have cD := fun W (k : Kn w' g h t sl W) => depthOf_any g 0 cp (pf t) W (Valid.tree HT.out.1 (by have := HT.out.2.1; omega)) k.c k.gl
    obtain ⟨n, hn⟩ : ∃ n, (pf t).length = n := ⟨_, rfl⟩
    obtain ⟨m, hm⟩ : ∃ m, sl.length = m := ⟨_, rfl⟩
    rw [hn] at tlen cS cE cE2 cD ⊢
    rw [hm] at sl2 sl5 cE ⊢
    have Hm := Lib.hid (And.intro hn hm)
    have HS := Lib.hid cS
    have HE := Lib.hid cE
    have HE2 := Lib.hid cE2
    have HD := Lib.hid cD
    clear hn hm cS cE cE2 cD
    go_wp2_with fail
    refine (HS.out _ K1.out).mono ?_
    rintro e w2 ⟨v, nz, named, hnz, hmem, rfl, hown, hb2⟩
    obtain ⟨hnl, hform⟩ := hown.form
    have K2 := Lib.hid (K1.out.next hb2)
    have N2 := Lib.hid (show Nm v nz named w2 from by
      rcases hform with h1 | ⟨g1, c1, h1, h2, h3, h4⟩
      · exact .inl h1
      · exact .inr ⟨g1, c1, h1, h3, h4⟩)
    have Hz := Lib.hid (And.intro hmem hnl)
    clear hown hform hb2 hmem hnl
    have H0 := Lib.hid (And.intro (litZ0 w2) (show Below w2.heap.size w2 (w2.alloc (.cells #[] 28)) from (Below.refl _ _).alloc (Nat.le_refl _) _))
    go_wp2_with fail
    go_loopw [6, 7] (fun vo vi wr => ∃ (i gy cy : Nat) (ys : List (Nat × Nat)), vo = .slice (some ⟨gy, 0, none⟩) i cy ∧ vi = .int .i64 (i : Int) ∧ i ≤ m ∧ OwnZ w2.heap.size wr vo i ys ∧ Below w2.heap.size w2 wr ∧ Hid (ys.length = i ∧ wfZ ys ∧ ∀ j : Nat, j < i → (j : Int) ∈ named → ys[j]? = sl[j]?))
      (fun _ vi _ => m - (intOf vi).toNat)
    case atStart => exact ⟨0, _, _, [], rfl, rfl, by omega, H0.out.1, H0.out.2, Lib.hid ⟨rfl, (fun z hz => by cases hz), (fun j hj => by omega)⟩⟩
    case round =>
      obtain ⟨i, gy, cy, ys, rfl, rfl, hi, hown, hb3, Hy⟩ := hrel
      have hs3 := hb3.size
      have KW := Lib.hid (K2.out.next hb3)
      have NW := Lib.hid (N2.out.next hb3)
      have HO := Lib.hid (And.intro hown hb3)
      clear hown hb3
      by_cases hil : i < m
      · have hil' : (i : Int) < (m : Int) := by omega
        obtain ⟨z, hz⟩ : ∃ z, sl[i]? = some z := ⟨_, List.getElem?_eq_getElem (by have := Hm.out.2; omega)⟩
        have hzw := HT.out.2.2 z (List.mem_of_getElem? hz)
        have hcell : wr.cell? ⟨h, i, none⟩ = some (.complex .f64 z.1 z.2) := by
          have := KW.out.z i z hz
          rw [Nat.zero_add] at this
          exact this
        have Hzz := Lib.hid (And.intro hz hzw)
        clear hz hzw
        have hn63 : i + 1 ≤ maxLen := by unfold maxLen; omega
        have hnby : (i + 1) * 16 ≤ 140737488355328 := by omega
        have cH := hasInt_any v nz named (i : Int) wr hnz Hz.out.2 NW.out
        cases hd : decide ((i : Int) ∈ named)
        · rw [hd] at cH
          have Hm2 := Lib.hid (wfZ_snoc Hy.out.2.1 seven_lt)
          have Ha := Lib.hid (snoc_at (z := (4619567317775286272, 0)) Hy.out.1 Hy.out.2.2 fun hm => absurd hm (of_decide_eq_false hd))
          have hbs : w2.heap.size ≤ (wr.alloc (.cells #[.complex .f64 4619567317775286272 0] 28)).heap.size := by rw [World.size_alloc]; omega
          have Hown := Lib.hid (show (wr.alloc (.cells #[.complex .f64 4619567317775286272 0] 28)).ownsRow w2.heap.size 28 1 _ _ _ from World.ownsRow.alloc HO.out.1 (.cells #[.complex .f64 4619567317775286272 0] 28))
          have Hnews := Lib.hid (one_cellZ wr 4619567317775286272 0)
          have Hone := Lib.hid (one_oneZ 4619567317775286272 0)
          clear hd
          go_wp2_with fail
          refine cH.mono ?_
          rintro e w4 ⟨rfl, hw4⟩
          subst w4
          clear cH
          go_wp2_with (at_builtin; go_loud (refine wpList_append_lies _ rfl (.tmp 39) (.tmp 40) 25 rfl w2.heap.size 28 i0 (.complex .f64 0 0) 1 16 Try.underlying25 Hi.out.1 Hi.out.2.1 Hi.out.2.2.1 Hi.out.2.2.2 rfl (by decide) (.slice (some ⟨gy, 0, none⟩) i cy) i (cZ ys) rfl Hown.out ⟨wr.heap.size, 0, none⟩ 1 1 [.complex .f64 4619567317775286272 0] rfl rfl Hnews.out Hone.out (by omega) hn63 hnby hbs _ rfl ?_; intro g5 cap1 w6 hown1 hgrow1 hat1 hlt1))
          have H6 := Lib.hid (show OwnZ w2.heap.size w6 (.slice (some ⟨g5, 0, none⟩) (i + 1) cap1) (i + 1) (ys ++ [(4619567317775286272, 0)]) ∧ Below w2.heap.size w2 w6 from ⟨by
            unfold OwnZ
            rw [← cZ_snoc]
            exact hown1, (HO.out.2.alloc hs3 _).grown hgrow1 hbs (fun k hk => (Hown.out.lt k hk).1)⟩)
          clear hown1 hgrow1 hat1 hlt1
          go_wp2_with fail
          go_roundw
          case rel => exact ⟨i + 1, g5, cap1, ys ++ [(4619567317775286272, 0)], rfl, by go_num, by omega, H6.out.1, H6.out.2, Lib.hid ⟨by rw [List.length_append, Hy.out.1]; rfl, Hm2.out, Ha.out⟩⟩
          case measure => simp [intOf]; omega
        · rw [hd] at cH
          have Hm2 := Lib.hid (wfZ_snoc Hy.out.2.1 Hzz.out.2)
          have Ha := Lib.hid (snoc_at (z := z) Hy.out.1 Hy.out.2.2 fun _ => Hzz.out.1.symm)
          obtain ⟨x, y⟩ := z
          have hcell : wr.cell? ⟨h, i, none⟩ = some (.complex .f64 x y) := hcell
          have hbs : w2.heap.size ≤ (wr.alloc (.cells #[.complex .f64 x y] 28)).heap.size := by rw [World.size_alloc]; omega
          have Hown := Lib.hid (show (wr.alloc (.cells #[.complex .f64 x y] 28)).ownsRow w2.heap.size 28 1 _ _ _ from World.ownsRow.alloc HO.out.1 (.cells #[.complex .f64 x y] 28))
          have Hnews := Lib.hid (one_cellZ wr x y)
          have Hone := Lib.hid (one_oneZ x y)
          clear hd
          go_wp2_with fail
          refine cH.mono ?_
          rintro e w4 ⟨rfl, hw4⟩
          subst w4
          clear cH
          go_wp2_with (at_builtin; go_loud (refine wpList_append_lies _ rfl (.tmp 32) (.tmp 37) 25 rfl w2.heap.size 28 i0 (.complex .f64 0 0) 1 16 Try.underlying25 Hi.out.1 Hi.out.2.1 Hi.out.2.2.1 Hi.out.2.2.2 rfl (by decide) (.slice (some ⟨gy, 0, none⟩) i cy) i (cZ ys) rfl Hown.out ⟨wr.heap.size, 0, none⟩ 1 1 [.complex .f64 x y] rfl rfl Hnews.out Hone.out (by omega) hn63 hnby hbs _ rfl ?_; intro g5 cap1 w6 hown1 hgrow1 hat1 hlt1))
          have H6 := Lib.hid (show OwnZ w2.heap.size w6 (.slice (some ⟨g5, 0, none⟩) (i + 1) cap1) (i + 1) (ys ++ [(x, y)]) ∧ Below w2.heap.size w2 w6 from ⟨by
            unfold OwnZ
            rw [← cZ_snoc]
            exact hown1, (HO.out.2.alloc hs3 _).grown hgrow1 hbs (fun k hk => (Hown.out.lt k hk).1)⟩)
          clear hown1 hgrow1 hat1 hlt1
          go_wp2_with fail
          go_roundw
          case rel => exact ⟨i + 1, g5, cap1, ys ++ [(x, y)], rfl, by go_num, by omega, H6.out.1, H6.out.2, Lib.hid ⟨by rw [List.length_append, Hy.out.1]; rfl, Hm2.out, Ha.out⟩⟩
          case measure => simp [intOf]; omega
      · obtain rfl : i = m := by omega
        have hil' : ¬ (i : Int) < (i : Int) := by omega
        obtain ⟨z2, l2, _⟩ := OwnZ.cells HO.out.1 Hy.out.1
        have Z := Lib.hid (And.intro z2 l2)
        have He := Lib.hid (eval_alike HT.out.1 Hz.out.1 (by rw [Hy.out.1, Hm.out.2]) (fun j hj => Hy.out.2.2 j (by have := Hm.out.2; omega)))
        have hyl := Hy.out.1
        clear z2 l2
        have cEE := HE.out _ KW.out
        cases ho : evT sl t with
        | none =>
          have Ho := Lib.hid (And.intro ho (show evT ys t = none from He.out ▸ ho))
          clear ho
          go_wp2_with fail
          refine (ans_none cEE Ho.out.1).mono ?_
          rintro e w4 ⟨rfl, hb4⟩
          have K4 := Lib.hid (KW.out.next hb4)
          have cE4 := HE2.out w4 K4.out gy cy ys (Z.out.1.keep Z.out.2 hb4) (Nat.lt_of_lt_of_le Z.out.2 hb4.size) Hy.out.2.1
          rw [hyl] at cE4
          clear hb4 cEE
          go_wp2_with fail
          refine (ans_none cE4 Ho.out.2).mono ?_
          rintro e w5 ⟨rfl, hb5⟩
          have K5 := Lib.hid (K4.out.next hb5)
          clear hb5 cE4
          go_wp2_with fail
          refine (HD.out _ K5.out).mono ?_
          rintro e w6 ⟨d, ⟨hd1, hd2⟩, rfl, hb6⟩
          have K6 := Lib.hid (K5.out.next hb6)
          clear hb6
          have hd3 : (1 : Int) ≤ (d : Int) := by omega
          have hd4 : (d : Int) ≤ (n : Int) := by omega
          go_wp2_with fail
          go_ret
          exact ⟨rfl, K6.out.b⟩
        | some z =>
          obtain ⟨p, q⟩ := z
          have Ho := Lib.hid (And.intro ho (show evT ys t = some (p, q) from He.out ▸ ho))
          have hpq := evT_lt HT.out.2.2 t HT.out.1 (p, q) ho
          have cSm := fun W => same_self p q W hpq.1 hpq.2
          clear ho hpq
          go_wp2_with fail
          refine (ans_some cEE Ho.out.1).mono ?_
          rintro e w4 ⟨rfl, hb4⟩
          have K4 := Lib.hid (KW.out.next hb4)
          have cE4 := HE2.out w4 K4.out gy cy ys (Z.out.1.keep Z.out.2 hb4) (Nat.lt_of_lt_of_le Z.out.2 hb4.size) Hy.out.2.1
          rw [hyl] at cE4
          clear hb4 cEE
          go_wp2_with fail
          refine (ans_some cE4 Ho.out.2).mono ?_
          rintro e w5 ⟨rfl, hb5⟩
          have K5 := Lib.hid (K4.out.next hb5)
          clear hb5 cE4
          go_wp2_with fail
          refine (HD.out _ K5.out).mono ?_
          rintro e w6 ⟨d, ⟨hd1, hd2⟩, rfl, hb6⟩
          have K6 := Lib.hid (K5.out.next hb6)
          clear hb6
          have hd3 : (1 : Int) ≤ (d : Int) := by omega
          have hd4 : (d : Int) ≤ (n : Int) := by omega
          go_wp2_with fail
          refine (cSm _).mono ?_
          rintro e w7 ⟨rfl, rfl⟩
          go_wp2_with fail
          go_ret
          exact ⟨rfl, K6.out.b⟩
  · go_enter Try.func5, Try.ntmps5
    go_wp2_with fail
    refine (Drw.big_yes _ _ _ _ (by omega)).mono ?_
    rintro e w' ⟨rfl, rfl⟩
    go_wp2_with fail
    go_ret
    exact ⟨rfl, Below.refl _ _⟩
end Go.Proofs.Ytjkjgichneoflaa.fnSlotsOnly
