/- The model's MirrorExpr of valid expressions. -/
import Derived.Test.YtjkjgichneoflaaExpI
import Derived.Test.YtjkjgichneoflaaExpG
namespace Go.Proofs.Ytjkjgichneoflaa.Ex
open Go.ChangeShapes Go.WideShapes Go.ChangeAt Go.RowKit Go.Proofs.Ytjkjgichneoflaa Go.Proofs.Ytjkjgichneoflaa.Flt Go.Proofs.Ytjkjgichneoflaa.Mth Go.Proofs.Ytjkjgichneoflaa.Cpx
set_option linter.unusedVariables false
/-- what the model's MirrorExpr answers -/
def MirS (xs : List Nd) (w : World) (e : Ending) (w' : World) : Prop := (∃ v, e = .returned (.tuple #[v, .bool (mirOk xs)])) ∧ Below w.heap.size w w'
set_option maxRecDepth 20000 in
set_option maxHeartbeats 6400000 in
theorem mirrorS_any (g off cap : Nat) (xs : List Nd) (w : World) (hv : Valid xs) (h : CellsN w g off xs) (hg : g < w.heap.size) :
    Calls Try.prog 13 #[.slice (some ⟨g, off, none⟩) xs.length cap] w (MirS xs w) := by
  have hb0 := below_new w (.cells #[] 33)
  have cE := exprS_any g off cap xs (w.alloc (.cells #[] 33)) hv (h.keep hg hb0) (Nat.lt_of_lt_of_le hg hb0.size)
  have H := Lib.hid (And.intro hv h)
  have hlen := hv.len
  clear hv h hb0
  obtain ⟨n, hn⟩ : ∃ n, xs.length = n := ⟨_, rfl⟩
  rw [hn] at hlen cE ⊢
  obtain ⟨i0, hi, hz0, hz1, hz2⟩ := info_partsN
  have Hi := Lib.hid (And.intro hi (And.intro hz0 (And.intro hz1 hz2)))
  clear hi hz0 hz1 hz2
  go_enter Try.func13, Try.ntmps13
  go_wp2_with fail
  refine cE.mono ?_
  rintro e w1 ⟨rfl, hb1⟩
  have hb2 : Below w.heap.size w w1 := (below_new w _).trans (hb1.mono (below_new w _).size)
  have hs1 := hb2.size
  have H1 := Lib.hid (show Mr w xs 0 0 w.heap.size 0 w1 from ⟨own_below (litN0 w) (Nat.le_refl _) hb1, hb2, rfl, fun m hm => by simp at hm⟩)
  clear hb1 hb2 cE
  go_wp2_with fail
  go_loopw [4, 5] (fun vo vi wr => ∃ (i r gg cp : Nat), vo = .slice (some ⟨gg, 0, none⟩) r cp ∧ vi = .int .i64 (i : Int) ∧ i ≤ n ∧ Hid (Mr w xs i r gg cp wr))
    (fun _ vi _ => n - (intOf vi).toNat)
  case atStart => exact ⟨0, 0, w.heap.size, 0, rfl, rfl, by omega, Lib.hid H1.out⟩
  case round =>
    obtain ⟨i, r, gg, cp, rfl, rfl, hi, HR⟩ := hrel
    have hsz := HR.out.b.size
    have hggl := (OwnN.cells HR.out.own HR.out.len).2.1
    have hgl : g < wr.heap.size := by omega
    by_cases hil : i < n
    · have hil' : (i : Int) < (n : Int) := by omega
      obtain ⟨nd, hs⟩ : ∃ nd, xs[i]? = some nd := ⟨_, List.getElem?_eq_getElem (by rw [hn]; exact hil)⟩
      have hok := H.out.1.ok nd (List.mem_of_getElem? hs)
      obtain ⟨a0, a1, a2⟩ := (H.out.2.keep hg HR.out.b) i nd hs
      have hr2 : r ≤ 2 * i := by have := (mirL_len (xs.take i)).2; rw [HR.out.len, List.length_take] at this; omega
      have hn63 : r + 1 ≤ maxLen := by unfold maxLen; omega
      have hnby : (r + 1) * 32 ≤ 140737488355328 := by omega
      have hn63c : r + 1 + 1 ≤ maxLen := by unfold maxLen; omega
      have hnbyc : (r + 1 + 1) * 32 ≤ 140737488355328 := Nat.le_trans (Nat.mul_le_mul_right 32 (show r + 1 + 1 ≤ 200 by omega)) (by decide)
      have Hs := Lib.hid hs
      clear hs
      obtain ⟨k0, s0, x0, y0⟩ := nd
      rcases hok with hc | hc | hc
      · obtain rfl : k0 = 1 := hc.1
        obtain rfl : s0 = 0 := hc.2.1
        have kim := hc.2.2.imz
        have h7 : (Nd.mk 1 0 x0 y0).k ≠ 7 := by show (1 : Int) ≠ 7; omega
        have hbs : w.heap.size ≤ (wr.alloc (.cells #[.int .i64 1, .int .i64 0, .complex .f64 x0 y0] 33)).heap.size := by rw [World.size_alloc]; omega
        have Hb2 := Lib.hid (show Below w.heap.size w (wr.alloc (.cells #[.int .i64 1, .int .i64 0, .complex .f64 x0 y0] 33)) from HR.out.b.alloc hsz _)
        have Hown := Lib.hid (show (wr.alloc (.cells #[.int .i64 1, .int .i64 0, .complex .f64 x0 y0] 33)).ownsRow w.heap.size 33 3 _ _ _ from World.ownsRow.alloc HR.out.own (.cells #[.int .i64 1, .int .i64 0, .complex .f64 x0 y0] 33))
        have Hnews := Lib.hid (one_cellN wr ⟨1, 0, x0, y0⟩)
        clear hc
        by_cases hy : y0 = 0
        · rw [decide_eq_false (by simpa using hy)] at kim
          have hmn : mirN ⟨1, 0, x0, y0⟩ = [⟨1, 0, x0, y0⟩] := mirN_one fun h => h.2 hy
          have Hmn := Lib.hid hmn
          clear hy hmn
          go_wp2_with (at_builtin; refine wpList_append_lies _ rfl (.tmp 24) (.tmp 29) 24 rfl w.heap.size 33 i0 (.agg #[.int .i64 0, .int .i64 0, .complex .f64 0 0]) 3 32 Try.underlying24 Hi.out.1 Hi.out.2.1 Hi.out.2.2.1 Hi.out.2.2.2 rfl (by decide) (.slice (some ⟨gg, 0, none⟩) r cp) r (cN (mirL (xs.take i))) rfl Hown.out ⟨wr.heap.size, 0, none⟩ 1 1 (Nd.l ⟨1, 0, x0, y0⟩) rfl rfl Hnews.out (one_oneN _) (by omega) hn63 hnby hbs _ rfl ?_; intro g5 cp5 w5 hown5 hgrow5 hat5 hlt5; have H5 := Lib.hid (own_in hown5 (Hb2.out.grown hgrow5 hbs (fun q hq => (Hown.out.lt q hq).1))); clear hown5 hgrow5 hat5 hlt5; obtain ⟨d0, d1, d2⟩ := (H.out.2.keep hg H5.out.2) i _ Hs.out; have hs5 := H5.out.2.size; have hown5b := World.ownsRow.alloc H5.out.1 (.cells #[.int .i64 4, .int .i64 0, .complex .f64 0 0] 33); have hbs5 := alloc_ge' (.cells #[.int .i64 4, .int .i64 0, .complex .f64 0 0] 33) hs5; have Hown5 := Lib.hid hown5b; clear hown5b)
          have Hn := Lib.hid (HR.out.next Hs.out h7 (m := 1) (by rw [Hmn.out]; rfl) (by rw [Hmn.out]; exact H5.out.1) H5.out.2)
          go_roundw
          case rel => exact ⟨i + 1, r + 1, g5, cp5, rfl, by go_num, by omega, Lib.hid Hn.out⟩
          case measure => simp [intOf]; omega
        · rw [decide_eq_true hy] at kim
          have hmn : mirN ⟨1, 0, x0, y0⟩ = [⟨1, 0, x0, y0⟩, opN 4] := mirN_two ⟨rfl, hy⟩
          have Hmn := Lib.hid hmn
          clear hy hmn
          go_wp2_with (first
            | (at_builtin; refine wpList_append_lies _ rfl (.tmp 24) (.tmp 29) 24 rfl w.heap.size 33 i0 (.agg #[.int .i64 0, .int .i64 0, .complex .f64 0 0]) 3 32 Try.underlying24 Hi.out.1 Hi.out.2.1 Hi.out.2.2.1 Hi.out.2.2.2 rfl (by decide) (.slice (some ⟨gg, 0, none⟩) r cp) r (cN (mirL (xs.take i))) rfl Hown.out ⟨wr.heap.size, 0, none⟩ 1 1 (Nd.l ⟨1, 0, x0, y0⟩) rfl rfl Hnews.out (one_oneN _) (by omega) hn63 hnby hbs _ rfl ?_; intro g5 cp5 w5 hown5 hgrow5 hat5 hlt5; have H5 := Lib.hid (own_in hown5 (Hb2.out.grown hgrow5 hbs (fun q hq => (Hown.out.lt q hq).1))); clear hown5 hgrow5 hat5 hlt5; obtain ⟨d0, d1, d2⟩ := (H.out.2.keep hg H5.out.2) i _ Hs.out; have hs5 := H5.out.2.size; have hown5b := World.ownsRow.alloc H5.out.1 (.cells #[.int .i64 4, .int .i64 0, .complex .f64 0 0] 33); have hbs5 := alloc_ge' (.cells #[.int .i64 4, .int .i64 0, .complex .f64 0 0] 33) hs5; have Hown5 := Lib.hid hown5b; clear hown5b)
            | (at_builtin; refine wpList_append_lies _ rfl (.tmp 46) (.tmp 48) 24 rfl w.heap.size 33 i0 (.agg #[.int .i64 0, .int .i64 0, .complex .f64 0 0]) 3 32 Try.underlying24 Hi.out.1 Hi.out.2.1 Hi.out.2.2.1 Hi.out.2.2.2 rfl (by decide) (.slice (some ⟨g5, 0, none⟩) (r + 1) cp5) (r + 1) (cN (mirL (xs.take i) ++ [⟨1, 0, x0, y0⟩])) rfl Hown5.out ⟨w5.heap.size, 0, none⟩ 1 1 (Nd.l (opN 4)) rfl rfl (one_cellN w5 (opN 4)) (one_oneN _) (by omega) hn63c hnbyc hbs5 _ rfl ?_; intro g8 cp8 w8 hown8 hgrow8 hat8 hlt8; have H8 := Lib.hid (own_in hown8 ((H5.out.2.alloc hs5 _).grown hgrow8 hbs5 (fun q hq => (Hown5.out.lt q hq).1))); clear hown8 hgrow8 hat8 hlt8))
          have Hn := Lib.hid (HR.out.next Hs.out h7 (m := 2) (by rw [Hmn.out]; rfl) (by rw [Hmn.out, show mirL (xs.take i) ++ [⟨1, 0, x0, y0⟩, opN 4] = (mirL (xs.take i) ++ [⟨1, 0, x0, y0⟩]) ++ [opN 4] by simp]; exact H8.out.1) H8.out.2)
          go_roundw
          case rel => exact ⟨i + 1, r + 2, g8, cp8, rfl, by go_num, by omega, Lib.hid Hn.out⟩
          case measure => simp [intOf]; omega
      · obtain rfl : k0 = 2 := hc.1
        obtain rfl : x0 = 0 := hc.2.2.1
        obtain rfl : y0 = 0 := hc.2.2.2
        have h7 : (Nd.mk 2 s0 0 0).k ≠ 7 := by show (2 : Int) ≠ 7; omega
        have hmn : mirN ⟨2, s0, 0, 0⟩ = [⟨2, s0, 0, 0⟩] := mirN_one fun h => absurd (show (2 : Int) = 1 from h.1) (by decide)
        have hbs : w.heap.size ≤ (wr.alloc (.cells #[.int .i64 2, .int .i64 s0, .complex .f64 0 0] 33)).heap.size := by rw [World.size_alloc]; omega
        have Hb2 := Lib.hid (show Below w.heap.size w (wr.alloc (.cells #[.int .i64 2, .int .i64 s0, .complex .f64 0 0] 33)) from HR.out.b.alloc hsz _)
        have Hown := Lib.hid (show (wr.alloc (.cells #[.int .i64 2, .int .i64 s0, .complex .f64 0 0] 33)).ownsRow w.heap.size 33 3 _ _ _ from World.ownsRow.alloc HR.out.own (.cells #[.int .i64 2, .int .i64 s0, .complex .f64 0 0] 33))
        have Hnews := Lib.hid (one_cellN wr ⟨2, s0, 0, 0⟩)
        clear hc
        have Hmn := Lib.hid hmn
        clear hmn
        go_wp2_with (at_builtin; refine wpList_append_lies _ rfl (.tmp 24) (.tmp 29) 24 rfl w.heap.size 33 i0 (.agg #[.int .i64 0, .int .i64 0, .complex .f64 0 0]) 3 32 Try.underlying24 Hi.out.1 Hi.out.2.1 Hi.out.2.2.1 Hi.out.2.2.2 rfl (by decide) (.slice (some ⟨gg, 0, none⟩) r cp) r (cN (mirL (xs.take i))) rfl Hown.out ⟨wr.heap.size, 0, none⟩ 1 1 (Nd.l ⟨2, s0, 0, 0⟩) rfl rfl Hnews.out (one_oneN _) (by omega) hn63 hnby hbs _ rfl ?_; intro g5 cp5 w5 hown5 hgrow5 hat5 hlt5; have H5 := Lib.hid (own_in hown5 (Hb2.out.grown hgrow5 hbs (fun q hq => (Hown.out.lt q hq).1))); clear hown5 hgrow5 hat5 hlt5; obtain ⟨d0, d1, d2⟩ := (H.out.2.keep hg H5.out.2) i _ Hs.out; have hs5 := H5.out.2.size; have hown5b := World.ownsRow.alloc H5.out.1 (.cells #[.int .i64 4, .int .i64 0, .complex .f64 0 0] 33); have hbs5 := alloc_ge' (.cells #[.int .i64 4, .int .i64 0, .complex .f64 0 0] 33) hs5; have Hown5 := Lib.hid hown5b; clear hown5b)
        have Hn := Lib.hid (HR.out.next Hs.out h7 (m := 1) (by rw [Hmn.out]; rfl) (by rw [Hmn.out]; exact H5.out.1) H5.out.2)
        go_roundw
        case rel => exact ⟨i + 1, r + 1, g5, cp5, rfl, by go_num, by omega, Lib.hid Hn.out⟩
        case measure => simp [intOf]; omega
      · obtain rfl : s0 = 0 := hc.2.1
        obtain rfl : x0 = 0 := hc.2.2.1
        obtain rfl : y0 = 0 := hc.2.2.2
        have hk : 3 ≤ k0 ∧ k0 ≤ 12 := hc.1
        by_cases hk7 : k0 = 7
        · subst hk7
          have Hf := Lib.hid (mirOk_seven Hs.out rfl)
          clear hc
          go_wp2_with fail
          go_ret2
          exact ⟨⟨_, by rw [Hf.out]; rfl⟩, HR.out.b.alloc hsz _⟩
        have b7 : (k0 == 7) = false := beq_eq_false_iff_ne.2 hk7
        have b1 : (k0 == 1) = false := beq_eq_false_iff_ne.2 (by omega)
        have h7 : (Nd.mk k0 0 0 0).k ≠ 7 := hk7
        have hmn : mirN ⟨k0, 0, 0, 0⟩ = [⟨k0, 0, 0, 0⟩] := mirN_one fun h => absurd (show k0 = 1 from h.1) (by omega)
        have hbs : w.heap.size ≤ (wr.alloc (.cells #[.int .i64 k0, .int .i64 0, .complex .f64 0 0] 33)).heap.size := by rw [World.size_alloc]; omega
        have Hb2 := Lib.hid (show Below w.heap.size w (wr.alloc (.cells #[.int .i64 k0, .int .i64 0, .complex .f64 0 0] 33)) from HR.out.b.alloc hsz _)
        have Hown := Lib.hid (show (wr.alloc (.cells #[.int .i64 k0, .int .i64 0, .complex .f64 0 0] 33)).ownsRow w.heap.size 33 3 _ _ _ from World.ownsRow.alloc HR.out.own (.cells #[.int .i64 k0, .int .i64 0, .complex .f64 0 0] 33))
        have Hnews := Lib.hid (one_cellN wr ⟨k0, 0, 0, 0⟩)
        clear hc
        have Hmn := Lib.hid hmn
        clear hmn
        go_wp2_with (at_builtin; refine wpList_append_lies _ rfl (.tmp 24) (.tmp 29) 24 rfl w.heap.size 33 i0 (.agg #[.int .i64 0, .int .i64 0, .complex .f64 0 0]) 3 32 Try.underlying24 Hi.out.1 Hi.out.2.1 Hi.out.2.2.1 Hi.out.2.2.2 rfl (by decide) (.slice (some ⟨gg, 0, none⟩) r cp) r (cN (mirL (xs.take i))) rfl Hown.out ⟨wr.heap.size, 0, none⟩ 1 1 (Nd.l ⟨k0, 0, 0, 0⟩) rfl rfl Hnews.out (one_oneN _) (by omega) hn63 hnby hbs _ rfl ?_; intro g5 cp5 w5 hown5 hgrow5 hat5 hlt5; have H5 := Lib.hid (own_in hown5 (Hb2.out.grown hgrow5 hbs (fun q hq => (Hown.out.lt q hq).1))); clear hown5 hgrow5 hat5 hlt5; obtain ⟨d0, d1, d2⟩ := (H.out.2.keep hg H5.out.2) i _ Hs.out; have hs5 := H5.out.2.size; have hown5b := World.ownsRow.alloc H5.out.1 (.cells #[.int .i64 4, .int .i64 0, .complex .f64 0 0] 33); have hbs5 := alloc_ge' (.cells #[.int .i64 4, .int .i64 0, .complex .f64 0 0] 33) hs5; have Hown5 := Lib.hid hown5b; clear hown5b)
        have Hn := Lib.hid (HR.out.next Hs.out h7 (m := 1) (by rw [Hmn.out]; rfl) (by rw [Hmn.out]; exact H5.out.1) H5.out.2)
        go_roundw
        case rel => exact ⟨i + 1, r + 1, g5, cp5, rfl, by go_num, by omega, Lib.hid Hn.out⟩
        case measure => simp [intOf]; omega
    · obtain rfl : i = n := by omega
      have hil' : ¬ (i : Int) < (i : Int) := by omega
      have h7 := HR.out.k7
      have hl := HR.out.len
      rw [List.take_of_length_le (by omega)] at h7 hl
      have hok := mirOk_end h7
      rw [hl] at hok
      have Ho := Lib.hid hok
      clear h7 hl hok
      by_cases hr : r ≤ 60
      · have hr' : ¬ (60 : Int) < (r : Int) := by omega
        have Hk := Lib.hid (show mirOk xs = true by rw [Ho.out]; exact decide_eq_true hr)
        go_wp2_with fail
        go_ret2
        exact ⟨⟨_, by rw [Hk.out]; rfl⟩, HR.out.b⟩
      · have hr' : (60 : Int) < (r : Int) := by omega
        have Hk := Lib.hid (show mirOk xs = false by rw [Ho.out]; exact decide_eq_false hr)
        go_wp2_with fail
        go_ret2
        exact ⟨⟨_, by rw [Hk.out]; rfl⟩, HR.out.b.alloc hsz _⟩
end Go.Proofs.Ytjkjgichneoflaa.Ex
