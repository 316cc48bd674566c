/- The walk of FnMirrorExpr: it returns true. -/
import Derived.Test.YtjkjgichneoflaaRows
import Derived.Test.YtjkjgichneoflaaExpJ
import Derived.Deep.RegionLaw
namespace Go.Proofs.Ytjkjgichneoflaa.fnMirrorExpr
open Go.ChangeShapes Go.WideShapes Go.ChangeAt Go.RowKit Go.Proofs.Ytjkjgichneoflaa Go.Proofs.Ytjkjgichneoflaa.Flt Go.Proofs.Ytjkjgichneoflaa.Mth Go.Proofs.Ytjkjgichneoflaa.Cpx Go.Proofs.Ytjkjgichneoflaa.Drw Go.Proofs.Ytjkjgichneoflaa.Ex
set_option linter.unusedVariables false
theorem conj_at {sl : List (Nat × Nat)} {i : Nat} {x y : Nat} (h : sl[i]? = some (x, y)) : (conjL sl).take (i + 1) = (conjL sl).take i ++ [(x, ng y)] := by
  rw [List.take_add_one]
  unfold conjL
  rw [List.getElem?_map, h]; rfl
theorem conj_wf {sl : List (Nat × Nat)} (h : wfZ sl) : wfZ (conjL sl) := fun z hz => by
  obtain ⟨u, hu, rfl⟩ := List.mem_map.1 hz
  exact ⟨(h u hu).1, ng_lt (h u hu).2⟩
theorem conj_len (sl : List (Nat × Nat)) : (conjL sl).length = sl.length := List.length_map _
theorem noIm_of {t : Tr} (ht : t.ok) (h : mirOk (pf t) = true) : noIm t ∧ (pf (mirT t)).length ≤ 60 := by
  unfold mirOk at h
  rw [Bool.and_eq_true] at h
  refine ⟨(noIm_iff ht).1 fun n hn => of_decide_eq_true (List.all_eq_true.1 h.1 n hn), ?_⟩
  rw [pf_mir ht]
  exact of_decide_eq_true h.2
theorem sz_alloc (w : World) (o : Obj) : (w.alloc o).heap.size = w.heap.size + 1 := World.size_alloc _ _
set_option maxRecDepth 20000 in
set_option maxHeartbeats 6400000 in
theorem walk (a : Option Addr) (len cap : Nat) (zs : List Int) (w : World) (hr : IsRow .u8 w a len cap zs) :
    Calls Try.prog 4 #[.slice a len cap] w fun x w' => x = .returned (.bool true) ∧ Below w.heap.size w w' := by
  by_cases hl : (len : Int) ≤ 1048576
  · obtain ⟨i0, hi, hz, hs, hby⟩ := info_partsZ
    have Hi := Lib.hid (And.intro hi (And.intro hz (And.intro hs hby)))
    clear hi hz hs hby
    go_enter Try.func4, Try.ntmps4
    go_wp2_with fail
    refine (Drw.big_no _ _ _ _ hl).mono ?_
    rintro e w' ⟨rfl, rfl⟩
    go_wp2_with fail
    refine (drawExpr a len cap zs _ hr).mono ?_
    rintro e w1 ⟨g, cp, t, h, cq, sl, ⟨tok, tlen⟩, ⟨sl2, sl5, slw⟩, rfl, ⟨hc, hg, hcp⟩, ⟨hcz, hh⟩, hb1⟩
    have K1 := Lib.hid (show Kn w' g h t sl w1 from ⟨hc, hg, hcz, hh, hb1⟩)
    have HT := Lib.hid (And.intro tok (And.intro tlen slw))
    clear hr hc hcz hb1 hg hh hcp tok slw
    have cE := fun W (k : Kn w' g h t sl W) => eval_tree g 0 cp h cq t sl W HT.out.1 (by have := HT.out.2.1; omega) k.c k.gl k.z k.hl HT.out.2.2
    have cI := fun W (k : Kn w' g h t sl W) => mirror_any g 0 cp (pf t) W (Valid.tree HT.out.1 (by have := HT.out.2.1; omega)) k.c k.gl
    have cS := fun W (k : Kn w' g h t sl W) => mirrorS_any g 0 cp (pf t) W (Valid.tree HT.out.1 (by have := HT.out.2.1; omega)) k.c k.gl
    obtain ⟨n, hn⟩ : ∃ n, (pf t).length = n := ⟨_, rfl⟩
    obtain ⟨m, hm⟩ : ∃ m, sl.length = m := ⟨_, rfl⟩
    rw [hn] at tlen cE cI cS ⊢
    rw [hm] at sl2 sl5 cE ⊢
    have Hm := Lib.hid (And.intro hn hm)
    have HE := Lib.hid cE
    have HS := Lib.hid cS
    have hcall := cI _ K1.out
    clear hn hm cE cI cS
    go_wp2_with fail
    refine hcall.mono ?_
    rintro e w2 ⟨hm2, hb2⟩
    have K2 := Lib.hid (K1.out.next hb2)
    clear hcall hb2
    rcases hm2 with ⟨hok, g2, cp2, rfl, hL⟩ | ⟨hok, rfl⟩
    · have L2 := Lib.hid hL
      obtain ⟨hno, hlen60⟩ := noIm_of HT.out.1 hok
      obtain ⟨q, hq⟩ : ∃ q, (mirL (pf t)).length = q := ⟨_, rfl⟩
      rw [hq]
      have HN := Lib.hid (And.intro hno (And.intro hlen60 (And.intro hq hok)))
      clear hL hno hlen60 hq hok
      go_wp2_with fail
      refine (HS.out _ K2.out).mono ?_
      rintro e w3 ⟨⟨v3, rfl⟩, hb3⟩
      have K3 := Lib.hid (K2.out.next hb3)
      have L3 := Lib.hid (L2.out.next hb3)
      rw [HN.out.2.2.2]
      clear hb3
      have H0 := Lib.hid (And.intro (litZ0 w3) (below_new w3 (.cells #[] 28)))
      go_wp2_with fail
      go_loopw [9, 10] (fun vo vi wr => ∃ (i gy cy : Nat), vo = .slice (some ⟨gy, 0, none⟩) i cy ∧ vi = .int .i64 (i : Int) ∧ i ≤ m ∧ OwnZ w3.heap.size wr vo i ((conjL sl).take i) ∧ Below w3.heap.size w3 wr)
        (fun _ vi _ => m - (intOf vi).toNat)
      case atStart => exact ⟨0, _, _, rfl, rfl, by omega, H0.out.1, H0.out.2⟩
      case round =>
        obtain ⟨i, gy, cy, rfl, rfl, hi, hown, hb4⟩ := hrel
        have hs4 := hb4.size
        have KW := Lib.hid (K3.out.next hb4)
        have LW := Lib.hid (L3.out.next hb4)
        have HO := Lib.hid (And.intro hown hb4)
        clear hown hb4
        by_cases hil : i < m
        · have hil' : (i : Int) < (m : Int) := by omega
          obtain ⟨z, hz⟩ : ∃ z, sl[i]? = some z := ⟨_, List.getElem?_eq_getElem (by have := Hm.out.2; omega)⟩
          obtain ⟨x, y⟩ := z
          have hcell : wr.cell? ⟨h, i, none⟩ = some (.complex .f64 x y) := by
            have := KW.out.z i (x, y) hz
            rw [Nat.zero_add] at this
            exact this
          have Hz := Lib.hid (conj_at hz)
          clear hz
          obtain ⟨ny, hny⟩ : ∃ ny, Op.negFloat .f64 y = ny := ⟨_, rfl⟩
          have Hny := Lib.hid hny
          have hn63 : i + 1 ≤ maxLen := by unfold maxLen; omega
          have hnby : (i + 1) * 16 ≤ 140737488355328 := by omega
          have hbs : w3.heap.size ≤ ((wr.alloc (.cells #[.complex .f64 x ny] 28)).drew).heap.size := by
            have e : ((wr.alloc (.cells #[.complex .f64 x ny] 28)).drew).heap.size = wr.heap.size + 1 := sz_alloc _ _
            rw [e]; omega
          have Hown := Lib.hid (show ((wr.alloc (.cells #[.complex .f64 x ny] 28)).drew).ownsRow w3.heap.size 28 1 _ _ _ from World.ownsRow.alloc HO.out.1 (.cells #[.complex .f64 x ny] 28))
          have Hnews := Lib.hid (show ∀ j u, [Value.complex .f64 x ny][j]? = some u → ((wr.alloc (.cells #[.complex .f64 x ny] 28)).drew).cell? ((⟨wr.heap.size, 0, none⟩ : Addr).add j) = some u from one_cellZ wr x ny)
          have Hone := Lib.hid (one_oneZ x ny)
          go_wp2_with fail
          go_region_law (first
            | (refine step_append_lies _ rfl (.tmp 47) (.tmp 60) 25 rfl w3.heap.size 28 i0 (.complex .f64 0 0) 1 16 Try.underlying25 Hi.out.1 Hi.out.2.1 Hi.out.2.2.1 Hi.out.2.2.2 rfl (by decide) (.slice (some ⟨gy, 0, none⟩) i cy) i (cZ ((conjL sl).take i)) (by simp [Act.eval]) Hown.out ⟨wr.heap.size, 0, none⟩ 1 1 [.complex .f64 x ny] (by simp [Act.eval]) rfl Hnews.out Hone.out (by omega) hn63 hnby hbs _ rfl ?_; intro g5 cap1 w6 hown1 hgrow1 hat1 hlt1))
          all_goals
            have H6 := Lib.hid (show OwnZ w3.heap.size w6 (.slice (some ⟨g5, 0, none⟩) (i + 1) cap1) (i + 1) ((conjL sl).take (i + 1)) ∧ Below w3.heap.size w3 w6 from ⟨by
              unfold OwnZ
              rw [Hz.out, show ng y = ny from Hny.out, ← cZ_snoc]
              exact hown1, (((HO.out.2.alloc HO.out.2.size _).drew).grown hgrow1 hbs (fun k hk => (Hown.out.lt k hk).1))⟩)
            clear hown1 hgrow1 hat1 hlt1
            go_wp2_with fail
            go_roundw
            case rel => exact ⟨i + 1, g5, cap1, rfl, by go_num, by omega, H6.out.1, H6.out.2⟩
            case measure => (first | (simp [intOf]; done) | (simp [intOf]; omega))
        · obtain rfl : i = m := by omega
          have hil' : ¬ (i : Int) < (i : Int) := by omega
          have hfull : (conjL sl).take i = conjL sl := List.take_of_length_le (by rw [conj_len, Hm.out.2]; exact Nat.le_refl _)
          have hcl : (conjL sl).length = i := by rw [conj_len, Hm.out.2]
          have hown := HO.out.1
          rw [hfull] at hown
          obtain ⟨z2, l2, _⟩ := OwnZ.cells hown hcl
          have Z := Lib.hid (And.intro z2 (And.intro l2 hcl))
          have hEv := HE.out _ KW.out
          have hmir := evT_mir HT.out.2.2 t HT.out.1 HN.out.1
          have cE2 := fun W (k : CellsZ W gy 0 (conjL sl) ∧ gy < W.heap.size) (l : Ls g2 (mirL (pf t)) W) => eval_tree g2 0 cp2 gy cy (mirT t) (conjL sl) W (mirT_ok HT.out.1) HN.out.2.1 (by rw [pf_mir HT.out.1]; exact l.c) l.gl k.1 k.2 (conj_wf HT.out.2.2)
          rw [show (pf (mirT t)).length = q by rw [pf_mir HT.out.1]; exact HN.out.2.2.1, hcl] at cE2
          have HE2 := Lib.hid cE2
          have Hmir := Lib.hid hmir
          clear z2 l2 hown hfull hcl cE2 hmir
          rcases Hmir.out with ⟨h1, h2⟩ | ⟨⟨p, q1⟩, ⟨c, d⟩, h1, h2, hmr⟩
          · have Ho := Lib.hid (And.intro h1 h2)
            clear h1 h2
            go_wp2_with fail
            refine (ans_none hEv Ho.out.1).mono ?_
            rintro e w5 ⟨rfl, hb5⟩
            have K5 := Lib.hid (KW.out.next hb5)
            have c5 := HE2.out w5 ⟨Z.out.1.keep Z.out.2.1 hb5, Nat.lt_of_lt_of_le Z.out.2.1 hb5.size⟩ (LW.out.next hb5)
            clear hb5 hEv
            go_wp2_with fail
            refine (ans_none c5 Ho.out.2).mono ?_
            rintro e w6 ⟨rfl, hb6⟩
            have K6 := Lib.hid (K5.out.next hb6)
            clear hb6 c5
            go_wp2_with fail
            go_ret
            exact ⟨rfl, K6.out.b⟩
          · have Ho := Lib.hid (And.intro h1 h2)
            have e1 : eqW Ieee.double c p = true := FW.eq hmr.re
            have e2 : eqW Ieee.double d (ng q1) = true := FW.eq (hmr.im.neg' hmr.w.2)
            have kz := fun W => run_ceq (P := Try.prog) 28 c d p (ng q1) W
            rw [e1, e2] at kz
            clear h1 h2 hmr e1 e2
            go_wp2_with fail
            refine (ans_some hEv Ho.out.1).mono ?_
            rintro e w5 ⟨rfl, hb5⟩
            have K5 := Lib.hid (KW.out.next hb5)
            have c5 := HE2.out w5 ⟨Z.out.1.keep Z.out.2.1 hb5, Nat.lt_of_lt_of_le Z.out.2.1 hb5.size⟩ (LW.out.next hb5)
            clear hb5 hEv
            go_wp2_with fail
            refine (ans_some c5 Ho.out.2).mono ?_
            rintro e w6 ⟨rfl, hb6⟩
            have K6 := Lib.hid (K5.out.next hb6)
            clear hb6 c5
            go_wp2_with fail
            go_ret
            exact ⟨rfl, K6.out.b⟩
    · have Hok := Lib.hid hok
      clear hok
      go_wp2_with fail
      refine (HS.out _ K2.out).mono ?_
      rintro e w3 ⟨⟨v3, rfl⟩, hb3⟩
      have K3 := Lib.hid (K2.out.next hb3)
      rw [Hok.out]
      clear hb3
      go_wp2_with fail
      go_ret
      exact ⟨rfl, K3.out.b⟩
  · go_enter Try.func4, Try.ntmps4
    go_wp2_with fail
    refine (Drw.big_yes _ _ _ _ (by omega)).mono ?_
    rintro e w' ⟨rfl, rfl⟩
    go_wp2_with fail
    go_ret
    exact ⟨rfl, Below.refl _ _⟩
end Go.Proofs.Ytjkjgichneoflaa.fnMirrorExpr
