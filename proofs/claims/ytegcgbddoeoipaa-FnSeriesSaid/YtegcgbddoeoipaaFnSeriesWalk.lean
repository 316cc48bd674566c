/- The walk of FnSeries: it returns true. -/
import Derived.Test.YtegcgbddoeoipaaRows
import Derived.Test.YtegcgbddoeoipaaFnSeriesC
namespace Go.Proofs.Ytegcgbddoeoipaa.fnSeries
open Go.ChangeShapes Go.WideShapes Go.ChangeAt Go.RowKit Go.Proofs.Ytegcgbddoeoipaa Go.Proofs.Ytegcgbddoeoipaa.Flt Go.Proofs.Ytegcgbddoeoipaa.Mth Go.Proofs.Ytegcgbddoeoipaa.Cpx Go.Proofs.Ytegcgbddoeoipaa.Drw
open Ieee (single double)
set_option linter.unusedVariables false
theorem slice_any (g n cp c : Nat) (h : c ≤ cp) (w : World) :
    (Instr.slice 48 (.slice (some ⟨g, 0, none⟩) n cp) none (some (.int .i64 (c : Int))) none).run Try.prog w = .ok (.slice (some ⟨g, 0, none⟩) c cp) w := by
  obtain ⟨i0, hi, hz0, hz1, hz2⟩ := info_parts infoC
  have h0 : (0 : Int) ≤ c := by omega
  have h1 : (c : Int) ≤ cp := by omega
  simp [Instr.slice, run_underlying Try.underlying48, Instr.sliceBounds, run_sliceBound, sizeOf, typeInfo, hi, h0, h1, Addr.add]
theorem ones_succ (k : Nat) : cV (ones k) ++ [.complex .f32 1065353216 0] = cV (ones (k + 1)) := by
  unfold cV ones
  rw [List.replicate_succ', List.map_append]; rfl
theorem after_app {B k g2 cap2 : Nat} {w1 wr w5 : World} {T : TypeId} {row : Option Nat} (hb : Below B w1 wr) (hbs : B ≤ (wr.alloc (.cells #[.complex .f32 1065353216 0] T)).heap.size) (hr : ∀ j, row = some j → B ≤ j)
    (h1 : w5.ownsRow B 26 1 (.slice (some ⟨g2, 0, none⟩) (k + 1) cap2) (k + 1) (cV (ones k) ++ [.complex .f32 1065353216 0])) (hg : (wr.alloc (.cells #[.complex .f32 1065353216 0] T)).grownBy w5 row) (hB : B ≤ wr.heap.size) :
    w5.ownsRow B 26 1 (.slice (some ⟨g2, 0, none⟩) (k + 1) cap2) (k + 1) (cV (ones (k + 1))) ∧ Below B w1 w5 :=
  ⟨by rw [← ones_succ]; exact h1, (hb.alloc hB _).grown hg hbs hr⟩
theorem cell_at {B g k : Nat} {w1 w5 : World} {xs : List (Nat × Nat)} {p : Nat × Nat} (hb : Below B w1 w5) (hg : g < B) (h : w1.cell? ⟨g, k, none⟩ = (cV xs)[k]?) (hp : xs[k]? = some p) : w5.cell? ⟨g, k, none⟩ = some (.complex .f32 p.1 p.2) := by
  rw [hb.cell (by exact hg), h]; unfold cV; rw [List.getElem?_map, hp]; rfl
theorem fin_call {p : Nat × Nat} {x y : Nat} (hx : Wid p.1 x) (hy : Wid p.2 y) (W : World) : Calls Try.prog 18 #[.complex .f64 x y] W fun e w' => e = .returned (.bool (finC p)) ∧ w' = W := by
  have h := finI_any x y W hx.1 hy.1
  rw [fin_wid hx, fin_wid hy] at h
  exact h
set_option maxRecDepth 100000 in
set_option maxHeartbeats 2000000 in
theorem walk (a : Option Addr) (len cap : Nat) (zs : List Int) (w : World) (hr : IsRow .u8 w a len cap zs) :
    Calls Try.prog 8 #[.slice a len cap] w fun x w' => x = .returned (.bool true) ∧ Below w.heap.size w w' := by
  by_cases hl : (len : Int) ≤ 1048576
  · obtain ⟨i0, hi, hz0, hz1, hz2⟩ := info_parts infoC
    have Hi := Lib.hid (And.intro hi (And.intro hz0 (And.intro hz1 hz2)))
    have us : (Try.prog.underlying 26).isSome = true := by rw [Try.underlying26]; rfl
    have Hu := Lib.hid us
    clear hi hz0 hz1 hz2 us
    go_enter Try.func8, Try.ntmps8
    go_wp2_with fail
    refine (Drw.big_no _ _ _ _ hl).mono ?_
    rintro e w' ⟨rfl, rfl⟩
    go_wp2_with fail
    refine (draw_unequal a len cap zs _ hr).mono ?_
    rintro e w1 ⟨n, g, cp, xs, v0, ⟨hxl, hn5, hwf⟩, rfl, hcg, hg, hcp, hb1⟩
    have Hx := Lib.hid (And.intro hxl (And.intro hwf (cnt_le xs)))
    have H1 := Lib.hid (And.intro hcg hb1)
    clear hcg hb1 hxl hwf hr
    have H0 := Lib.hid (show (w1.alloc (.cells #[] 26)).ownsRow w1.heap.size 26 1 (.slice (some ⟨w1.heap.size, 0, none⟩) 0 0) 0 (cV (ones 0)) ∧ Below w1.heap.size w1 (w1.alloc (.cells #[] 26)) from
      And.intro (World.ownsRow_lit (base := w1.heap.size) (e := 26) (size := 1) w1 #[] 0 (Nat.le_refl _) (Nat.zero_le _) rfl) ((Below.refl _ w1).alloc (Nat.le_refl _) _))
    go_wp2_with fail
    go_loopw [5, 6, 7] (fun v nv iv wr => ∃ (k m g' cap' : Nat), v = .slice (some ⟨g', 0, none⟩) k cap' ∧ nv = .int .i64 (m : Int) ∧ iv = .int .i64 (k : Int) ∧ Hid (m = min k (cnt xs)) ∧ k ≤ n ∧ wr.ownsRow w1.heap.size 26 1 v k (cV (ones k)) ∧ Below w1.heap.size w1 wr)
      (fun _ _ iv _ => n - (intOf iv).toNat)
    case atStart => exact ⟨0, 0, w1.heap.size, 0, rfl, rfl, rfl, Lib.hid (by simp), Nat.zero_le _, H0.out.1, H0.out.2⟩
    case round =>
      obtain ⟨k, m, g', cap', rfl, rfl, rfl, hm, hk, hown, hbl⟩ := hrel
      have Hr := Lib.hid (And.intro hown hbl)
      clear hown hbl
      by_cases hkn : k < n
      · have hkn' : (k : Int) < n := by omega
        have hxk : xs[k]? = some (xs[k]'(by rw [Hx.out.1]; omega)) := List.getElem?_eq_getElem _
        obtain ⟨p, hp⟩ : ∃ p, (xs[k]'(by rw [Hx.out.1]; omega)) = p := ⟨_, rfl⟩
        have hpw : p.1 < 4294967296 ∧ p.2 < 4294967296 := by rw [← hp]; exact Hx.out.2.1 _ (List.getElem_mem _)
        rw [hp] at hxk
        clear hp
        have Hp := Lib.hid (And.intro hxk hpw)
        clear hxk hpw
        have hn63 : k + 1 ≤ maxLen := by unfold maxLen; omega
        have hnby : (k + 1) * 8 ≤ 140737488355328 := by omega
        have hbs : w1.heap.size ≤ (wr.alloc (.cells #[.complex .f32 1065353216 0] 26)).heap.size := by
          have := Hr.out.2.size
          have e : (wr.alloc (.cells #[.complex .f32 1065353216 0] 26)).heap.size = wr.heap.size + 1 := by
            show (wr.heap.push _).size = _
            simp
          rw [e]; omega
        have Hown := Lib.hid (show (wr.alloc (.cells #[.complex .f32 1065353216 0] 26)).ownsRow w1.heap.size 26 1 _ _ _ from Hr.out.1.alloc (.cells #[.complex .f32 1065353216 0] 26))
        have Hnews := Lib.hid (one_cell wr (.complex .f32 1065353216 0) 26)
        have Hone := Lib.hid (one_oneC 1065353216 0)
        by_cases hmk : m = k
        · subst hmk
          go_wp2_with (at_builtin; refine wpList_append_lies _ rfl (.tmp 24) (.tmp 25) 48 rfl w1.heap.size 26 i0 (.complex .f32 0 0) 1 8 Try.underlying48 Hi.out.1 Hi.out.2.1 Hi.out.2.2.1 Hi.out.2.2.2 rfl (by decide) (.slice (some ⟨g', 0, none⟩) m cap') m (cV (ones m)) rfl Hown.out ⟨wr.heap.size, 0, none⟩ 1 1 [.complex .f32 1065353216 0] rfl rfl Hnews.out Hone.out (by omega) hn63 hnby hbs _ rfl ?_; intro g2 cap2 w5 hown1 hgrow1 hat1 hlt1; have H2 := Lib.hid (after_app (k := m) Hr.out.2 hbs (fun j hj => (Hown.out.lt j hj).1) hown1 hgrow1 Hr.out.2.size); clear hown1 hgrow1 hat1 hlt1; have c0 := cell_at H2.out.2 hg (H1.out.1 m hkn) Hp.out.1; obtain ⟨x, y, j, hx, hy, kc⟩ := run_widC (P := Try.prog) 26 36 Hu.out Try.underlying36 p.1 p.2 w5; have cF := fin_call hx hy; clear hx hy)
          refine (cF _).mono ?_
          rintro e w6 ⟨rfl, rfl⟩
          cases hf : finC p
          · have hc : Hid (m = min (m + 1) (cnt xs)) := Lib.hid <| by
              have h1 := hm.out
              rcases Nat.lt_or_ge m (cnt xs) with h2 | h2
              · have := cnt_fin xs m p h2 Hp.out.1
                rw [hf] at this; cases this
              · omega
            clear hf
            go_wp2_with fail
            go_roundw
            case rel => exact ⟨m + 1, m, g2, cap2, rfl, rfl, by go_num, hc, by omega, owns_drewN H2.out.1 _, below_drewN H2.out.2 _⟩
            case measure => simp [intOf]; omega
          · have hc : Hid (m + 1 = min (m + 1) (cnt xs)) := Lib.hid <| by
              have h1 := hm.out
              rcases Nat.lt_or_ge m (cnt xs) with h2 | h2
              · omega
              · have e : m = cnt xs := by omega
                have h3 := Hp.out.1
                rw [e] at h3
                have := cnt_not xs p h3
                rw [hf] at this; cases this
            clear hf
            go_wp2_with fail
            go_roundw
            case rel => exact ⟨m + 1, m + 1, g2, cap2, rfl, by go_num, by go_num, hc, by omega, owns_drewN H2.out.1 _, below_drewN H2.out.2 _⟩
            case measure => simp [intOf]; omega
        · have hmk' : ¬ (m : Int) = k := by omega
          have hc : Hid (m = min (k + 1) (cnt xs)) := Lib.hid <| by
            have h1 := hm.out
            omega
          go_wp2_with (at_builtin; refine wpList_append_lies _ rfl (.tmp 24) (.tmp 25) 48 rfl w1.heap.size 26 i0 (.complex .f32 0 0) 1 8 Try.underlying48 Hi.out.1 Hi.out.2.1 Hi.out.2.2.1 Hi.out.2.2.2 rfl (by decide) (.slice (some ⟨g', 0, none⟩) k cap') k (cV (ones k)) rfl Hown.out ⟨wr.heap.size, 0, none⟩ 1 1 [.complex .f32 1065353216 0] rfl rfl Hnews.out Hone.out (by omega) hn63 hnby hbs _ rfl ?_; intro g2 cap2 w5 hown1 hgrow1 hat1 hlt1; have H2 := Lib.hid (after_app (k := k) Hr.out.2 hbs (fun j hj => (Hown.out.lt j hj).1) hown1 hgrow1 Hr.out.2.size); clear hown1 hgrow1 hat1 hlt1)
          go_roundw
          case rel => exact ⟨k + 1, m, g2, cap2, rfl, rfl, by go_num, hc, by omega, H2.out.1, H2.out.2⟩
          case measure => simp [intOf]; omega
      · obtain rfl : k = n := by omega
        have hkn' : ¬ (k : Int) < k := by omega
        have hmc : m = cnt xs := by
          have h1 := hm.out
          have h2 := Hx.out.2.2
          rw [Hx.out.1] at h2
          omega
        have hcx := Hx.out.2.2
        rw [Hx.out.1] at hcx
        have cR := series_ratio g g' k cp cap' xs Hx.out.1 hn5 Hx.out.2.1 wr (Nat.lt_of_lt_of_le hg Hr.out.2.size) (Hr.out.1.lt g' rfl).2 (CellsC.below H1.out.1 hg Hr.out.2) (fun i hi => Hr.out.1.cellAt i (by omega))
        have hsl := slice_any g k cp (cnt xs) (by omega)
        clear hm hkn
        subst hmc
        have Hc := Lib.hid hcx
        obtain ⟨c, hc⟩ : ∃ c, cnt xs = c := ⟨_, rfl⟩
        unfold RatOut at cR
        rw [hc] at cR hsl Hc ⊢
        go_wp2_with fail
        refine cR.mono ?_
        rintro e w2 ⟨g3, cap3, ys, rfl, ⟨hyl, hyx⟩, hcy, hg3, hb2⟩
        have hb12 := Trn.below_on (B := w'.heap.size) (w := w') hb2 (H1.out.2.trans (Hr.out.2.mono H1.out.2.size)) (Nat.le_trans H1.out.2.size Hr.out.2.size)
        have cU := first_any g3 g c cap3 cp ys xs (by omega) (by rw [Hx.out.1]; exact Hc.out) (by have := Hc.out; omega) w2 hcy (CellsC.below (show CellsC w1 g c xs from fun i hi => H1.out.1 i (by have := Hc.out; omega)) hg (Hr.out.2.trans (hb2.mono Hr.out.2.size))) hyx
        have Hb := Lib.hid hb12
        clear hb12 hyl hyx hcy hb2
        go_wp2_with fail
        refine cU.mono ?_
        rintro e w3 ⟨rfl, hb3⟩
        have Hb3 := Lib.hid (Trn.below_on (B := w'.heap.size) (w := w') hb3 Hb.out Hb.out.size)
        clear hb3
        go_wp2_with fail
        go_ret
        exact ⟨rfl, Hb3.out⟩
  · go_enter Try.func8, Try.ntmps8
    go_wp2_with fail
    refine (Drw.big_yes _ _ _ _ (by omega)).mono ?_
    rintro e w' ⟨rfl, rfl⟩
    go_wp2_with fail
    go_ret
    exact ⟨rfl, Below.refl _ _⟩
end Go.Proofs.Ytegcgbddoeoipaa.fnSeries
