/- The contract of RatioSeries over ones. -/
import Derived.Test.YtegcgbddoeoipaaFnSeriesB
import Derived.Test.YtegcgbddoeoipaaQuiS
namespace Go.Proofs.Ytegcgbddoeoipaa.fnSeries
open Go.ChangeShapes Go.WideShapes Go.ChangeAt Go.RowKit Go.Proofs.Ytegcgbddoeoipaa Go.Proofs.Ytegcgbddoeoipaa.Flt Go.Proofs.Ytegcgbddoeoipaa.Mth Go.Proofs.Ytegcgbddoeoipaa.Cpx Go.Proofs.Ytegcgbddoeoipaa.Drw
open Ieee (single double)
set_option linter.unusedVariables false
theorem makeC_any (n : Nat) (hn : n ≤ 100) (w : World) :
    (Instr.makeSlice 48 (.int .i64 0) (.int .i64 (n : Int))).run Try.prog w = .ok (.slice (some ⟨w.heap.size, 0, none⟩) 0 n) (w.alloc (.cells (madeCells #[.complex .f32 0 0] n) 26)) := by
  obtain ⟨i, hi, hz, hs, hb⟩ := info_parts infoC
  have h := run_make (P := Try.prog) w 48 26 i _ Try.underlying48 hi hz .i64 .i64 0 n (by omega) (by omega) (by rw [hb]; omega) (by omega)
  rw [hs] at h
  rw [show (Value.complex .f32 0 0).cells = #[.complex .f32 0 0] from rfl] at h
  simpa [Nat.mul_one] using h
def ones (n : Nat) : List (Nat × Nat) := List.replicate n (1065353216, 0)
theorem ones_at {n i : Nat} (h : i < n) : (cV (ones n))[i]? = some (.complex .f32 1065353216 0) := by
  unfold cV ones
  rw [List.getElem?_map, List.getElem?_replicate, if_pos h]; rfl
theorem EqL.add {ys xs : List (Nat × Nat)} {p : Nat × Nat} (h : EqL ys xs) (hp : ∀ q, xs[ys.length]? = some q → (eqW single p.1 q.1 && eqW single p.2 q.2) = true) : EqL (ys ++ [p]) xs := by
  intro i a b ha hb
  rcases Nat.lt_trichotomy i ys.length with hi | hi | hi
  · rw [List.getElem?_append_left hi] at ha
    exact h i a b ha hb
  · subst hi
    rw [List.getElem?_append_right (Nat.le_refl _), Nat.sub_self] at ha
    simp at ha
    subst ha
    exact hp b hb
  · rw [List.getElem?_eq_none (by simp; omega)] at ha; cases ha
theorem CellsC.below {w w' : World} {g k B : Nat} {xs : List (Nat × Nat)} (h : CellsC w g k xs) (hg : g < B) (hb : Below B w w') : CellsC w' g k xs := fun i hi => by
  rw [hb.cell (by exact hg)]; exact h i hi
theorem owns_drewN {w : World} {base e size n : Nat} {v : Value} {xs : List Value} (h : w.ownsRow base e size v n xs) (k : Nat) : (w.drewN k).ownsRow base e size v n xs := h
def RatOut (xs : List (Nat × Nat)) (w : World) (e : Ending) (w' : World) : Prop :=
  ∃ (g cap : Nat) (ys : List (Nat × Nat)), e = .returned (.tuple #[.slice (some ⟨g, 0, none⟩) (cnt xs) cap, .int .i64 (cnt xs : Int)]) ∧ (ys.length = cnt xs ∧ EqL ys xs) ∧ CellsC w' g (cnt xs) ys ∧ w.heap.size ≤ g ∧ Below w.heap.size w w'
set_option maxHeartbeats 2000000 in
theorem series_ratio (g h n cp cq : Nat) (xs : List (Nat × Nat)) (hx : xs.length = n) (hn : n ≤ 5) (hw : wfC xs) (w : World) (hg : g < w.heap.size) (hh : h < w.heap.size) (cg : CellsC w g n xs) (ch : CellsC w h n (ones n)) :
    Calls Try.prog 29 #[.slice (some ⟨g, 0, none⟩) n cp, .slice (some ⟨h, 0, none⟩) n cq] w (RatOut xs w) := by
  have Hg := Lib.hid (And.intro cg ch)
  have Hx := Lib.hid (And.intro hx hw)
  have hcn := cnt_le xs
  have hmk := makeC_any n (by omega)
  have hn40 : decide ((40 : Int) < n) = false := decide_eq_false (by omega)
  have hn40' : ¬ (40 : Int) < n := by omega
  obtain ⟨i0, hi, hz0, hz1, hz2⟩ := info_parts infoC
  have Hi := Lib.hid (And.intro hi (And.intro hz0 (And.intro hz1 hz2)))
  clear cg ch hw hi hz0 hz1 hz2
  rw [hx] at hcn
  clear hx
  go_enter Try.func29, Try.ntmps29
  go_wp2_with fail
  have H0 := Lib.hid (show (w.alloc (.cells (madeCells #[.complex .f32 0 0] n) 26)).ownsRow w.heap.size 26 1 (.slice (some ⟨w.heap.size, 0, none⟩) 0 n) 0 (cV []) ∧ Below w.heap.size w (w.alloc (.cells (madeCells #[.complex .f32 0 0] n) 26)) from
    And.intro (World.ownsRow_made w _ n (Nat.le_refl _) (by unfold maxLen; omega) (by rw [size_madeCells]; omega)) ((Below.refl _ w).alloc (Nat.le_refl _) _))
  go_loopw [6, 25] (fun v i wr => ∃ (k g' cap : Nat) (ys : List (Nat × Nat)), v = .slice (some ⟨g', 0, none⟩) k cap ∧ i = .int .i64 (k : Int) ∧ Hid (k ≤ cnt xs ∧ ys.length = k ∧ EqL ys xs) ∧ k ≤ n ∧ wr.ownsRow w.heap.size 26 1 v k (cV ys) ∧ Below w.heap.size w wr)
    (fun _ i _ => n - (intOf i).toNat)
  case atStart => exact ⟨0, w.heap.size, n, [], rfl, rfl, Lib.hid ⟨Nat.zero_le _, rfl, fun _ _ _ h => by simp at h⟩, Nat.zero_le _, H0.out.1, H0.out.2⟩
  case round =>
    obtain ⟨k, g', cap, ys, rfl, rfl, hys, hk, hown, hbl⟩ := hrel
    have Hr := Lib.hid (And.intro hown hbl)
    clear hown hbl
    have hfin := fun (w' : World) (hb : Below w.heap.size w w') (ho : w'.ownsRow w.heap.size 26 1 (.slice (some ⟨g', 0, none⟩) k cap) k (cV ys)) (hc : k = cnt xs) =>
      (show RatOut xs w (.returned (.tuple #[.slice (some ⟨g', 0, none⟩) k cap, .int .i64 (k : Int)])) w' from
        ⟨g', cap, ys, by rw [hc], ⟨by rw [← hc]; exact hys.out.2.1, hys.out.2.2⟩, fun i hi => ho.cellAt i (by omega), (ho.lt g' rfl).1, hb⟩)
    have Hfin := Lib.hid hfin
    clear hfin
    by_cases hkn : k < n
    · have hkn' : (k : Int) < n := by omega
      have c0 : wr.cell? ⟨g, k, none⟩ = some (.complex .f32 (xs[k]'(by rw [Hx.out.1]; omega)).1 (xs[k]'(by rw [Hx.out.1]; omega)).2) := by
        rw [Hr.out.2.cell (by exact hg), Hg.out.1 k hkn]; unfold cV; rw [List.getElem?_map, List.getElem?_eq_getElem (by rw [Hx.out.1]; omega)]; rfl
      have c1 : wr.cell? ⟨h, k, none⟩ = some (.complex .f32 1065353216 0) := by
        rw [Hr.out.2.cell (by exact hh), Hg.out.2 k hkn]; exact ones_at hkn
      have hxk : xs[k]? = some (xs[k]'(by rw [Hx.out.1]; omega)) := List.getElem?_eq_getElem _
      obtain ⟨p, hp⟩ : ∃ p, (xs[k]'(by rw [Hx.out.1]; omega)) = p := ⟨_, rfl⟩
      have hpw : p.1 < 4294967296 ∧ p.2 < 4294967296 := by rw [← hp]; exact Hx.out.2 _ (List.getElem_mem _)
      rw [hp] at c0 hxk
      clear hp
      have cE := fun W => ratioS_ex p.1 p.2 hpw.1 hpw.2 W
      have Hp := Lib.hid hxk
      clear hxk hpw
      go_wp2_with fail
      refine wp_region_S_drew (by kernel_rfl) (by kernel_rfl) ?_
      repeat (refine wpS_want (by kernel_rfl) ?_; intro K hK; refine quietS_of (by kernel_rfl) ?_; go_big_quiet_op; go_big_quiet_on)
      refine wpS_want (by kernel_rfl) ?_
      intro K hK
      refine quietS_callS (SingleV p.1 p.2) 50 #[.complex .f32 p.1 p.2, .complex .f32 1065353216 0] (by kernel_rfl) (fun w' => ?_) (fun w' hw' => ?_) ⟨0, rfl⟩ ?_
      · simp [go_sem]
      · obtain ⟨j, rfl⟩ := hw'
        obtain ⟨v, hv, hc⟩ := cE (wr.drewN j)
        exact ⟨v, hv, hc.mono fun e w2 ⟨he, m, hw2⟩ => ⟨he, j + m, by rw [hw2, World.drewN_drewN]⟩⟩
      rintro v (⟨hf, rfl⟩ | ⟨hf, x, y, ⟨⟨lx, ly⟩, he⟩, rfl⟩)
      · have hc : Hid (k = cnt xs) := Lib.hid <| by
          rcases Nat.lt_or_ge k (cnt xs) with h1 | h1
          · have := cnt_fin xs k p h1 Hp.out
            rw [show finC p = false from hf] at this; cases this
          · exact Nat.le_antisymm hys.out.1 h1
        go_big_quiet_op
        go_big_quiet_on
        repeat (refine wpS_want (by kernel_rfl) ?_; intro K hK; refine quietS_of (by kernel_rfl) ?_; go_big_quiet_op; go_big_quiet_on)
        refine wpQuietS_nil ?_
        rintro _ ⟨j, rfl⟩
        go_wp2_with fail
        go_ret2
        exact Hfin.out _ (below_drewN Hr.out.2 _) (owns_drewN Hr.out.1 _) hc.out
      · have hc : Hid (k + 1 ≤ cnt xs) := Lib.hid <| by
          rcases Nat.lt_or_ge k (cnt xs) with h1 | h1
          · exact h1
          · have e : k = cnt xs := Nat.le_antisymm hys.out.1 h1
            have := Hp.out
            rw [e] at this
            have h2 := cnt_not xs p this
            rw [show finC p = true from hf] at h2; cases h2
        have He := Lib.hid (show EqL (ys ++ [(x, y)]) xs from hys.out.2.2.add (fun q hq => by
          rw [hys.out.2.1, Hp.out] at hq
          cases hq
          exact he))
        clear he lx ly hf
        go_big_quiet_op
        go_big_quiet_on
        repeat (refine wpS_want (by kernel_rfl) ?_; intro K hK; refine quietS_of (by kernel_rfl) ?_; go_big_quiet_op; go_big_quiet_on)
        refine wpQuietS_nil ?_
        rintro _ ⟨j, rfl⟩
        have Hr2 := Lib.hid (And.intro (owns_drewN Hr.out.1 j) (below_drewN Hr.out.2 j))
        have hn63 : k + 1 ≤ maxLen := by unfold maxLen; omega
        have hnby : (k + 1) * 8 ≤ 140737488355328 := by omega
        have hbs : w.heap.size ≤ ((wr.drewN j).alloc (.cells #[.complex .f32 x y] 26)).heap.size := by
          have := Hr2.out.2.size
          have e : ((wr.drewN j).alloc (.cells #[.complex .f32 x y] 26)).heap.size = (wr.drewN j).heap.size + 1 := by
            show ((wr.drewN j).heap.push _).size = _
            simp
          rw [e]; omega
        have Hown := Lib.hid (show ((wr.drewN j).alloc (.cells #[.complex .f32 x y] 26)).ownsRow w.heap.size 26 1 _ _ _ from Hr2.out.1.alloc (.cells #[.complex .f32 x y] 26))
        have Hnews := Lib.hid (one_cell (wr.drewN j) (.complex .f32 x y) 26)
        have Hone := Lib.hid (one_oneC x y)
        go_wp2_with (at_builtin; refine wpList_append_lies _ rfl (.tmp 42) (.tmp 44) 48 rfl w.heap.size 26 i0 (.complex .f32 0 0) 1 8 Try.underlying48 Hi.out.1 Hi.out.2.1 Hi.out.2.2.1 Hi.out.2.2.2 rfl (by decide) (.slice (some ⟨g', 0, none⟩) k cap) k (cV ys) rfl Hown.out ⟨(wr.drewN j).heap.size, 0, none⟩ 1 1 [.complex .f32 x y] rfl rfl Hnews.out Hone.out (by omega) hn63 hnby hbs _ rfl ?_; intro g2 cap2 w5 hown1 hgrow1 hat1 hlt1)
        have H2 := Lib.hid (show w5.ownsRow w.heap.size 26 1 (.slice (some ⟨g2, 0, none⟩) (k + 1) cap2) (k + 1) (cV (ys ++ [(x, y)])) ∧ Below w.heap.size w w5 from ⟨by
          unfold cV
          rw [List.map_append]
          exact hown1, (Hr2.out.2.alloc Hr2.out.2.size _).grown hgrow1 hbs (fun j hj => (Hown.out.lt j hj).1)⟩)
        clear hown1 hgrow1 hat1 hlt1
        go_wp2_with fail
        go_roundw
        case rel => exact ⟨k + 1, g2, cap2, ys ++ [(x, y)], rfl, by go_num, Lib.hid ⟨hc.out, by rw [List.length_append, hys.out.2.1]; rfl, He.out⟩, by omega, H2.out.1, H2.out.2⟩
        case measure => simp [intOf]; omega
    · obtain rfl : k = n := by omega
      have hkn' : ¬ (k : Int) < k := by omega
      go_wp2_with fail
      go_ret2
      exact Hfin.out _ Hr.out.2 Hr.out.1 (Nat.le_antisymm hys.out.1 hcn)
end Go.Proofs.Ytegcgbddoeoipaa.fnSeries
