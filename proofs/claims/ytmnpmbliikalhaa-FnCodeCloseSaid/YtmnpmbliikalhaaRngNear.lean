/- The contracts of the model's draw of a reading, and of ranges with a reading. -/
import Derived.Test.YtmnpmbliikalhaaRngDrw
import Derived.Deep.RegionWith
namespace Go.Proofs.Ytmnpmbliikalhaa.Rng
open Go.ChangeShapes Go.WideShapes Go.ChangeAt Go.RowKit Go.Proofs.Ytmnpmbliikalhaa Go.Proofs.Ytmnpmbliikalhaa.Flt Go.Proofs.Ytmnpmbliikalhaa.Mth Go.Proofs.Ytmnpmbliikalhaa.Drw
set_option linter.unusedVariables false
theorem cells_only {w w' : World} {B g off n : Nat} {X : Nat → Nat} (h : Cells w g off n X) (hg : g < w.heap.size) (hne : g ≠ B) (ho : Only B w w') : Cells w' g off n X := fun i hi => by
  obtain ⟨h0, h1, h2⟩ := h i hi
  refine ⟨?_, ?_, ?_⟩
  · rw [ho.cell (by exact hg) (by exact hne)]; exact h0
  · rw [ho.cell (by exact hg) (by exact hne)]; exact h1
  · rw [ho.cell (by exact hg) (by exact hne)]; exact h2
set_option maxHeartbeats 4000000 in
theorem near_any (base B g n cap : Nat) (X : Nat → Nat) (w : World) (hc : Cur base w B) (hn : 1 ≤ n) (hn5 : n ≤ 5) (hg : g < w.heap.size) (hne : g ≠ B) (hcells : Cells w g 0 n X) (hw : Wf n X) :
    Calls Try.prog 46 #[.pointer (some ⟨B, 0, none⟩), .slice (some ⟨g, 0, none⟩) n cap] w (SingleOut base B w) := by
  have HC := Lib.hid (And.intro hcells hw)
  clear hcells hw
  have hn0 : ¬ n = 0 := by omega
  go_enter Try.func46, Try.ntmps46
  go_wp2_with fail
  refine (once_any' base B 4 _ hc (by omega)).mono ?_
  rintro e w1 ⟨b, rfl, hc1, ho1⟩
  have H1 := Lib.hid (And.intro hc1 ho1)
  clear hc1 ho1 hc
  cases b
  · go_wp2_with fail
    refine (below_any base B _ _ H1.out.1 (by omega)).mono ?_
    rintro e w2 ⟨r, r0, r1, rfl, hc2, ho2⟩
    obtain ⟨k, rfl⟩ := Int.eq_ofNat_of_zero_le r0
    have hk : k < n := by have := r1 (by omega); omega
    have H2 := Lib.hid (And.intro hc2 (H1.out.2.trans ho2))
    clear hc2 ho2 r1 r0
    obtain ⟨a0, a1, a2⟩ := (cells_only HC.out.1 hg hne H2.out.2) k hk
    obtain ⟨v0, v1, v2⟩ := HC.out.2 k hk
    rw [Nat.zero_add] at a0 a1 a2
    obtain ⟨f, hf⟩ : ∃ f, X (k * 3) = f := ⟨_, rfl⟩
    obtain ⟨d, hd⟩ : ∃ f, X (k * 3 + 1) = f := ⟨_, rfl⟩
    obtain ⟨u, hu⟩ : ∃ f, X (k * 3 + 2) = f := ⟨_, rfl⟩
    rw [hf] at a0 v0
    rw [hd] at a1 v1
    rw [hu] at a2 v2
    have hBr : B < w2.heap.size := H2.out.1.lt
    go_wp2_with fail
    refine (below_any base B _ _ (H2.out.1.alloc _) (by omega)).mono ?_
    rintro e w3 ⟨r, r0, r1, rfl, hc3, ho3⟩
    have hR3 := (ho3.block w2.heap.size (by rw [sz_alloc]; omega) (by omega)).trans (block_new w2 _)
    have H3 := Lib.hid (And.intro hc3 ((H2.out.2.alloc _).trans ho3))
    have r5 := r1 (by omega)
    clear hc3 ho3 r1 hf hd hu
    obtain ⟨q0, q1, q2, q3, q4⟩ := r_cells hR3
    by_cases e0 : r = 0
    · subst e0
      go_wp2_with fail
      refine (once_any' base B 2 _ H3.out.1 (by omega)).mono ?_
      rintro e w8 ⟨b, rfl, hc8, ho8⟩
      have H8 := Lib.hid (And.intro hc8 (H3.out.2.trans ho8))
      clear hc8 ho8
      cases b
      · go_wp2_with fail
        go_ret
        exact ⟨u, v2, rfl, H8.out.1, H8.out.2⟩
      · go_wp2_with fail
        go_ret
        exact ⟨_, neg_wf v2, rfl, H8.out.1, H8.out.2⟩
    have b0 : (r == 0) = false := beq_eq_false_iff_ne.2 e0
    by_cases e1 : r = 1
    · subst e1
      go_wp2_with fail
      refine (once_any' base B 2 _ H3.out.1 (by omega)).mono ?_
      rintro e w8 ⟨b, rfl, hc8, ho8⟩
      have H8 := Lib.hid (And.intro hc8 (H3.out.2.trans ho8))
      clear hc8 ho8
      cases b
      · go_wp2_with fail
        go_ret
        exact ⟨d, v1, rfl, H8.out.1, H8.out.2⟩
      · go_wp2_with fail
        go_ret
        exact ⟨_, neg_wf v1, rfl, H8.out.1, H8.out.2⟩
    have b1 : (r == 1) = false := beq_eq_false_iff_ne.2 e1
    by_cases e2 : r = 2
    · subst e2
      clear b0 b1
      go_wp2_with fail
      have H3d := Lib.hid (And.intro (H3.out.1.drewN 1) (H3.out.2.drewN 1))
      have hq0 : (w3.drew).cell? ⟨w2.heap.size, 0, none⟩ = some (.float .f32 f) := q0
      have hsz : w2.heap.size < w3.drew.heap.size := lt_of_block hR3
      have hneB : w2.heap.size ≠ B := by omega
      go_region_with (go_at_call 58; refine (below_any base B _ w3.drew H3d.out.1 (by omega)).mono ?_; rintro e w4 ⟨y, y0, y1, rfl, hc4, ho4⟩; have H4 := Lib.hid (And.intro hc4 (H3d.out.2.trans ho4)); have hq4 := (ho4.cell (p := ⟨w2.heap.size, 0, none⟩) hsz hneB).trans hq0; obtain ⟨p1, n1, wp1, _, kp1⟩ := run_float_any (P := Try.prog) .mul (.inr (.inr (.inl rfl))) 25 .f32 f (floatOfInt .f32 y) w4; obtain ⟨p2, n2, wp2, _, kp2⟩ := run_float_any (P := Try.prog) .quo (.inr (.inr (.inr rfl))) 25 .f32 p1 1132462080 (w4.drewN n1); have H5 := Lib.hid (And.intro (H4.out.1.drewN (n1 + n2)) (H4.out.2.drewN (n1 + n2))); clear hc4 ho4 y1)
      all_goals
        go_wp2_with fail
        refine (once_any' base B 2 _ H5.out.1 (by omega)).mono ?_
        rintro e w8 ⟨b, rfl, hc8, ho8⟩
        have H8 := Lib.hid (And.intro hc8 (H5.out.2.trans ho8))
        clear hc8 ho8
        cases b
        · go_wp2_with fail
          go_ret
          exact ⟨p2, wp2, rfl, H8.out.1, H8.out.2⟩
        · go_wp2_with fail
          go_ret
          exact ⟨_, neg_wf wp2, rfl, H8.out.1, H8.out.2⟩
    have b2 : (r == 2) = false := beq_eq_false_iff_ne.2 e2
    by_cases e3 : r = 3
    · subst e3
      clear b0 b1 b2
      obtain ⟨p1, n1, wp1, _, kp1⟩ := run_float_any (P := Try.prog) .mul (.inr (.inr (.inl rfl))) 25 .f32 u 1132494848 w3
      obtain ⟨p2, n2, wp2, _, kp2⟩ := run_float_any (P := Try.prog) .quo (.inr (.inr (.inr rfl))) 25 .f32 p1 1132462080 (w3.drewN n1)
      have H5 := Lib.hid (And.intro (H3.out.1.drewN (n1 + n2)) (H3.out.2.drewN (n1 + n2)))
      go_wp2_with fail
      refine (once_any' base B 2 _ H5.out.1 (by omega)).mono ?_
      rintro e w8 ⟨b, rfl, hc8, ho8⟩
      have H8 := Lib.hid (And.intro hc8 (H5.out.2.trans ho8))
      clear hc8 ho8
      cases b
      · go_wp2_with fail
        go_ret
        exact ⟨p2, wp2, rfl, H8.out.1, H8.out.2⟩
      · go_wp2_with fail
        go_ret
        exact ⟨_, neg_wf wp2, rfl, H8.out.1, H8.out.2⟩
    have b3 : (r == 3) = false := beq_eq_false_iff_ne.2 e3
    go_wp2_with fail
    refine (once_any' base B 2 _ H3.out.1 (by omega)).mono ?_
    rintro e w8 ⟨b, rfl, hc8, ho8⟩
    have H8 := Lib.hid (And.intro hc8 (H3.out.2.trans ho8))
    clear hc8 ho8
    cases b
    · go_wp2_with fail
      go_ret
      exact ⟨f, v0, rfl, H8.out.1, H8.out.2⟩
    · go_wp2_with fail
      go_ret
      exact ⟨_, neg_wf v0, rfl, H8.out.1, H8.out.2⟩
  · go_wp2_with fail
    refine (single_any base B _ H1.out.1).mono ?_
    rintro e w2 ⟨x, wx, rfl, hc2, ho2⟩
    have H2 := Lib.hid (And.intro hc2 (H1.out.2.trans ho2))
    clear hc2 ho2
    go_wp2_with fail
    go_ret
    exact ⟨x, wx, rfl, H2.out.1, H2.out.2⟩
/-- valid ranges and a reading -/
def RangesOut (w : World) (e : Ending) (w' : World) : Prop := ∃ g n cap X x, e = .returned (.tuple #[.slice (some ⟨g, 0, none⟩) n cap, .float .f32 x]) ∧ 1 ≤ n ∧ n ≤ 5 ∧ okB n X = true ∧ Wf n X ∧ g < w'.heap.size ∧ Cells w' g 0 n X ∧ (Lit.float .f32 x).wf = true ∧ Below w.heap.size w w'
theorem draw_ranges (a : Option Addr) (len cap : Nat) (zs : List Int) (w : World) (hr : IsRow .u8 w a len cap zs) :
    Calls Try.prog 16 #[.slice a len cap] w (RangesOut w) := by
  go_enter Try.func16, Try.ntmps16
  go_wp2_with fail
  refine (new_any a len cap zs _ hr).mono ?_
  rintro e w1 ⟨rfl, hc, hb⟩
  have Hb := Lib.hid hb
  clear hb hr
  go_wp2_with fail
  refine (ranges_any _ _ _ hc).mono ?_
  rintro e w2 ⟨g, n, cp, X, rfl, n1, n5, hok, hw, hBg, hcells, hc2, ho2⟩
  have H2 := Lib.hid (And.intro (Hb.out.trans (ho2.below (Nat.le_refl _) Hb.out.size)) (And.intro hok (And.intro hw hcells)))
  have hgl : g < w2.heap.size := lt_of_cell (hcells 0 (by omega)).1
  clear hc ho2 hok hw hcells
  go_wp2_with fail
  refine (near_any _ _ g n cp X _ hc2 n1 n5 hgl (by omega) H2.out.2.2.2 H2.out.2.2.1).mono ?_
  rintro e w3 ⟨x, wx, rfl, hc3, ho3⟩
  have H3 := Lib.hid (And.intro (H2.out.1.trans (ho3.below (Nat.le_refl _) H2.out.1.size)) (cells_only H2.out.2.2.2 hgl (by omega) ho3))
  have hgl3 := Nat.lt_of_lt_of_le hgl ho3.size
  clear hc3 ho3 hc2
  go_wp2_with fail
  go_ret2
  exact ⟨g, n, cp, X, x, rfl, n1, n5, H2.out.2.1, H2.out.2.2.1, hgl3, H3.out.2, wx, H3.out.1⟩
end Go.Proofs.Ytmnpmbliikalhaa.Rng
