/- The model's draw of slots' values, and of an expression with them. -/
import Derived.Test.YtlngplohnknhjaaGreatDoorKExpK
namespace Go.Proofs.YtlngplohnknhjaaGreatDoor.Ex
open Go.ChangeShapes Go.WideShapes Go.ChangeAt Go.RowKit Go.Proofs.YtlngplohnknhjaaGreatDoor Go.Proofs.YtlngplohnknhjaaGreatDoor.Flt Go.Proofs.YtlngplohnknhjaaGreatDoor.Mth Go.Proofs.YtlngplohnknhjaaGreatDoor.Drw
set_option linter.unusedVariables false
/-- words -/
def wfZ (xs : List (Nat × Nat)) : Prop := ∀ z ∈ xs, z.1 < 18446744073709551616 ∧ z.2 < 18446744073709551616
theorem wfZ_snoc {xs : List (Nat × Nat)} {x y : Nat} (h : wfZ xs) (hx : x < 18446744073709551616 ∧ y < 18446744073709551616) : wfZ (xs ++ [(x, y)]) := fun z hz => by
  rcases List.mem_append.1 hz with h1 | h1
  · exact h z h1
  · obtain rfl : z = (x, y) := by simpa using h1
    exact hx
/-- some slots -/
def SlotsOut (base B : Nat) (w : World) (e : Ending) (w' : World) : Prop :=
  ∃ (g cp : Nat) (xs : List (Nat × Nat)), (2 ≤ xs.length ∧ xs.length ≤ 5 ∧ wfZ xs) ∧ e = .returned (.slice (some ⟨g, 0, none⟩) xs.length cp) ∧ OwnZ w.heap.size w' (.slice (some ⟨g, 0, none⟩) xs.length cp) xs.length xs ∧ Cur base w' B ∧ Only B w w'
set_option maxHeartbeats 3200000 in
theorem slots_any (base B : Nat) (w : World) (hc : Cur base w B) :
    Calls Tryz.prog 17 #[.pointer (some ⟨B, 0, none⟩)] w (SlotsOut base B w) := by
  have hBw := hc.lt
  obtain ⟨i0, hi, hz, hs, hby⟩ := info_partsZ
  have Hi := Lib.hid (And.intro hi (And.intro hz (And.intro hs hby)))
  have Hn := Lib.hid (And.intro (hc.alloc (.cells #[] 42)) (And.intro ((Only.refl B w).alloc (.cells #[] 42)) (litZ0 w)))
  clear hc hi hz hs hby
  go_enter Tryz.func17, Tryz.ntmps17
  go_wp2_with fail
  refine (below_any base B _ _ Hn.out.1 (by omega)).mono ?_
  rintro e w1 ⟨r, r0, r1, rfl, hc1, ho1⟩
  obtain ⟨m0, rfl⟩ := Int.eq_ofNat_of_zero_le r0
  have hm0 : m0 < 4 := by have := r1 (by omega); omega
  have H1 := Lib.hid (And.intro hc1 (And.intro (Hn.out.2.1.trans ho1) (show OwnZ _ _ _ _ _ from owns_only Hn.out.2.2 ho1 hBw)))
  clear hc1 ho1 r1 r0 Hn
  obtain ⟨q0, hq0⟩ : ∃ q0 : Nat, 2 + m0 = q0 := ⟨_, rfl⟩
  have hw2 : IntKind.i64.wrap (2 + (m0 : Int)) = (q0 : Int) := by rw [IntKind.wrap_i64]; omega
  have hw3 : (2 : Int) + (m0 : Int) = (q0 : Int) := by omega
  go_wp2_with fail
  go_loopw [3, 4] (fun vo vn wr => ∃ (r m g cp : Nat) (xs : List (Nat × Nat)), vo = .slice (some ⟨g, 0, none⟩) r cp ∧ vn = .int .i64 ((m : Nat) : Int) ∧ r + m = q0 ∧ Hid (xs.length = r ∧ wfZ xs) ∧ OwnZ w.heap.size wr vo r xs ∧ Cur base wr B ∧ Only B w wr)
    (fun _ vn _ => (intOf vn).toNat)
  case atStart => exact ⟨0, q0, _, _, [], rfl, rfl, by omega, Lib.hid ⟨rfl, fun s h => (by cases h)⟩, H1.out.2.2, H1.out.1, H1.out.2.1⟩
  case round =>
    obtain ⟨r, m, g0, cp, xs, rfl, rfl, hrm, hxs, hown, hcr, hor⟩ := hrel
    have Hr := Lib.hid (And.intro hown (And.intro hcr hor))
    clear hown hcr hor
    rcases m with _ | m
    · go_wp2_with fail
      go_ret
      have hl := hxs.out.1
      subst hl
      exact ⟨g0, cp, xs, ⟨by omega, by omega, hxs.out.2⟩, rfl, Hr.out.1, Hr.out.2.1, Hr.out.2.2⟩
    · go_wp2_with fail
      refine (mildZ_any base B _ Hr.out.2.1).mono ?_
      rintro e w4 ⟨x, y, ⟨⟨wx, _⟩, wy, _⟩, rfl, hc4, ho4⟩
      have H4 := Lib.hid (And.intro hc4 (And.intro (Hr.out.2.2.trans ho4) (show OwnZ w.heap.size w4 _ _ _ from owns_only Hr.out.1 ho4 hBw)))
      clear hc4 ho4
      go_wp2_with fail
      refine (once_any' base B 10 _ H4.out.1 (by omega)).mono ?_
      rintro e w5 ⟨b, rfl, hc5, ho5⟩
      have H5 := Lib.hid (And.intro hc5 (And.intro (H4.out.2.1.trans ho5) (show OwnZ w.heap.size w5 _ _ _ from owns_only H4.out.2.2 ho5 hBw)))
      clear hc5 ho5
      have hn63 : r + 1 ≤ maxLen := by unfold maxLen; omega
      have hnby : (r + 1) * 16 ≤ 140737488355328 := by omega
      cases b
      · have Hm := Lib.hid (wfZ_snoc hxs.out.2 ⟨wx, wy⟩)
        have hsz4 := H5.out.2.1.size
        have hbs : w.heap.size ≤ (w5.alloc (.cells #[.complex .f64 x y] 42)).heap.size := by rw [World.size_alloc]; omega
        have Hown := Lib.hid (show (w5.alloc (.cells #[.complex .f64 x y] 42)).ownsRow w.heap.size 42 1 _ _ _ from World.ownsRow.alloc H5.out.2.2 (.cells #[.complex .f64 x y] 42))
        have Hnews := Lib.hid (one_cellZ w5 x y)
        have Hone := Lib.hid (one_oneZ x y)
        clear wx wy
        go_wp2_with (at_builtin; go_loud (refine wpList_append_lies _ rfl (.tmp 20) (.tmp 22) 25 rfl w.heap.size 42 i0 (.complex .f64 0 0) 1 16 Tryz.underlying25 Hi.out.1 Hi.out.2.1 Hi.out.2.2.1 Hi.out.2.2.2 rfl (by decide) (.slice (some ⟨g0, 0, none⟩) r cp) r (cZ xs) rfl Hown.out ⟨w5.heap.size, 0, none⟩ 1 1 [.complex .f64 x y] rfl rfl Hnews.out Hone.out (by omega) hn63 hnby hbs _ rfl ?_; intro g cap1 w6 hown1 hgrow1 hat1 hlt1))
        have H6 := Lib.hid (show OwnZ w.heap.size w6 (.slice (some ⟨g, 0, none⟩) (r + 1) cap1) (r + 1) (xs ++ [(x, y)]) ∧ Cur base w6 B ∧ Only B w w6 from ⟨by
          unfold OwnZ
          rw [← cZ_snoc]
          exact hown1, cur_grown (H5.out.1.alloc _) hgrow1 (fun k hk => by have := (Hown.out.lt k hk).1; omega), only_grown (H5.out.2.1.alloc _) hgrow1 (fun k hk => (Hown.out.lt k hk).1)⟩)
        clear hown1 hgrow1 hat1 hlt1
        go_wp2_with fail
        go_roundw
        case rel => exact ⟨r + 1, m, g, cap1, xs ++ [(x, y)], rfl, by go_num, by omega, Lib.hid ⟨by rw [List.length_append, hxs.out.1]; rfl, Hm.out⟩, H6.out.1, H6.out.2.1, H6.out.2.2⟩
        case measure => first | (simp [intOf]; done) | (simp [intOf]; omega)
      · go_wp2_with fail
        refine (complex_any base B _ H5.out.1).mono ?_
        rintro e w5a ⟨x, y, wx, wy, rfl, hc5, ho5⟩
        have H5a := Lib.hid (And.intro hc5 (And.intro (H5.out.2.1.trans ho5) (show OwnZ w.heap.size w5a _ _ _ from owns_only H5.out.2.2 ho5 hBw)))
        have Hm := Lib.hid (wfZ_snoc hxs.out.2 ⟨lt_double wx, lt_double wy⟩)
        have hsz4 := H5a.out.2.1.size
        have hbs : w.heap.size ≤ (w5a.alloc (.cells #[.complex .f64 x y] 42)).heap.size := by rw [World.size_alloc]; omega
        have Hown := Lib.hid (show (w5a.alloc (.cells #[.complex .f64 x y] 42)).ownsRow w.heap.size 42 1 _ _ _ from World.ownsRow.alloc H5a.out.2.2 (.cells #[.complex .f64 x y] 42))
        have Hnews := Lib.hid (one_cellZ w5a x y)
        have Hone := Lib.hid (one_oneZ x y)
        clear wx wy hc5 ho5
        go_wp2_with (at_builtin; go_loud (refine wpList_append_lies _ rfl (.tmp 20) (.tmp 22) 25 rfl w.heap.size 42 i0 (.complex .f64 0 0) 1 16 Tryz.underlying25 Hi.out.1 Hi.out.2.1 Hi.out.2.2.1 Hi.out.2.2.2 rfl (by decide) (.slice (some ⟨g0, 0, none⟩) r cp) r (cZ xs) rfl Hown.out ⟨w5a.heap.size, 0, none⟩ 1 1 [.complex .f64 x y] rfl rfl Hnews.out Hone.out (by omega) hn63 hnby hbs _ rfl ?_; intro g cap1 w6 hown1 hgrow1 hat1 hlt1))
        have H6 := Lib.hid (show OwnZ w.heap.size w6 (.slice (some ⟨g, 0, none⟩) (r + 1) cap1) (r + 1) (xs ++ [(x, y)]) ∧ Cur base w6 B ∧ Only B w w6 from ⟨by
          unfold OwnZ
          rw [← cZ_snoc]
          exact hown1, cur_grown (H5a.out.1.alloc _) hgrow1 (fun k hk => by have := (Hown.out.lt k hk).1; omega), only_grown (H5a.out.2.1.alloc _) hgrow1 (fun k hk => (Hown.out.lt k hk).1)⟩)
        clear hown1 hgrow1 hat1 hlt1
        go_wp2_with fail
        go_roundw
        case rel => exact ⟨r + 1, m, g, cap1, xs ++ [(x, y)], rfl, by go_num, by omega, Lib.hid ⟨by rw [List.length_append, hxs.out.1]; rfl, Hm.out⟩, H6.out.1, H6.out.2.1, H6.out.2.2⟩
        case measure => first | (simp [intOf]; done) | (simp [intOf]; omega)
/-- an expression and slots -/
def DrawE (w : World) (e : Ending) (w' : World) : Prop :=
  ∃ (g cp : Nat) (t : Tr) (h cq : Nat) (sl : List (Nat × Nat)), (t.ok ∧ (pf t).length ≤ 31) ∧ (2 ≤ sl.length ∧ sl.length ≤ 5 ∧ wfZ sl) ∧
    e = .returned (.tuple #[.slice (some ⟨g, 0, none⟩) (pf t).length cp, .slice (some ⟨h, 0, none⟩) sl.length cq]) ∧ (CellsN w' g 0 (pf t) ∧ g < w'.heap.size ∧ (pf t).length ≤ cp) ∧ (CellsZ w' h 0 sl ∧ h < w'.heap.size) ∧ Below w.heap.size w w'
theorem drawExpr (a : Option Addr) (len cap : Nat) (zs : List Int) (w : World) (hr : IsRow .u8 w a len cap zs) :
    Calls Tryz.prog 6 #[.slice a len cap] w (DrawE w) := by
  go_enter Tryz.func6, Tryz.ntmps6
  go_wp2_with fail
  refine (new_any a len cap zs _ hr).mono ?_
  rintro e w1 ⟨rfl, hc, hb⟩
  have Hb := Lib.hid hb
  clear hb hr
  go_wp2_with fail
  refine (make_any _ _ _ hc).mono ?_
  rintro e w2 ⟨g, cp, t, hx, rfl, hown, hc2, ho2⟩
  have hcl := hc.lt
  have Hx := Lib.hid (And.intro hx (owns_cap hown))
  have H2 := Lib.hid (And.intro hc2 (Hb.out.trans (ho2.below (Nat.le_refl _) Hb.out.size)))
  have Hown := Lib.hid (And.intro hown (show w.heap.size < w1.heap.size from hcl))
  clear hown hc ho2 hx hc2 hcl
  obtain ⟨n, hn⟩ : ∃ n, (pf t).length = n := ⟨_, rfl⟩
  rw [hn]
  go_wp2_with fail
  refine (slots_any _ _ _ H2.out.1).mono ?_
  rintro e w3 ⟨h, cq, sl, hsl, rfl, hown3, hc3, ho3⟩
  obtain ⟨c3, l3, _⟩ := OwnZ.cells hown3 rfl
  obtain ⟨c2, l2, _⟩ := OwnN.cells (show OwnN w1.heap.size w3 _ _ _ from owns_only Hown.out.1 ho3 Hown.out.2) rfl
  have H3 := Lib.hid (show (CellsN w3 g 0 (pf t) ∧ g < w3.heap.size) ∧ (CellsZ w3 h 0 sl ∧ h < w3.heap.size) ∧ Below w.heap.size w w3 from ⟨⟨c2, l2⟩, ⟨c3, l3⟩, H2.out.2.trans (ho3.below (Nat.le_refl _) H2.out.2.size)⟩)
  have Hs := Lib.hid hsl
  clear hc3 ho3 c2 c3 l2 l3 hown3 hsl
  obtain ⟨m, hm⟩ : ∃ m, sl.length = m := ⟨_, rfl⟩
  rw [hm]
  go_wp2_with fail
  go_ret2
  subst hn hm
  exact ⟨g, cp, t, h, cq, sl, Hx.out.1, Hs.out, rfl, ⟨H3.out.1.1, H3.out.1.2, Hx.out.2⟩, H3.out.2.1, H3.out.2.2⟩
end Go.Proofs.YtlngplohnknhjaaGreatDoor.Ex
