/- Residuals in the program. -/
import Derived.Test.YtbmojogohffhaaaResS
namespace Go.Proofs.Ytbmojogohffhaaa.Pnt
open Go.ChangeShapes Go.WideShapes Go.ChangeAt Go.RowKit Go.Deep Go.Proofs.Ytbmojogohffhaaa Go.Proofs.Ytbmojogohffhaaa.Flt Go.Proofs.Ytbmojogohffhaaa.Mth Go.Proofs.Ytbmojogohffhaaa.Sgl
open Ieee (single double)
set_option linter.unusedVariables false
theorem makeF0_any (n : Nat) (hn : n ≤ 1048576) (w : World) :
    (Instr.makeSlice 37 (.int .i64 0) (.int .i64 (n : Int))).run Try.prog w = .ok (.slice (some ⟨w.heap.size, 0, none⟩) 0 n) (w.alloc (.cells (madeCells #[.float .f32 0] n) 25)) := by
  obtain ⟨i, hi, hz, hs, hb⟩ := infoF2
  have h := run_make (P := Try.prog) w 37 25 i _ Try.underlying37 hi hz .i64 .i64 0 n (by omega) (by omega) (by rw [hb]; omega) (by omega)
  rw [hs] at h
  rw [show (Value.float .f32 0).cells = #[.float .f32 0] from rfl] at h
  simpa [Nat.mul_one] using h
theorem madeF0 (n : Nat) (hn : n ≤ 1048576) (w : World) : OwnF w.heap.size (w.alloc (.cells (madeCells #[.float .f32 0] n) 25)) (.slice (some ⟨w.heap.size, 0, none⟩) 0 n) 0 (fun _ => 0) :=
  World.ownsRow_made w _ n (Nat.le_refl _) (by unfold maxLen; omega) (by rw [size_madeCells]; omega)
theorem nilF (base : Nat) (w : World) (X : Nat → Nat) : OwnF base w (.slice none 0 0) 0 X := ⟨rfl, .inl ⟨rfl, rfl⟩⟩
set_option maxRecDepth 100000 in
set_option maxHeartbeats 3200000 in
theorem implRes (a : Option Addr) (len cap : Nat) (X : Nat → Nat) (a' : Option Addr) (m cap' : Nat) (Y : Nat → Nat) (w : World) (hl : len ≤ 1048576) (hl' : m ≤ 1048576) (h : Lst w a len X) (h' : Lst w a' m Y) :
    Calls Try.prog 45 #[.slice a len cap, .slice a' m cap'] w (ResOut len X m Y w) := by
  have H := Lib.hid h
  have H' := Lib.hid h'
  have Hst := Lib.hid (Below.refl w.heap.size w)
  clear h h'
  by_cases hm : m ≤ 100
  · have hm' : ¬ (100 : Int) < (m : Int) := by omega
    obtain ⟨i0, hi, hz0, hz1, hz2⟩ := infoF2
    have Hi := Lib.hid (And.intro hi (And.intro hz0 (And.intro hz1 hz2)))
    have hmk := makeF0_any m hl'
    have kc := fun r W => conv_self r W
    have Hn := Lib.hid (And.intro ((Below.refl w.heap.size w).alloc (Nat.le_refl _) (.cells (madeCells #[.float .f32 0] m) 25)) (madeF0 m hl' w))
    clear hi hz0 hz1 hz2
    go_enter Try.func45, Try.ntmps45
    go_wp2_with fail
    go_loopw [6, 19] (fun v iv wr => ∃ (r g cp : Nat) (Z : Nat → Nat), v = .slice (some ⟨g, 0, none⟩) r cp ∧ iv = .int .i64 (r : Int) ∧ r ≤ m ∧ OwnF w.heap.size wr v r Z ∧ Hid ((WfF r Z ∧ ∀ j, j < r → Sim (Z j) (resX len X Y j)) ∧ ∀ j, j < r → segIn len X (Y (j * 2)) = true) ∧ Below w.heap.size w wr)
      (fun _ iv _ => m - (intOf iv).toNat)
    case atStart => exact ⟨0, w.heap.size, m, _, rfl, rfl, Nat.zero_le _, Hn.out.2, Lib.hid ⟨⟨fun j hj => absurd hj (Nat.not_lt_zero _), fun j hj => absurd hj (Nat.not_lt_zero _)⟩, fun j hj => absurd hj (Nat.not_lt_zero _)⟩, Hn.out.1⟩
    case round =>
      obtain ⟨r, g0, cp, Z, rfl, rfl, hr, hown, hsim, hbel⟩ := hrel
      have Hr := Lib.hid (And.intro hown hbel)
      have hsz := hbel.size
      by_cases hrl : r < m
      · have hrl' : (r : Int) < (m : Int) := by omega
        obtain ⟨b', off', rfl, hlt', hcells'⟩ := H'.out.cells (by omega)
        obtain ⟨a0, a1⟩ := (hcells'.keep hlt' hbel) r hrl
        obtain ⟨x, hx⟩ : ∃ x, Y (r * 2) = x := ⟨_, rfl⟩
        obtain ⟨y, hy⟩ : ∃ y, Y (r * 2 + 1) = y := ⟨_, rfl⟩
        rw [hx] at a0
        rw [hy] at a1
        obtain ⟨P, hP⟩ : ∃ P, wr.alloc (.cells #[.float .f32 x, .float .f32 y] 32) = P := ⟨_, rfl⟩
        have hPs : P.heap.size = wr.heap.size + 1 := by rw [← hP]; exact sz_alloc _ _
        have HP := Lib.hid (show Below w.heap.size w P ∧ OwnF w.heap.size P (.slice (some ⟨g0, 0, none⟩) r cp) r Z from by rw [← hP]; exact ⟨hbel.alloc hsz _, World.ownsRow.alloc hown _⟩)
        have hPc0 : P.cell? ⟨wr.heap.size, 0, none⟩ = some (.float .f32 x) := by rw [← hP]; exact cell_of_row _ wr.heap.size 0 #[.float .f32 x, .float .f32 y] 32 (0, 0) (block_new wr _)
        have hPc1 : P.cell? ⟨wr.heap.size, 1, none⟩ = some (.float .f32 y) := by rw [← hP]; exact cell_of_row _ wr.heap.size 1 #[.float .f32 x, .float .f32 y] 32 (0, 0) (block_new wr _)
        have HL := Lib.hid (H.out.keep HP.out.1)
        have Hxy := Lib.hid (And.intro hx hy)
        have hszP : w.heap.size ≤ P.heap.size := by omega
        clear hown hbel hcells'
        cases hin : segIn len X x
        · have Hf := Lib.hid (resB_no (n := len) (X := X) (Y := Y) hrl (by rw [hx]; exact hin))
          have Hfn := Lib.hid (resN_no Hf.out)
          have Hin := Lib.hid hin
          clear hin hx hy
          go_wp2_with fail
          refine (implItp _ _ _ X x _ hl HL.out).mono ?_
          rintro e w3 ⟨rfl, hb3⟩
          rw [Hin.out]
          have H3 := Lib.hid (show Below w.heap.size w w3 from HP.out.1.trans (hb3.mono hszP))
          clear hb3
          go_wp2_with fail
          go_ret2
          exact ⟨_, fun _ => 0, by rw [Hf.out]; rfl, by rw [Hfn.out]; exact nilF _ _ _, by rw [Hfn.out]; exact ⟨fun i hi => absurd hi (Nat.not_lt_zero _), fun i hi => absurd hi (Nat.not_lt_zero _)⟩, H3.out⟩
        · have Hin := Lib.hid hin
          obtain ⟨v, hv⟩ : ∃ v, ipV len X x = v := ⟨_, rfl⟩
          have Hv := Lib.hid hv
          have Hres := Lib.hid (show resX len X Y r = opV .sub y v by unfold resX; rw [hx, hy, hv])
          obtain ⟨q, hq⟩ : ∃ q, odr .sub y v = q := ⟨_, rfl⟩
          have km := fun W => run_opX (P := Try.prog) .sub (.inr (.inl rfl)) 25 y v W
          have Hkm := Lib.hid km
          have hn63 : r + 1 ≤ maxLen := by unfold maxLen; omega
          have hnby : (r + 1) * 4 ≤ 140737488355328 := by omega
          clear hin hx hy hv km
          go_wp2_with fail
          refine (implItp _ _ _ X x _ hl HL.out).mono ?_
          rintro e w3 ⟨rfl, hb3⟩
          rw [Hin.out, Hv.out]
          have hb3' := HP.out.1.trans (hb3.mono hszP)
          have hsz3 := hb3'.size
          have Hw3 := Lib.hid (And.intro (show OwnF w.heap.size w3 (.slice (some ⟨g0, 0, none⟩) r cp) r Z from own_below HP.out.2 (Nat.le_refl _) hb3) hb3')
          have hc1 := (hb3.cell (p := ⟨wr.heap.size, 1, none⟩) (by show wr.heap.size < _; omega)).trans hPc1
          obtain ⟨ny, hny⟩ : ∃ ny, opX .sub y v w3 = ny := ⟨_, rfl⟩
          have km := Hkm.out w3
          rw [hny, hq] at km
          have Hny := Lib.hid (upd_sim (k := r) (x := ny) hsim.out.1 (by rw [← hny]; exact opX_wf _ _ _ _) (by rw [Hres.out, ← hny]; exact opX_sim _ _ _ _))
          have hPq : (w3.drewN q).heap.size = w3.heap.size := rfl
          have hbs : w.heap.size ≤ ((w3.drewN q).alloc (.cells #[.float .f32 ny] 25)).heap.size := by
            rw [sz_alloc, hPq]; omega
          have Hown := Lib.hid (show ((w3.drewN q).alloc (.cells #[.float .f32 ny] 25)).ownsRow w.heap.size 25 1 _ _ _ from World.ownsRow.alloc (w := w3.drewN q) Hw3.out.1 (.cells #[.float .f32 ny] 25))
          have hnews := one_cellF (w3.drewN q) ny
          rw [hPq] at hnews
          have Hnews := Lib.hid hnews
          have Hone := Lib.hid (one_oneF ny)
          clear a0 a1 hb3 hb3' hnews hny hq hPc0 hPc1
          go_wp2_with (at_builtin; go_loud (refine wpList_append_lies _ rfl (.tmp 32) (.tmp 37) 37 rfl w.heap.size 25 i0 (.float .f32 0) 1 4 Try.underlying37 Hi.out.1 Hi.out.2.1 Hi.out.2.2.1 Hi.out.2.2.2 rfl (by decide) (.slice (some ⟨g0, 0, none⟩) r cp) r (flat Z r) rfl Hown.out ⟨w3.heap.size, 0, none⟩ 1 1 [.float .f32 ny] rfl rfl Hnews.out Hone.out (by omega) hn63 hnby hbs _ rfl ?_; intro g cap1 w4 hown1 hgrow1 hat1 hlt1))
          have H4 := Lib.hid (show OwnF w.heap.size w4 (.slice (some ⟨g, 0, none⟩) (r + 1) cap1) (r + 1) (upd Z r ny) ∧ Below w.heap.size w w4 from ⟨by
            unfold OwnF
            rw [upd_snoc]
            exact hown1, (((below_drewN Hw3.out.2 q).alloc (by rw [hPq]; omega) _).grown hgrow1 hbs (fun j hj => (Hown.out.lt j hj).1))⟩)
          have Hall := Lib.hid (show ∀ j, j < r + 1 → segIn len X (Y (j * 2)) = true from fun j hj => by
            by_cases e : j = r
            · rw [e, Hxy.out.1]; exact Hin.out
            · exact hsim.out.2 j (by omega))
          clear hown1 hgrow1 hat1 hlt1
          go_wp2_with fail
          go_roundw
          case rel => exact ⟨r + 1, g, cap1, _, rfl, by go_num, hrl, H4.out.1, Lib.hid ⟨Hny.out, Hall.out⟩, H4.out.2⟩
          case measure => simp [intOf]; omega
      · obtain rfl : r = m := by omega
        have hrl' : ¬ (r : Int) < (r : Int) := by omega
        have Hf := Lib.hid (resB_yes (n := len) (X := X) (Y := Y) hm hsim.out.2)
        have Hfn := Lib.hid (resN_yes Hf.out)
        clear hown hbel
        go_wp2_with fail
        go_ret2
        exact ⟨_, _, by rw [Hf.out]; rfl, by rw [Hfn.out]; exact Hr.out.1, by rw [Hfn.out]; exact hsim.out.1, Hr.out.2⟩
  · have hm' : (100 : Int) < (m : Int) := by omega
    have Hf := Lib.hid (resB_big (n := len) (X := X) (Y := Y) hm)
    have Hfn := Lib.hid (resN_no Hf.out)
    go_enter Try.func45, Try.ntmps45
    go_wp2_with fail
    go_ret2
    exact ⟨_, fun _ => 0, by rw [Hf.out]; rfl, by rw [Hfn.out]; exact nilF _ _ _, by rw [Hfn.out]; exact ⟨fun i hi => absurd hi (Nat.not_lt_zero _), fun i hi => absurd hi (Nat.not_lt_zero _)⟩, Hst.out⟩
end Go.Proofs.Ytbmojogohffhaaa.Pnt
