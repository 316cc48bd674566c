/- ScaleTable in the program. -/
import Derived.Test.YtbmojogohffhaaaSclS
import Derived.Test.YtbmojogohffhaaaTabI
namespace Go.Proofs.Ytbmojogohffhaaa.Pnt
open Go.ChangeShapes Go.WideShapes Go.ChangeAt Go.RowKit Go.Deep Go.Proofs.Ytbmojogohffhaaa Go.Proofs.Ytbmojogohffhaaa.Flt Go.Proofs.Ytbmojogohffhaaa.Mth
open Ieee (single double)
set_option linter.unusedVariables false
theorem make0_any (n : Nat) (hn : n ≤ 1048576) (w : World) :
    (Instr.makeSlice 24 (.int .i64 0) (.int .i64 (n : Int))).run Try.prog w = .ok (.slice (some ⟨w.heap.size, 0, none⟩) 0 n) (w.alloc (.cells (madeCells #[.float .f32 0, .float .f32 0] (n * 2)) 32)) := by
  obtain ⟨i, hi, hz, hs, hb⟩ := info_partsP
  have h := run_make (P := Try.prog) w 24 32 i _ Try.underlying24 hi hz .i64 .i64 0 n (by omega) (by omega) (by rw [hb]; omega) (by omega)
  rw [hs] at h
  rw [show (pv 0 0).cells = #[.float .f32 0, .float .f32 0] from rfl] at h
  simpa using h
theorem made0 (n : Nat) (hn : n ≤ 1048576) (w : World) : OwnQ w.heap.size (w.alloc (.cells (madeCells #[.float .f32 0, .float .f32 0] (n * 2)) 32)) (.slice (some ⟨w.heap.size, 0, none⟩) 0 n) 0 (fun _ => 0) :=
  World.ownsRow_made w _ n (Nat.le_refl _) (by unfold maxLen; omega) (by rw [size_madeCells])
theorem nilQ (base : Nat) (w : World) (X : Nat → Nat) : OwnQ base w (.slice none 0 0) 0 X := ⟨rfl, .inl ⟨rfl, rfl⟩⟩
set_option maxRecDepth 100000 in
set_option maxHeartbeats 3200000 in
theorem implScl (a : Option Addr) (len cap : Nat) (X : Nat → Nat) (f : Nat) (w : World) (hl : len ≤ 1048576) (h : Lst w a len X) :
    Calls Try.prog 42 #[.slice a len cap, .float .f32 f] w fun e w' => ∃ v, e = .returned (.tuple #[v, .bool (sclB len X f)]) ∧ OwnQ w.heap.size w' v (sclN len X f) (sclX X f) ∧ Below w.heap.size w w' := by
  have H := Lib.hid h
  clear h
  cases hok : okP len X
  · have hb : sclB len X f = false := by unfold sclB; rw [hok]; rfl
    rw [hb]
    have Hf := Lib.hid (show sclN len X f = 0 by unfold sclN; rw [if_neg (by rw [hb]; exact Bool.false_ne_true)])
    have Hok := Lib.hid hok
    clear hok hb
    go_enter Try.func42, Try.ntmps42
    go_wp2_with fail
    refine (implTab _ _ _ X _ hl H.out).mono ?_
    rintro e w1 ⟨rfl, hb1⟩
    rw [Hok.out]
    have H1 := Lib.hid hb1
    clear hb1
    go_wp2_with fail
    go_ret2
    exact ⟨_, rfl, by rw [Hf.out]; exact nilQ _ _ _, H1.out⟩
  · have hb12 := okP_bounds hok
    have Hb := Lib.hid (show sclB len X f = okP len (sclX X f) by unfold sclB; rw [hok]; rfl)
    have Hok := Lib.hid hok
    have hwf := H.out.1
    obtain ⟨b, off, rfl, hlt, hcells⟩ := H.out.cells (by omega)
    have Hc := Lib.hid (And.intro hcells hwf)
    obtain ⟨i0, hi, hz0, hz1, hz2⟩ := info_partsP
    have Hi := Lib.hid (And.intro hi (And.intro hz0 (And.intro hz1 hz2)))
    have hmk := make0_any len hl
    have kc := fun r W => conv_self r W
    clear hcells hok hi hz0 hz1 hz2 hwf
    go_enter Try.func42, Try.ntmps42
    go_wp2_with fail
    refine (implTab _ _ _ X _ hl H.out).mono ?_
    rintro e w1 ⟨rfl, hb1⟩
    rw [Hok.out]
    have hsz1 := hb1.size
    have H1 := Lib.hid (show OwnQ w.heap.size (w1.alloc (.cells (madeCells #[.float .f32 0, .float .f32 0] (len * 2)) 32)) (.slice (some ⟨w1.heap.size, 0, none⟩) 0 len) 0 (fun _ => 0) ∧ Below w.heap.size w (w1.alloc (.cells (madeCells #[.float .f32 0, .float .f32 0] (len * 2)) 32)) from ⟨OwnQ.mono (made0 len hl w1) hsz1, hb1.alloc hsz1 _⟩)
    clear hb1
    go_wp2_with fail
    go_loopw [6, 17] (fun v iv wr => ∃ (r g cp : Nat) (Z : Nat → Nat), v = .slice (some ⟨g, 0, none⟩) r cp ∧ iv = .int .i64 (r : Int) ∧ r ≤ len ∧ OwnQ w.heap.size wr v r Z ∧ Hid ((∀ j, j < r * 2 → Sim (Z j) (sclX X f j)) ∧ Wf r Z) ∧ Below w.heap.size w wr)
      (fun _ iv _ => len - (intOf iv).toNat)
    case atStart => exact ⟨0, w1.heap.size, len, _, rfl, rfl, Nat.zero_le _, H1.out.1, Lib.hid ⟨fun j hj => absurd hj (by omega), fun j hj => absurd hj (by omega)⟩, H1.out.2⟩
    case round =>
      obtain ⟨r, g0, cp, Z, rfl, rfl, hr, hown, hsim, hbel⟩ := hrel
      have Hr := Lib.hid (And.intro hown hbel)
      have hsz := hbel.size
      by_cases hrl : r < len
      · have hrl' : (r : Int) < (len : Int) := by omega
        obtain ⟨a0, a1⟩ := (Hc.out.1.keep hlt hbel) r hrl
        obtain ⟨m0, m1⟩ := sclX_at X f r
        have wf2 := Hc.out.2 r hrl
        obtain ⟨x, hx⟩ : ∃ x, X (r * 2) = x := ⟨_, rfl⟩
        obtain ⟨y, hy⟩ : ∃ y, X (r * 2 + 1) = y := ⟨_, rfl⟩
        rw [hx] at a0 m0 wf2
        rw [hy] at a1 m1 wf2
        obtain ⟨P, hP⟩ : ∃ P, wr.alloc (.cells #[.float .f32 x, .float .f32 y] 32) = P := ⟨_, rfl⟩
        obtain ⟨ny, hny⟩ : ∃ ny, opX .mul y f P = ny := ⟨_, rfl⟩
        obtain ⟨q, hq⟩ : ∃ q, odr .mul y f = q := ⟨_, rfl⟩
        have km := run_opX (P := Try.prog) .mul (.inr (.inr (.inl rfl))) 25 y f P
        rw [hny, hq] at km
        have Hm2 := Lib.hid (show (∀ j, j < (r + 1) * 2 → Sim (put2 Z r x ny j) (sclX X f j)) ∧ Wf (r + 1) (put2 Z r x ny) from ⟨put2_sim hsim.out.1 (by rw [m0]; exact Sim.rfl' _) (by rw [m1, ← hny]; exact opX_sim _ _ _ _), put2_wf hsim.out.2 wf2.1 (by rw [← hny]; exact opX_wf _ _ _ _)⟩)
        have hn63 : r + 1 ≤ maxLen := by unfold maxLen; omega
        have hnby : (r + 1) * 8 ≤ 140737488355328 := by omega
        have hPs : P.heap.size = wr.heap.size + 1 := by rw [← hP]; exact sz_alloc _ _
        have hPq : (P.drewN q).heap.size = wr.heap.size + 1 := hPs
        have HP := Lib.hid (show Below w.heap.size w P ∧ OwnQ w.heap.size P (.slice (some ⟨g0, 0, none⟩) r cp) r Z from by rw [← hP]; exact ⟨hbel.alloc hsz _, World.ownsRow.alloc hown _⟩)
        have hPc0 : P.cell? ⟨wr.heap.size, 0, none⟩ = some (.float .f32 x) := by rw [← hP]; exact cell_of_row _ wr.heap.size 0 #[.float .f32 x, .float .f32 y] 32 (0, 0) (block_new wr _)
        have hPc1 : P.cell? ⟨wr.heap.size, 1, none⟩ = some (.float .f32 y) := by rw [← hP]; exact cell_of_row _ wr.heap.size 1 #[.float .f32 x, .float .f32 y] 32 (0, 0) (block_new wr _)
        have hbs : w.heap.size ≤ ((P.drewN q).alloc (.cells #[.float .f32 x, .float .f32 ny] 32)).heap.size := by
          rw [sz_alloc, hPq]; omega
        have Hown := Lib.hid (show ((P.drewN q).alloc (.cells #[.float .f32 x, .float .f32 ny] 32)).ownsRow w.heap.size 32 2 _ _ _ from World.ownsRow.alloc (w := P.drewN q) HP.out.2 (.cells #[.float .f32 x, .float .f32 ny] 32))
        have hnews := one_cellP (P.drewN q) x ny
        rw [hPq] at hnews
        have Hnews := Lib.hid hnews
        clear hnews
        have Hone := Lib.hid (one_oneP x ny)
        have hpw : w.heap.size ≤ (P.drewN q).heap.size := by rw [hPq]; omega
        clear hown hbel m0 m1 hx hy wf2 hq hny
        go_wp2_with (at_builtin; go_loud (refine wpList_append_lies _ rfl (.tmp 21) (.tmp 29) 24 rfl w.heap.size 32 i0 (pv 0 0) 2 8 Try.underlying24 Hi.out.1 Hi.out.2.1 Hi.out.2.2.1 Hi.out.2.2.2 rfl (by decide) (.slice (some ⟨g0, 0, none⟩) r cp) r (flat Z (r * 2)) rfl Hown.out ⟨wr.heap.size + 1, 0, none⟩ 1 1 [.float .f32 x, .float .f32 ny] rfl rfl Hnews.out Hone.out (by omega) hn63 hnby hbs _ rfl ?_; intro g cap1 w2 hown1 hgrow1 hat1 hlt1))
        have H2 := Lib.hid (show OwnQ w.heap.size w2 (.slice (some ⟨g, 0, none⟩) (r + 1) cap1) (r + 1) (put2 Z r x ny) ∧ Below w.heap.size w w2 from ⟨by
          unfold OwnQ
          rw [put2_flat]
          exact hown1, (((below_drewN HP.out.1 q).alloc hpw _).grown hgrow1 hbs (fun j hj => (Hown.out.lt j hj).1))⟩)
        clear hown1 hgrow1 hat1 hlt1
        go_wp2_with fail
        go_roundw
        case rel => exact ⟨r + 1, g, cap1, _, rfl, by go_num, hrl, H2.out.1, Lib.hid Hm2.out, H2.out.2⟩
        case measure => simp [intOf]; omega
      · obtain rfl : r = len := by omega
        have hrl' : ¬ (r : Int) < (r : Int) := by omega
        obtain ⟨s1, s2⟩ := okP_sim hsim.out.1
        obtain ⟨av, capv, hve, hLv⟩ := hown.lst hsim.out.2
        cases hve
        have HLv := Lib.hid hLv
        obtain ⟨c, hc⟩ : ∃ c, okP r (sclX X f) = c := ⟨_, rfl⟩
        have Hz := Lib.hid (s1.trans hc)
        have Hs2 := Lib.hid s2
        have Hb2 := Lib.hid (Hb.out.trans hc)
        clear hown hbel hLv s1 s2 hc
        cases c
        · have Hf := Lib.hid (show sclN r X f = 0 by unfold sclN; rw [if_neg (by rw [Hb2.out]; exact Bool.false_ne_true)])
          go_wp2_with fail
          refine (implTab _ _ _ Z _ hl HLv.out).mono ?_
          rintro e w3 ⟨rfl, hb3⟩
          rw [Hz.out]
          have H3 := Lib.hid (show Below w.heap.size w w3 from Hr.out.2.trans (hb3.mono hsz))
          clear hb3
          go_wp2_with fail
          go_ret2
          exact ⟨_, by rw [Hb2.out]; rfl, by rw [Hf.out]; exact nilQ _ _ _, H3.out⟩
        · have Hf := Lib.hid (show sclN r X f = r by unfold sclN; rw [if_pos Hb2.out])
          go_wp2_with fail
          refine (implTab _ _ _ Z _ hl HLv.out).mono ?_
          rintro e w3 ⟨rfl, hb3⟩
          rw [Hz.out]
          have H3 := Lib.hid (show OwnQ w.heap.size w3 (.slice (some ⟨g0, 0, none⟩) r cp) r (sclX X f) ∧ Below w.heap.size w w3 from ⟨OwnQ.congr (own_below Hr.out.1 (Nat.le_refl _) hb3) (Hs2.out Hz.out), Hr.out.2.trans (hb3.mono hsz)⟩)
          clear hb3
          go_wp2_with fail
          go_ret2
          exact ⟨_, by rw [Hb2.out]; rfl, by rw [Hf.out]; exact H3.out.1, H3.out.2⟩
end Go.Proofs.Ytbmojogohffhaaa.Pnt
