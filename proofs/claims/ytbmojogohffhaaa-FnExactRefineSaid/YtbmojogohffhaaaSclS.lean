/- ScaleTable in the model. -/
import Derived.Test.YtbmojogohffhaaaSclP
namespace Go.Proofs.Ytbmojogohffhaaa.Pnt
open Go.ChangeShapes Go.WideShapes Go.ChangeAt Go.RowKit Go.Deep Go.Proofs.Ytbmojogohffhaaa Go.Proofs.Ytbmojogohffhaaa.Flt Go.Proofs.Ytbmojogohffhaaa.Mth
open Ieee (single double)
set_option linter.unusedVariables false
set_option maxRecDepth 100000 in
set_option maxHeartbeats 3200000 in
theorem specScl (a : Option Addr) (len cap : Nat) (X : Nat → Nat) (f : Nat) (w : World) (hl : len ≤ 1048576) (h : Lst w a len X) :
    Calls Try.prog 41 #[.slice a len cap, .float .f32 f] w fun e w' => ∃ v, e = .returned (.tuple #[v, .bool (sclB len X f)]) ∧ OwnQ w.heap.size w' v (sclN len X f) (sclX X f) ∧ Below w.heap.size w w' := by
  have Hn := Lib.hid (And.intro ((Below.refl w.heap.size w).alloc (Nat.le_refl _) (.cells #[] 32)) (litP w))
  have H := Lib.hid h
  clear h
  cases hok : okP len X
  · have hb : sclB len X f = false := by unfold sclB; rw [hok]; rfl
    rw [hb]
    have Hf := Lib.hid (show sclN len X f = 0 by unfold sclN; rw [if_neg (by rw [hb]; exact Bool.false_ne_true)])
    have Hok := Lib.hid hok
    clear hok hb
    go_enter Try.func41, Try.ntmps41
    go_wp2_with fail
    refine (specTab _ _ _ X _ hl (H.out.keep Hn.out.1)).mono ?_
    rintro e w1 ⟨rfl, n, hw1⟩
    rw [Hok.out]
    have H1 := Lib.hid (show OwnQ w.heap.size w1 _ 0 (sclX X f) ∧ Below w.heap.size w w1 from ⟨by rw [hw1]; exact Hn.out.2.zero, by rw [hw1]; exact below_drewN Hn.out.1 n⟩)
    clear hw1
    go_wp2_with fail
    go_ret2
    exact ⟨_, rfl, by rw [Hf.out]; exact H1.out.1, H1.out.2⟩
  · have hb12 := okP_bounds hok
    have Hb := Lib.hid (show sclB len X f = okP len (sclX X f) by unfold sclB; rw [hok]; rfl)
    have Hok := Lib.hid hok
    have hwf := H.out.1
    obtain ⟨b, off, rfl, hlt, hcells⟩ := H.out.cells (by omega)
    have Hc := Lib.hid (And.intro hcells hwf)
    obtain ⟨i0, hi, hz0, hz1, hz2⟩ := info_partsP
    have Hi := Lib.hid (And.intro hi (And.intro hz0 (And.intro hz1 hz2)))
    clear hcells hok hi hz0 hz1 hz2 hwf
    go_enter Try.func41, Try.ntmps41
    go_wp2_with fail
    refine (specTab _ _ _ X _ hl (H.out.keep Hn.out.1)).mono ?_
    rintro e w1 ⟨rfl, n, hw1⟩
    rw [Hok.out]
    have H1 := Lib.hid (show OwnQ w.heap.size w1 _ 0 (sclX X f) ∧ Below w.heap.size w w1 from ⟨by rw [hw1]; exact Hn.out.2.zero, by rw [hw1]; exact below_drewN Hn.out.1 n⟩)
    clear hw1
    go_wp2_with fail
    go_loopw [6, 7] (fun v iv wr => ∃ (r g cp : Nat) (Z : Nat → Nat), v = .slice (some ⟨g, 0, none⟩) r cp ∧ iv = .int .i64 (r : Int) ∧ r ≤ len ∧ OwnQ w.heap.size wr v r Z ∧ Hid ((∀ j, j < r * 2 → Sim (Z j) (sclX X f j)) ∧ Wf r Z) ∧ Below w.heap.size w wr)
      (fun _ iv _ => len - (intOf iv).toNat)
    case atStart => exact ⟨0, w.heap.size, 0, _, rfl, rfl, Nat.zero_le _, H1.out.1, Lib.hid ⟨fun j hj => absurd hj (by omega), fun j hj => absurd hj (by omega)⟩, H1.out.2⟩
    case round =>
      obtain ⟨r, g0, cp, Z, rfl, rfl, hr, hown, hsim, hbel⟩ := hrel
      have Hr := Lib.hid (And.intro hown hbel)
      have hsz := hbel.size
      by_cases hrl : r < len
      · have hrl' : (r : Int) < (len : Int) := by omega
        obtain ⟨a0, a1⟩ := (Hc.out.1.keep hlt hbel) r hrl
        obtain ⟨m0, m1⟩ := sclX_at X f r
        have wf2 := Hc.out.2 r hrl
        obtain ⟨x, hx⟩ : ∃ x, X (r * 2) = x := ⟨_, rfl⟩
        obtain ⟨y, hy⟩ : ∃ y, X (r * 2 + 1) = y := ⟨_, rfl⟩
        rw [hx] at a0 m0 wf2
        rw [hy] at a1 m1 wf2
        have km := fun W => run_opX (P := Try.prog) .mul (.inr (.inr (.inl rfl))) 25 y f W
        have Hm := Lib.hid (show ∀ W, (∀ j, j < (r + 1) * 2 → Sim (put2 Z r x (opX .mul y f W) j) (sclX X f j)) ∧ Wf (r + 1) (put2 Z r x (opX .mul y f W)) from fun W => ⟨put2_sim hsim.out.1 (by rw [m0]; exact Sim.rfl' _) (by rw [m1]; exact opX_sim _ _ _ _), put2_wf hsim.out.2 wf2.1 (opX_wf _ _ _ _)⟩)
        obtain ⟨q, hq⟩ : ∃ q, odr .mul y f = q := ⟨_, rfl⟩
        rw [hq] at km
        have hn63 : r + 1 ≤ maxLen := by unfold maxLen; omega
        have hnby : (r + 1) * 8 ≤ 140737488355328 := by omega
        obtain ⟨ny, hny⟩ : ∃ ny, opX .mul y f wr.drew = ny := ⟨_, rfl⟩
        have kmd := km wr.drew
        rw [hny] at kmd
        have Hm2 := Lib.hid (Hm.out wr.drew)
        rw [hny] at Hm2
        have hbs : w.heap.size ≤ (((wr.drew).drewN q).alloc (.cells #[.float .f32 x, .float .f32 ny] 32)).heap.size := by
          have e : (((wr.drew).drewN q).alloc (.cells #[.float .f32 x, .float .f32 ny] 32)).heap.size = wr.heap.size + 1 := sz_alloc _ _
          rw [e]; omega
        have Hown := Lib.hid (show (((wr.drew).drewN q).alloc (.cells #[.float .f32 x, .float .f32 ny] 32)).ownsRow w.heap.size 32 2 _ _ _ from Hr.out.1.alloc (.cells #[.float .f32 x, .float .f32 ny] 32))
        have Hnews := Lib.hid (show ∀ j u, [Value.float .f32 x, .float .f32 ny][j]? = some u → (((wr.drew).drewN q).alloc (.cells #[.float .f32 x, .float .f32 ny] 32)).cell? ((⟨wr.heap.size, 0, none⟩ : Addr).add j) = some u from one_cellP wr x ny)
        have Hone := Lib.hid (one_oneP x ny)
        have hrw : w.heap.size ≤ wr.heap.size := hsz
        clear hown hbel m0 m1 hx hy wf2 hq km hny
        go_wp2_with fail
        go_region_law (first
          | (refine step_append_lies _ rfl (.tmp 19) (.tmp 33) 24 rfl w.heap.size 32 i0 (pv 0 0) 2 8 Try.underlying24 Hi.out.1 Hi.out.2.1 Hi.out.2.2.1 Hi.out.2.2.2 rfl (by decide) (.slice (some ⟨g0, 0, none⟩) r cp) r (flat Z (r * 2)) (by simp [Act.eval]) Hown.out ⟨wr.heap.size, 0, none⟩ 1 1 [.float .f32 x, .float .f32 ny] (by simp [Act.eval]) rfl Hnews.out Hone.out (by omega) hn63 hnby hbs _ rfl ?_; intro g cap1 w2 hown1 hgrow1 hat1 hlt1))
        all_goals
          have H2 := Lib.hid (show OwnQ w.heap.size w2 (.slice (some ⟨g, 0, none⟩) (r + 1) cap1) (r + 1) (put2 Z r x ny) ∧ Below w.heap.size w w2 from ⟨by
            unfold OwnQ
            rw [put2_flat]
            exact hown1, (((below_drewN Hr.out.2 (1 + q)).alloc hrw _).grown hgrow1 hbs (fun j hj => (Hown.out.lt j hj).1))⟩)
          clear hown1 hgrow1 hat1 hlt1
          go_wp2_with fail
          go_roundw
          case rel => exact ⟨r + 1, g, cap1, _, rfl, by go_num, hrl, H2.out.1, Lib.hid Hm2.out, H2.out.2⟩
          case measure => simp [intOf]; omega
      · obtain rfl : r = len := by omega
        have hrl' : ¬ (r : Int) < (r : Int) := by omega
        obtain ⟨s1, s2⟩ := okP_sim hsim.out.1
        obtain ⟨av, capv, hve, hLv⟩ := hown.lst hsim.out.2
        cases hve
        have HLv := Lib.hid hLv
        obtain ⟨c, hc⟩ : ∃ c, okP r (sclX X f) = c := ⟨_, rfl⟩
        have Hz := Lib.hid (s1.trans hc)
        have Hs2 := Lib.hid s2
        have Hb2 := Lib.hid (Hb.out.trans hc)
        clear hown hbel hLv s1 s2 hc
        cases c
        · have Hf := Lib.hid (show sclN r X f = 0 by unfold sclN; rw [if_neg (by rw [Hb2.out]; exact Bool.false_ne_true)])
          go_wp2_with fail
          refine (specTab _ _ _ Z _ hl HLv.out).mono ?_
          rintro e w3 ⟨rfl, n3, hw3⟩
          rw [Hz.out]
          have hb3 : Below wr.heap.size wr w3 := by rw [hw3]; exact below_drewN (Below.refl _ _) n3
          have H3 := Lib.hid (show OwnQ w.heap.size (w3.alloc (.cells #[] 32)) (.slice (some ⟨w3.heap.size, 0, none⟩) 0 0) 0 (sclX X f) ∧ Below w.heap.size w (w3.alloc (.cells #[] 32)) from ⟨(OwnQ.mono (litP w3) (Nat.le_trans hsz hb3.size)).zero, (Hr.out.2.trans (hb3.mono hsz)).alloc (Nat.le_trans hsz hb3.size) _⟩)
          clear hw3 hb3
          go_wp2_with fail
          go_ret2
          exact ⟨_, by rw [Hb2.out]; rfl, by rw [Hf.out]; exact H3.out.1, H3.out.2⟩
        · have Hf := Lib.hid (show sclN r X f = r by unfold sclN; rw [if_pos Hb2.out])
          go_wp2_with fail
          refine (specTab _ _ _ Z _ hl HLv.out).mono ?_
          rintro e w3 ⟨rfl, n3, hw3⟩
          rw [Hz.out]
          have H3 := Lib.hid (show OwnQ w.heap.size w3 (.slice (some ⟨g0, 0, none⟩) r cp) r (sclX X f) ∧ Below w.heap.size w w3 from ⟨by rw [hw3]; exact OwnQ.congr Hr.out.1 (Hs2.out Hz.out), by rw [hw3]; exact below_drewN Hr.out.2 n3⟩)
          clear hw3
          go_wp2_with fail
          go_ret2
          exact ⟨_, by rw [Hb2.out]; rfl, by rw [Hf.out]; exact H3.out.1, H3.out.2⟩
end Go.Proofs.Ytbmojogohffhaaa.Pnt
