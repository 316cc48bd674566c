/- MirrorTable in the model. -/
import Derived.Test.YtbmojogohffhaaaPtsO
import Derived.Deep.RegionLaw
import Derived.Deep.Onto
namespace Go.Proofs.Ytbmojogohffhaaa.Pnt
open Go.ChangeShapes Go.WideShapes Go.ChangeAt Go.RowKit Go.Deep Go.Proofs.Ytbmojogohffhaaa Go.Proofs.Ytbmojogohffhaaa.Flt Go.Proofs.Ytbmojogohffhaaa.Mth
open Ieee (single double)
set_option linter.unusedVariables false
/-- the mirrored cells -/
def mirX (n : Nat) (X : Nat → Nat) (j : Nat) : Nat := Op.negFloat .f32 (X ((n - 1 - j / 2) * 2 + j % 2))
theorem mirX_at (n : Nat) (X : Nat → Nat) (i : Nat) : mirX n X (i * 2) = Op.negFloat .f32 (X ((n - 1 - i) * 2)) ∧ mirX n X (i * 2 + 1) = Op.negFloat .f32 (X ((n - 1 - i) * 2 + 1)) := by
  unfold mirX
  rw [show i * 2 / 2 = i by omega, show i * 2 % 2 = 0 by omega, show (i * 2 + 1) / 2 = i by omega, show (i * 2 + 1) % 2 = 1 by omega]
  exact ⟨rfl, rfl⟩
theorem infoP2 : (Try.prog.info? 32).map (fun i => (i.zero, i.size, i.bytes)) = some (some (pv 0 0), 2, 8) := infoP
theorem info_partsP : ∃ i, Try.prog.info? 32 = some i ∧ i.zero = some (pv 0 0) ∧ i.size = 2 ∧ i.bytes = 8 := by
  obtain ⟨i, hi, hzz⟩ := Option.map_eq_some_iff.1 infoP
  simp only [Prod.mk.injEq] at hzz
  exact ⟨i, hi, hzz.1, hzz.2.1, hzz.2.2⟩
theorem litP (w : World) : OwnQ w.heap.size (w.alloc (.cells #[] 32)) (.slice (some ⟨w.heap.size, 0, none⟩) 0 0) 0 (fun _ => 0) := World.ownsRow_lit (base := w.heap.size) (e := 32) (size := 2) w #[] 0 (Nat.le_refl _) (Nat.zero_le _) rfl
/-- the cells of one new point, in a block of its own -/
theorem one_cellP (wr : World) (x y : Nat) : ∀ j u, [Value.float .f32 x, .float .f32 y][j]? = some u → (wr.alloc (.cells #[.float .f32 x, .float .f32 y] 32)).cell? ((⟨wr.heap.size, 0, none⟩ : Addr).add j) = some u :=
  World.news_of_block (block_new wr _)
theorem one_oneP (x y : Nat) : ∀ u ∈ [Value.float .f32 x, .float .f32 y], u.oneCell' = true := by
  intro u hu
  simp at hu
  rcases hu with rfl | rfl <;> rfl
theorem OwnQ.zero {base : Nat} {w : World} {v : Value} {X Y : Nat → Nat} (h : OwnQ base w v 0 X) : OwnQ base w v 0 Y := h.congr fun j hj => absurd hj (by omega)
theorem OwnQ.mono {base base' : Nat} {w : World} {v : Value} {n : Nat} {X : Nat → Nat} (h : OwnQ base w v n X) (hb : base' ≤ base) : OwnQ base' w v n X := World.ownsRow.mono h hb
/-- what MirrorTable gives -/
def mirN (n : Nat) (X : Nat → Nat) : Nat := if okP n X = true then n else 0
set_option maxRecDepth 100000 in
set_option maxHeartbeats 1600000 in
theorem specMir (a : Option Addr) (len cap : Nat) (X : Nat → Nat) (w : World) (hl : len ≤ 1048576) (h : Lst w a len X) :
    Calls Try.prog 43 #[.slice a len cap] w fun e w' => ∃ v, e = .returned (.tuple #[v, .bool (okP len X)]) ∧ OwnQ w.heap.size w' v (mirN len X) (mirX len X) ∧ Below w.heap.size w w' := by
  have Hn := Lib.hid (And.intro ((Below.refl w.heap.size w).alloc (Nat.le_refl _) (.cells #[] 32)) (litP w))
  have H := Lib.hid h
  clear h
  cases hok : okP len X
  · have Hf := Lib.hid (show mirN len X = 0 by unfold mirN; rw [if_neg (by rw [hok]; exact Bool.false_ne_true)])
    have Hok := Lib.hid hok
    clear hok
    go_enter Try.func43, Try.ntmps43
    go_wp2_with fail
    refine (specTab _ _ _ X _ hl (H.out.keep Hn.out.1)).mono ?_
    rintro e w1 ⟨rfl, n, hw1⟩
    rw [Hok.out]
    have H1 := Lib.hid (show OwnQ w.heap.size w1 _ 0 (mirX len X) ∧ Below w.heap.size w w1 from ⟨by rw [hw1]; exact Hn.out.2.zero, by rw [hw1]; exact below_drewN Hn.out.1 n⟩)
    clear hw1
    go_wp2_with fail
    go_ret2
    exact ⟨_, rfl, by rw [Hf.out]; exact H1.out.1, H1.out.2⟩
  · have hb12 := okP_bounds hok
    have Hf := Lib.hid (show mirN len X = len by unfold mirN; rw [if_pos hok])
    have Hok := Lib.hid hok
    obtain ⟨b, off, rfl, hlt, hcells⟩ := H.out.cells (by omega)
    have Hc := Lib.hid hcells
    obtain ⟨i0, hi, hz0, hz1, hz2⟩ := info_partsP
    have Hi := Lib.hid (And.intro hi (And.intro hz0 (And.intro hz1 hz2)))
    clear hcells hok hi hz0 hz1 hz2
    go_enter Try.func43, Try.ntmps43
    go_wp2_with fail
    refine (specTab _ _ _ X _ hl (H.out.keep Hn.out.1)).mono ?_
    rintro e w1 ⟨rfl, n, hw1⟩
    rw [Hok.out]
    have H1 := Lib.hid (show OwnQ w.heap.size w1 _ 0 (mirX len X) ∧ Below w.heap.size w w1 from ⟨by rw [hw1]; exact Hn.out.2.zero, by rw [hw1]; exact below_drewN Hn.out.1 n⟩)
    clear hw1
    go_wp2_with fail
    go_loopw [4, 5] (fun v iv wr => ∃ r g cp : Nat, v = .slice (some ⟨g, 0, none⟩) r cp ∧ iv = .int .i64 ((len : Int) - 1 - (r : Int)) ∧ r ≤ len ∧ OwnQ w.heap.size wr v r (mirX len X) ∧ Below w.heap.size w wr)
      (fun _ iv _ => (intOf iv + 1).toNat)
    case atStart => exact ⟨0, w.heap.size, 0, rfl, by congr 1; omega, Nat.zero_le _, H1.out.1, H1.out.2⟩
    case round =>
      obtain ⟨r, g0, cp, rfl, rfl, hr, hown, hbel⟩ := hrel
      have Hr := Lib.hid (And.intro hown hbel)
      have hsz := hbel.size
      by_cases hrl : r < len
      · obtain ⟨q, hq⟩ : ∃ q, q = len - 1 - r := ⟨_, rfl⟩
        have hqi : (len : Int) - 1 - (r : Int) = (q : Int) := by omega
        rw [hqi]
        have hql : q < len := by omega
        obtain ⟨a0, a1⟩ := (Hc.out.keep hlt hbel) q hql
        obtain ⟨m0, m1⟩ := mirX_at len X r
        rw [← hq] at m0 m1
        obtain ⟨nx, hnx⟩ : ∃ nx, Op.negFloat .f32 (X (q * 2)) = nx := ⟨_, rfl⟩
        obtain ⟨ny, hny⟩ : ∃ ny, Op.negFloat .f32 (X (q * 2 + 1)) = ny := ⟨_, rfl⟩
        have Hm := Lib.hid (show flat (mirX len X) ((r + 1) * 2) = flat (mirX len X) (r * 2) ++ [.float .f32 nx, .float .f32 ny] by rw [flat_two, m0, m1, hnx, hny])
        have hw1 : IntKind.i64.wrap ((q : Int) - 1) = (q : Int) - 1 := by rw [IntKind.wrap_i64]; omega
        have hq0 : (0 : Int) ≤ (q : Int) := by omega
        have Hq := Lib.hid hqi
        have hn63 : r + 1 ≤ maxLen := by unfold maxLen; omega
        have hnby : (r + 1) * 8 ≤ 140737488355328 := by omega
        have hbs : w.heap.size ≤ ((wr.alloc (.cells #[.float .f32 nx, .float .f32 ny] 32)).drew).heap.size := by
          have e : ((wr.alloc (.cells #[.float .f32 nx, .float .f32 ny] 32)).drew).heap.size = wr.heap.size + 1 := sz_alloc _ _
          rw [e]; omega
        have Hown := Lib.hid (show ((wr.alloc (.cells #[.float .f32 nx, .float .f32 ny] 32)).drew).ownsRow w.heap.size 32 2 _ _ _ from Hr.out.1.alloc (.cells #[.float .f32 nx, .float .f32 ny] 32))
        have Hnews := Lib.hid (show ∀ j u, [Value.float .f32 nx, .float .f32 ny][j]? = some u → ((wr.alloc (.cells #[.float .f32 nx, .float .f32 ny] 32)).drew).cell? ((⟨wr.heap.size, 0, none⟩ : Addr).add j) = some u from one_cellP wr nx ny)
        have Hone := Lib.hid (one_oneP nx ny)
        clear hown hbel hq m0 m1 hqi
        go_wp2_with fail
        go_region_law (first
          | (refine step_append_lies _ rfl (.tmp 18) (.tmp 32) 24 rfl w.heap.size 32 i0 (pv 0 0) 2 8 Try.underlying24 Hi.out.1 Hi.out.2.1 Hi.out.2.2.1 Hi.out.2.2.2 rfl (by decide) (.slice (some ⟨g0, 0, none⟩) r cp) r (flat (mirX len X) (r * 2)) (by simp [Act.eval]) Hown.out ⟨wr.heap.size, 0, none⟩ 1 1 [.float .f32 nx, .float .f32 ny] (by simp [Act.eval]) rfl Hnews.out Hone.out (by omega) hn63 hnby hbs _ rfl ?_; intro g cap1 w2 hown1 hgrow1 hat1 hlt1))
        all_goals
          have H2 := Lib.hid (show OwnQ w.heap.size w2 (.slice (some ⟨g, 0, none⟩) (r + 1) cap1) (r + 1) (mirX len X) ∧ Below w.heap.size w w2 from ⟨by
            unfold OwnQ
            rw [Hm.out]
            exact hown1, (((Hr.out.2.alloc Hr.out.2.size _).drew).grown hgrow1 hbs (fun j hj => (Hown.out.lt j hj).1))⟩)
          clear hown1 hgrow1 hat1 hlt1
          go_wp2_with fail
          go_roundw
          case rel => exact ⟨r + 1, g, cap1, rfl, by rw [← Hq.out]; congr 1; omega, hrl, H2.out.1, H2.out.2⟩
          case measure => (first | (simp [intOf]; done) | (simp [intOf]; omega))
      · obtain rfl : r = len := by omega
        have hqi : (r : Int) - 1 - (r : Int) = -1 := by omega
        rw [hqi]
        clear hown hbel
        go_wp2_with fail
        go_ret2
        exact ⟨_, rfl, by rw [Hf.out]; exact Hr.out.1, Hr.out.2⟩
end Go.Proofs.Ytbmojogohffhaaa.Pnt
