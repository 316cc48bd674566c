/- Residuals in the model. -/
import Derived.Test.YtbmojogohffhaaaSngW
import Derived.Test.YtbmojogohffhaaaItpL
namespace Go.Proofs.Ytbmojogohffhaaa.Pnt
open Go.ChangeShapes Go.WideShapes Go.ChangeAt Go.RowKit Go.Deep Go.Proofs.Ytbmojogohffhaaa Go.Proofs.Ytbmojogohffhaaa.Flt Go.Proofs.Ytbmojogohffhaaa.Mth Go.Proofs.Ytbmojogohffhaaa.Sgl
open Ieee (single double)
set_option linter.unusedVariables false
def resB (n : Nat) (X : Nat → Nat) (m : Nat) (Y : Nat → Nat) : Bool := decide (m ≤ 100) && (List.range m).all fun i => segIn n X (Y (i * 2))
def resN (n : Nat) (X : Nat → Nat) (m : Nat) (Y : Nat → Nat) : Nat := if resB n X m Y = true then m else 0
def resX (n : Nat) (X Y : Nat → Nat) (i : Nat) : Nat := opV .sub (Y (i * 2 + 1)) (ipV n X (Y (i * 2)))
theorem resB_big {n m : Nat} {X Y : Nat → Nat} (h : ¬ m ≤ 100) : resB n X m Y = false := by unfold resB; rw [decide_eq_false h]; rfl
theorem resB_no {n m k : Nat} {X Y : Nat → Nat} (hk : k < m) (h : segIn n X (Y (k * 2)) = false) : resB n X m Y = false := by
  unfold resB
  rw [Bool.and_eq_false_iff]
  right
  rw [List.all_eq_false]
  exact ⟨k, by simpa using hk, by rw [h]; simp⟩
theorem resB_yes {n m : Nat} {X Y : Nat → Nat} (h1 : m ≤ 100) (h : ∀ i, i < m → segIn n X (Y (i * 2)) = true) : resB n X m Y = true := by
  unfold resB
  rw [decide_eq_true h1, Bool.true_and, List.all_eq_true]
  intro i hi
  exact h i (by simpa using hi)
theorem resN_no {n m : Nat} {X Y : Nat → Nat} (h : resB n X m Y = false) : resN n X m Y = 0 := by unfold resN; rw [if_neg (by rw [h]; exact Bool.false_ne_true)]
theorem resN_yes {n m : Nat} {X Y : Nat → Nat} (h : resB n X m Y = true) : resN n X m Y = m := by unfold resN; rw [if_pos h]
theorem resN_le (n : Nat) (X : Nat → Nat) (m : Nat) (Y : Nat → Nat) : resN n X m Y ≤ 100 := by
  cases h : resB n X m Y
  · rw [resN_no h]; omega
  · rw [resN_yes h]
    unfold resB at h
    rw [Bool.and_eq_true] at h
    exact of_decide_eq_true h.1
/-- what Residuals gives -/
def ResOut (n : Nat) (X : Nat → Nat) (m : Nat) (Y : Nat → Nat) (w : World) (e : Ending) (w' : World) : Prop :=
  ∃ v Z, e = .returned (.tuple #[v, .bool (resB n X m Y)]) ∧ OwnF w.heap.size w' v (resN n X m Y) Z ∧ (WfF (resN n X m Y) Z ∧ ∀ j, j < resN n X m Y → Sim (Z j) (resX n X Y j)) ∧ Below w.heap.size w w'
theorem infoF2 : ∃ i, Try.prog.info? 25 = some i ∧ i.zero = some (.float .f32 0) ∧ i.size = 1 ∧ i.bytes = 4 := by
  obtain ⟨i, hi, hzz⟩ := Option.map_eq_some_iff.1 infoF
  simp only [Prod.mk.injEq] at hzz
  exact ⟨i, hi, hzz.1, hzz.2.1, hzz.2.2⟩
theorem litF (w : World) : OwnF w.heap.size (w.alloc (.cells #[] 25)) (.slice (some ⟨w.heap.size, 0, none⟩) 0 0) 0 (fun _ => 0) := World.ownsRow_lit (base := w.heap.size) (e := 25) (size := 1) w #[] 0 (Nat.le_refl _) (Nat.zero_le _) rfl
theorem one_cellF (wr : World) (x : Nat) : ∀ j u, [Value.float .f32 x][j]? = some u → (wr.alloc (.cells #[.float .f32 x] 25)).cell? ((⟨wr.heap.size, 0, none⟩ : Addr).add j) = some u :=
  World.news_of_block (block_new wr _)
theorem one_oneF (x : Nat) : ∀ u ∈ [Value.float .f32 x], u.oneCell' = true := by
  intro u hu
  simp at hu
  subst hu
  rfl
theorem upd_snoc (Z : Nat → Nat) (k x : Nat) : flat (upd Z k x) (k + 1) = flat Z k ++ [.float .f32 x] := by
  rw [flat_snoc]
  congr 1
  · exact flat_congr fun j hj => by unfold upd; rw [if_neg (by omega)]
  · unfold upd; rw [if_pos rfl]
theorem upd_sim {Z S : Nat → Nat} {k x : Nat} (h : WfF k Z ∧ ∀ j, j < k → Sim (Z j) (S j)) (wx : (Lit.float .f32 x).wf = true) (hx : Sim x (S k)) : WfF (k + 1) (upd Z k x) ∧ ∀ j, j < k + 1 → Sim (upd Z k x j) (S j) := by
  constructor
  · intro j hj
    unfold upd
    by_cases e : j = k
    · rw [if_pos e]; exact wx
    · rw [if_neg e]; exact h.1 j (by omega)
  · intro j hj
    unfold upd
    by_cases e : j = k
    · rw [if_pos e, e]; exact hx
    · rw [if_neg e]; exact h.2 j (by omega)
set_option maxRecDepth 100000 in
set_option maxHeartbeats 3200000 in
theorem specRes (a : Option Addr) (len cap : Nat) (X : Nat → Nat) (a' : Option Addr) (m cap' : Nat) (Y : Nat → Nat) (w : World) (hl : len ≤ 1048576) (hl' : m ≤ 1048576) (h : Lst w a len X) (h' : Lst w a' m Y) :
    Calls Try.prog 44 #[.slice a len cap, .slice a' m cap'] w (ResOut len X m Y w) := by
  have Hn := Lib.hid (And.intro ((Below.refl w.heap.size w).alloc (Nat.le_refl _) (.cells #[] 25)) (litF w))
  have H := Lib.hid h
  have H' := Lib.hid h'
  clear h h'
  by_cases hm : m ≤ 100
  · have hm' : ¬ (100 : Int) < (m : Int) := by omega
    obtain ⟨i0, hi, hz0, hz1, hz2⟩ := infoF2
    have Hi := Lib.hid (And.intro hi (And.intro hz0 (And.intro hz1 hz2)))
    clear hi hz0 hz1 hz2
    go_enter Try.func44, Try.ntmps44
    go_wp2_with fail
    go_loopw [6, 7] (fun v iv wr => ∃ (r g cp : Nat) (Z : Nat → Nat), v = .slice (some ⟨g, 0, none⟩) r cp ∧ iv = .int .i64 (r : Int) ∧ r ≤ m ∧ OwnF w.heap.size wr v r Z ∧ Hid ((WfF r Z ∧ ∀ j, j < r → Sim (Z j) (resX len X Y j)) ∧ ∀ j, j < r → segIn len X (Y (j * 2)) = true) ∧ Below w.heap.size w wr)
      (fun _ iv _ => m - (intOf iv).toNat)
    case atStart => exact ⟨0, w.heap.size, 0, _, rfl, rfl, Nat.zero_le _, Hn.out.2, Lib.hid ⟨⟨fun j hj => absurd hj (Nat.not_lt_zero _), fun j hj => absurd hj (Nat.not_lt_zero _)⟩, fun j hj => absurd hj (Nat.not_lt_zero _)⟩, Hn.out.1⟩
    case round =>
      obtain ⟨r, g0, cp, Z, rfl, rfl, hr, hown, hsim, hbel⟩ := hrel
      have Hr := Lib.hid (And.intro hown hbel)
      have hsz := hbel.size
      by_cases hrl : r < m
      · have hrl' : (r : Int) < (m : Int) := by omega
        obtain ⟨b', off', rfl, hlt', hcells'⟩ := H'.out.cells (by omega)
        have Hc' := Lib.hid hcells'
        obtain ⟨a0, a1⟩ := (hcells'.keep hlt' hbel) r hrl
        have wy := H'.out.1 r hrl
        obtain ⟨x, hx⟩ : ∃ x, Y (r * 2) = x := ⟨_, rfl⟩
        obtain ⟨y, hy⟩ : ∃ y, Y (r * 2 + 1) = y := ⟨_, rfl⟩
        rw [hx] at a0
        rw [hy] at a1
        have HL := Lib.hid (H.out.keep hbel)
        have Hxy := Lib.hid (And.intro hx hy)
        clear hown hbel hcells'
        cases hin : segIn len X x
        · have Hf := Lib.hid (resB_no (n := len) (X := X) (Y := Y) hrl (by rw [hx]; exact hin))
          have Hfn := Lib.hid (resN_no Hf.out)
          have Hin := Lib.hid hin
          clear hin hx hy
          go_wp2_with fail
          refine (specItp _ _ _ X x _ hl HL.out).mono ?_
          rintro e w3 ⟨rfl, hb3⟩
          rw [Hin.out]
          have H3 := Lib.hid (show OwnF w.heap.size (w3.alloc (.cells #[] 25)) (.slice (some ⟨w3.heap.size, 0, none⟩) 0 0) 0 (fun _ => 0) ∧ Below w.heap.size w (w3.alloc (.cells #[] 25)) from ⟨World.ownsRow.mono (litF w3) (Nat.le_trans hsz hb3.size), (Hr.out.2.trans (hb3.mono hsz)).alloc (Nat.le_trans hsz hb3.size) _⟩)
          clear hb3
          go_wp2_with fail
          go_ret2
          exact ⟨_, _, by rw [Hf.out]; rfl, by rw [Hfn.out]; exact H3.out.1, by rw [Hfn.out]; exact ⟨fun i hi => absurd hi (Nat.not_lt_zero _), fun i hi => absurd hi (Nat.not_lt_zero _)⟩, H3.out.2⟩
        · have Hin := Lib.hid hin
          obtain ⟨v, hv⟩ : ∃ v, ipV len X x = v := ⟨_, rfl⟩
          have Hv := Lib.hid hv
          have Hres := Lib.hid (show resX len X Y r = opV .sub y v by unfold resX; rw [hx, hy, hv])
          obtain ⟨q, hq⟩ : ∃ q, odr .sub y v = q := ⟨_, rfl⟩
          have km := fun W => run_opX (P := Try.prog) .sub (.inr (.inl rfl)) 25 y v W
          have Hkm := Lib.hid km
          have hn63 : r + 1 ≤ maxLen := by unfold maxLen; omega
          have hnby : (r + 1) * 4 ≤ 140737488355328 := by omega
          clear hin hx hy hv km
          go_wp2_with fail
          refine (specItp _ _ _ X x _ hl HL.out).mono ?_
          rintro e w3 ⟨rfl, hb3⟩
          rw [Hin.out, Hv.out]
          have hb3' := Hr.out.2.trans (hb3.mono hsz)
          have hsz3 := hb3'.size
          have Hw3 := Lib.hid (And.intro (show OwnF w.heap.size w3 (.slice (some ⟨g0, 0, none⟩) r cp) r Z from own_below Hr.out.1 (Nat.le_refl _) hb3) hb3')
          have a1' := (hb3.cell (p := ⟨b', off' + r * 2 + 1, none⟩) (by have := Hr.out.2.size; exact Nat.lt_of_lt_of_le hlt' this)).trans a1
          obtain ⟨ny, hny⟩ : ∃ ny, opX .sub y v w3 = ny := ⟨_, rfl⟩
          have km := Hkm.out w3
          rw [hny, hq] at km
          have Hny := Lib.hid (upd_sim (k := r) (x := ny) hsim.out.1 (by rw [← hny]; exact opX_wf _ _ _ _) (by rw [Hres.out, ← hny]; exact opX_sim _ _ _ _))
          have hPq : (w3.drewN q).heap.size = w3.heap.size := rfl
          have hbs : w.heap.size ≤ ((w3.drewN q).alloc (.cells #[.float .f32 ny] 25)).heap.size := by
            rw [sz_alloc, hPq]; omega
          have Hown := Lib.hid (show ((w3.drewN q).alloc (.cells #[.float .f32 ny] 25)).ownsRow w.heap.size 25 1 _ _ _ from World.ownsRow.alloc (w := w3.drewN q) Hw3.out.1 (.cells #[.float .f32 ny] 25))
          have hnews := one_cellF (w3.drewN q) ny
          rw [hPq] at hnews
          have Hnews := Lib.hid hnews
          have Hone := Lib.hid (one_oneF ny)
          clear a0 a1 hb3 hb3' hnews hny hq
          go_wp2_with (at_builtin; go_loud (refine wpList_append_lies _ rfl (.tmp 34) (.tmp 42) 37 rfl w.heap.size 25 i0 (.float .f32 0) 1 4 Try.underlying37 Hi.out.1 Hi.out.2.1 Hi.out.2.2.1 Hi.out.2.2.2 rfl (by decide) (.slice (some ⟨g0, 0, none⟩) r cp) r (flat Z r) rfl Hown.out ⟨w3.heap.size, 0, none⟩ 1 1 [.float .f32 ny] rfl rfl Hnews.out Hone.out (by omega) hn63 hnby hbs _ rfl ?_; intro g cap1 w4 hown1 hgrow1 hat1 hlt1))
          have H4 := Lib.hid (show OwnF w.heap.size w4 (.slice (some ⟨g, 0, none⟩) (r + 1) cap1) (r + 1) (upd Z r ny) ∧ Below w.heap.size w w4 from ⟨by
            unfold OwnF
            rw [upd_snoc]
            exact hown1, (((below_drewN Hw3.out.2 q).alloc (by rw [hPq]; omega) _).grown hgrow1 hbs (fun j hj => (Hown.out.lt j hj).1))⟩)
          have Hall := Lib.hid (show ∀ j, j < r + 1 → segIn len X (Y (j * 2)) = true from fun j hj => by
            by_cases e : j = r
            · rw [e, Hxy.out.1]; exact Hin.out
            · exact hsim.out.2 j (by omega))
          clear hown1 hgrow1 hat1 hlt1
          go_wp2_with fail
          go_roundw
          case rel => exact ⟨r + 1, g, cap1, _, rfl, by go_num, hrl, H4.out.1, Lib.hid ⟨Hny.out, Hall.out⟩, H4.out.2⟩
          case measure => simp [intOf]; omega
      · obtain rfl : r = m := by omega
        have hrl' : ¬ (r : Int) < (r : Int) := by omega
        have Hf := Lib.hid (resB_yes (n := len) (X := X) (Y := Y) hm hsim.out.2)
        have Hfn := Lib.hid (resN_yes Hf.out)
        clear hown hbel
        go_wp2_with fail
        go_ret2
        exact ⟨_, _, by rw [Hf.out]; rfl, by rw [Hfn.out]; exact Hr.out.1, by rw [Hfn.out]; exact hsim.out.1, Hr.out.2⟩
  · have hm' : (100 : Int) < (m : Int) := by omega
    have Hf := Lib.hid (resB_big (n := len) (X := X) (Y := Y) hm)
    have Hfn := Lib.hid (resN_no Hf.out)
    go_enter Try.func44, Try.ntmps44
    go_wp2_with fail
    go_ret2
    exact ⟨_, _, by rw [Hf.out]; rfl, by rw [Hfn.out]; exact Hn.out.2, by rw [Hfn.out]; exact ⟨fun i hi => absurd hi (Nat.not_lt_zero _), fun i hi => absurd hi (Nat.not_lt_zero _)⟩, Hn.out.1⟩
end Go.Proofs.Ytbmojogohffhaaa.Pnt
