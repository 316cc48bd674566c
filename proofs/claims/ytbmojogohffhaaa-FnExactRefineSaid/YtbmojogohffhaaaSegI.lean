/- SegmentOf in the program: the first place, the segment. -/
import Derived.Test.YtbmojogohffhaaaTabI
import Derived.Test.YtbmojogohffhaaaSeg
namespace Go.Proofs.Ytbmojogohffhaaa.Pnt
open Go.ChangeShapes Go.WideShapes Go.ChangeAt Go.RowKit Go.Proofs.Ytbmojogohffhaaa Go.Proofs.Ytbmojogohffhaaa.Flt Go.Proofs.Ytbmojogohffhaaa.Mth
open Ieee (single double)
set_option linter.unusedVariables false
/-- the first place that is sought, from 'k' on -/
def fstG (X : Nat → Nat) (g : Nat → Nat → Bool) : Nat → Nat → Nat
  | 0, k => k
  | f + 1, k => if g (X (k * 2)) (X (k * 2 + 1)) = true then k else fstG X g f (k + 1)
def fstN (n : Nat) (X : Nat → Nat) (g : Nat → Nat → Bool) : Nat := fstG X g n 0
theorem fstG_spec {X : Nat → Nat} {g : Nat → Nat → Bool} {n : Nat} : ∀ (f k : Nat), f + k = n → (∀ j, j < k → g (X (j * 2)) (X (j * 2 + 1)) = false) →
    fstG X g f k ≤ n ∧ (∀ j, j < fstG X g f k → g (X (j * 2)) (X (j * 2 + 1)) = false) ∧ (fstG X g f k < n → g (X (fstG X g f k * 2)) (X (fstG X g f k * 2 + 1)) = true)
  | 0, k, hn, h => ⟨by unfold fstG; omega, by unfold fstG; exact h, fun h2 => by unfold fstG at h2; omega⟩
  | f + 1, k, hn, h => by
    unfold fstG
    split
    · rename_i hg
      exact ⟨by omega, h, fun _ => hg⟩
    · rename_i hg
      exact fstG_spec f (k + 1) (by omega) (fun j hj => by
        by_cases e : j = k
        · rw [e]; simpa using hg
        · exact h j (by omega))
theorem fstN_spec (n : Nat) (X : Nat → Nat) (g : Nat → Nat → Bool) :
    fstN n X g ≤ n ∧ (∀ j, j < fstN n X g → g (X (j * 2)) (X (j * 2 + 1)) = false) ∧ (fstN n X g < n → g (X (fstN n X g * 2)) (X (fstN n X g * 2 + 1)) = true) :=
  fstG_spec n 0 rfl (fun j hj => absurd hj (Nat.not_lt_zero _))
set_option maxHeartbeats 1600000 in
theorem fstP (F : FuncId) (caps : Value) (g : Nat → Nat → Bool) (hcf : ∀ args w, (callFunc F args).run Try.prog w = .ok (.enter F args) w)
    (b off len cap : Nat) (X : Nat → Nat) (w : World) (hF : ∀ x y W, Below w.heap.size w W → Calls Try.prog F #[.agg #[.float .f32 x, .float .f32 y], caps] W fun e w' => e = .returned (.bool (g x y)) ∧ Below W.heap.size W w')
    (hl : len ≤ 1048576) (hb : b < w.heap.size) (h1 : Cells w b off len X) :
    Calls Try.prog 54 #[.slice (some ⟨b, off, none⟩) len cap, .func (.func F) #[] #[caps]] w fun e w' => e = .returned (.int .i64 (fstN len X g : Int)) ∧ Below w.heap.size w w' := by
  have H1 := Lib.hid h1
  have HF := Lib.hid hF
  clear h1 hF
  have Hst := Lib.hid (Below.refl w.heap.size w)
  generalize hB : w.heap.size = B at *
  go_enter Try.func54, Try.ntmps54
  go_wp2_with fail
  go_loopw [9] (fun i wr => ∃ k : Nat, i = .int .i64 k ∧ k ≤ len ∧ Hid (fstG X g (len - k) k = fstN len X g) ∧ Below B w wr)
    (fun i _ => len - (intOf i).toNat)
  case atStart => exact ⟨0, rfl, Nat.zero_le _, Lib.hid rfl, Hst.out⟩
  case round =>
    obtain ⟨k, rfl, hk, hg, hbel⟩ := hrel
    have Hbel := Lib.hid hbel
    by_cases hkl : k < len
    · have hkl' : (k : Int) < (len : Int) := by omega
      obtain ⟨a0, a1⟩ := (H1.out.keep hb Hbel.out) k hkl
      have hsz : B ≤ wr.heap.size := by rw [← hB]; exact hbel.size
      have Ha := Lib.hid (show Below B w (wr.alloc (.cells #[.float .f32 (X (k * 2)), .float .f32 (X (k * 2 + 1))] 32)) from hbel.alloc hsz _)
      obtain ⟨c, hc⟩ : ∃ c, g (X (k * 2)) (X (k * 2 + 1)) = c := ⟨_, rfl⟩
      have Hs := Lib.hid (show fstG X g (len - k) k = if c = true then k else fstG X g (len - (k + 1)) (k + 1) by
        rw [show len - k = (len - (k + 1)) + 1 by omega]
        show (if g (X (k * 2)) (X (k * 2 + 1)) = true then _ else _) = _
        rw [hc])
      have Hc := Lib.hid hc
      clear hbel hc
      go_wp2_with fail
      refine (HF.out _ _ _ Ha.out).mono ?_
      rintro e w' ⟨rfl, hb2⟩
      rw [Hc.out]
      have Hb2 := Lib.hid (Ha.out.trans (hb2.mono (by rw [sz_alloc]; omega)))
      clear hb2
      cases c
      · go_wp2_with fail
        go_roundw
        case rel => exact ⟨k + 1, by go_num, hkl, Lib.hid (by rw [← hg.out, Hs.out]; rfl), Hb2.out⟩
        case measure => simp [intOf]; omega
      · go_wp2_with fail
        go_ret
        exact ⟨ret_int (by rw [← hg.out, Hs.out]; rfl), Hb2.out⟩
    · obtain rfl : k = len := by omega
      have hkl' : ¬ (k : Int) < (k : Int) := by omega
      clear hbel
      go_wp2_with fail
      go_ret
      exact ⟨ret_int (by rw [← hg.out, Nat.sub_self]; rfl), Hbel.out⟩
theorem enter_above (args : Array Value) (w : World) : (callFunc 55 args).run Try.prog w = .ok (.enter 55 args) w := run_enter ⟨_, _, Try.func55, by kernel_rfl, rfl⟩ args w
theorem above_any (C x0 x y : Nat) (w : World) (hb : w.heap[C]? = some (.cells #[.float .f32 x0] 25 (0, 0))) :
    Calls Try.prog 55 #[.agg #[.float .f32 x, .float .f32 y], .pointer (some ⟨C, 0, none⟩)] w fun e w' => e = .returned (.bool (gtB x x0)) ∧ Below w.heap.size w w' := by
  have hlt : C < w.heap.size := (Array.getElem?_eq_some_iff.1 hb).1
  have hc : w.cell? ⟨C, 0, none⟩ = some (.float .f32 x0) := cell_of_row w C 0 #[.float .f32 x0] 25 (0, 0) hb
  have hbel := (Below.refl w.heap.size w).alloc (Nat.le_refl _) (.cells #[.float .f32 x, .float .f32 y] 32)
  have HB := Lib.hid hbel
  have hc' : (w.alloc (.cells #[.float .f32 x, .float .f32 y] 32)).cell? ⟨C, 0, none⟩ = some (.float .f32 x0) := (hbel.cell (p := ⟨C, 0, none⟩) hlt).trans hc
  obtain ⟨c, h1⟩ : ∃ c, gtB x x0 = c := ⟨_, rfl⟩
  rw [h1]
  unfold gtB at h1
  clear hbel hb
  go_enter Try.func55, Try.ntmps55
  go_wp2
  go_ret
  exact ⟨rfl, HB.out⟩
/-- the place before the first one above -/
theorem seg_fst {n : Nat} {X : Nat → Nat} {x : Nat} (h : segIn n X x = true) : 1 ≤ fstN n X (fun a _ => gtB a x) ∧ min ((fstN n X (fun a _ => gtB a x) : Int) - 1) ((n : Int) - 2) = segV n X x := by
  obtain ⟨h1, h2, h3⟩ := segIn_ok h
  obtain ⟨l1, l2⟩ := okP_bounds h1
  obtain ⟨f1, f2, f3⟩ := fstN_spec n X (fun a _ => gtB a x)
  have nx : isNaN single x = false := by
    cases hn : isNaN single x
    · rfl
    · unfold geB at h2
      rw [gt32, eq32] at h2
      unfold ltW eqW at h2
      rw [hn] at h2
      simp at h2
  have flip : ∀ j, j < n → gtB (X (j * 2)) x = !leB (X (j * 2)) x := fun j hj => by
    have hn := fin_num (okPt_fin (okP_at h1 hj)).1
    unfold gtB leB
    rw [gt32, lt32, eq32]
    unfold ltW eqW
    rw [nx, hn]
    simp only [Bool.not_false, Bool.true_and]
    rcases Int.lt_trichotomy (sv single (X (j * 2))) (sv single x) with e | e | e
    · simp [e]; omega
    · simp [e]
    · simp [e]; omega
  generalize fstN n X (fun a _ => gtB a x) = k at *
  have k1 : 1 ≤ k := by
    refine Nat.pos_of_ne_zero fun e => ?_
    subst e
    have := f3 (by omega)
    unfold gtB at this
    unfold geB at h2
    rw [show (0 : Nat) * 2 = 0 from rfl] at this
    rw [gt32] at this
    rw [gt32, eq32] at h2
    unfold ltW at this h2
    unfold eqW at h2
    simp at this h2
    omega
  refine ⟨k1, ?_⟩
  rw [segV_in h]
  have hs : IsSeg n X x (min (k - 1) (n - 2)) := by
    refine ⟨by omega, fun j hj1 hj2 => ?_, fun hk => ?_⟩
    · have a1 := f2 j (by omega)
      have a2 := flip j (by omega)
      rw [a1] at a2
      simpa using a2.symm
    · have a1 := f3 (by omega)
      have a2 := flip k (by omega)
      rw [a1] at a2
      rw [show min (k - 1) (n - 2) + 1 = k by omega]
      simpa using a2.symm
  rw [← hs.one (segN_is l1)]
  omega
set_option maxRecDepth 100000 in
set_option maxHeartbeats 1600000 in
theorem implSeg (a : Option Addr) (len cap : Nat) (X : Nat → Nat) (x : Nat) (w : World) (hl : len ≤ 1048576) (h : Lst w a len X) :
    Calls Try.prog 20 #[.slice a len cap, .float .f32 x] w fun e w' => e = .returned (.int .i64 (segV len X x)) ∧ Below w.heap.size w w' := by
  have hbx : (w.alloc (.cells #[.float .f32 x] 25)).heap[w.heap.size]? = some (.cells #[.float .f32 x] 25 (0, 0)) := block_new w _
  have hB0 := (Below.refl w.heap.size w).alloc (Nat.le_refl _) (.cells #[.float .f32 x] 25)
  have hsz0 : (w.alloc (.cells #[.float .f32 x] 25)).heap.size = w.heap.size + 1 := sz_alloc _ _
  have HL := Lib.hid (h.keep hB0)
  generalize hW : w.alloc (.cells #[.float .f32 x] 25) = W at hbx hB0 hsz0 HL
  have HB0 := Lib.hid hB0
  have hcx : W.cell? ⟨w.heap.size, 0, none⟩ = some (.float .f32 x) := cell_of_row W w.heap.size 0 #[.float .f32 x] 25 (0, 0) hbx
  have Hbx := Lib.hid hbx
  have hblt : w.heap.size < W.heap.size := by omega
  have hble : w.heap.size ≤ W.heap.size := by omega
  clear h hB0 hbx
  have step : ∀ W1, Below W.heap.size W W1 → W1.cell? ⟨w.heap.size, 0, none⟩ = some (.float .f32 x) ∧ Below w.heap.size w W1 ∧ Lst W1 a len X ∧ W1.heap[w.heap.size]? = some (.cells #[.float .f32 x] 25 (0, 0)) := fun W1 hb =>
    ⟨(hb.cell (p := ⟨w.heap.size, 0, none⟩) hblt).trans hcx, HB0.out.trans (hb.mono hble), HL.out.keep hb, (hb.block _ hblt).trans Hbx.out⟩
  have Step := Lib.hid step
  clear step
  have htab : ∀ (c : Bool), okP len X = c → ∀ n : Old W, Calls Try.prog 17 #[.slice a len cap] n.x fun e w' => e = .returned (.bool c) ∧ ∃ m : Old W, w' = m.x := fun c hc n => by
    have := implTab a len cap X n.x hl (HL.out.keep n.h)
    rw [hc] at this
    exact old_call this
  have hcxn : ∀ n : Old W, n.x.cell? ⟨w.heap.size, 0, none⟩ = some (.float .f32 x) := fun n => (Step.out n.x n.h).1
  cases hok : okP len X
  · have Hf := Lib.hid (show -1 = segV len X x by rw [segV_out (by unfold segIn; rw [hok]; rfl)])
    go_enter Try.func20, Try.ntmps20
    have ht := Lib.hid (htab false hok)
    clear htab
    go_wp2_with fail
    refine wp_region_old (by kernel_rfl) (by kernel_rfl) ?_
    repeat (go_big_quiet_step ((go_at_call 17; exact ht.out _)))
    refine wpQuiet_nil ?_
    rintro _ ⟨n, rfl⟩
    obtain ⟨_, hb1', _⟩ := Step.out n.x n.h
    have Hb1 := Lib.hid hb1'
    clear hb1'
    go_wp2_with fail
    go_ret
    exact ⟨ret_int Hf.out, Hb1.out⟩
  · have hb12 := okP_bounds hok
    obtain ⟨b, off, rfl, hlt, hcells⟩ := HL.out.cells (by omega)
    obtain ⟨m, rfl⟩ : ∃ m, len = m + 2 := ⟨len - 2, by omega⟩
    have hw1 : IntKind.i64.wrap (((m + 2 : Nat) : Int) - 1) = ((m + 1 : Nat) : Int) := by rw [IntKind.wrap_i64]; omega
    have hw2 : IntKind.i64.wrap ((m : Int) + 2 - 1) = (m : Int) + 1 := by rw [IntKind.wrap_i64]; omega
    obtain ⟨c1, e1⟩ : ∃ c, geB x (X 0) = c := ⟨_, rfl⟩
    obtain ⟨c2, e2⟩ : ∃ c, leB x (X ((m + 1) * 2)) = c := ⟨_, rfl⟩
    have Hi := Lib.hid (show segIn (m + 2) X x = (c1 && c2) by unfold segIn; rw [hok, show m + 2 - 1 = m + 1 from rfl, e1, e2]; rfl)
    have Hok := Lib.hid hok
    have f1 := e1
    have f2 := e2
    unfold geB at f1
    unfold leB at f2
    have cellsN : ∀ n : Old W, ∀ i, i < m + 2 → n.x.cell? ⟨b, off + i * 2, none⟩ = some (.float .f32 (X (i * 2))) := fun n i hi => (n.h.cell (p := ⟨b, off + i * 2, none⟩) hlt).trans (hcells i hi).1
    have q0 : ∀ n : Old W, n.x.cell? ⟨b, off, none⟩ = some (.float .f32 (X 0)) := fun n => cellsN n 0 (by omega)
    have q1 : ∀ n : Old W, n.x.cell? ⟨b, off + (m + 1) * 2, none⟩ = some (.float .f32 (X ((m + 1) * 2))) := fun n => cellsN n (m + 1) (by omega)
    have ht := Lib.hid (htab true hok)
    clear hcells e1 e2 cellsN htab
    rcases (show c1 = false ∨ (c1 = true ∧ c2 = false) ∨ (c1 = true ∧ c2 = true) by cases c1 <;> cases c2 <;> simp) with rfl | ⟨rfl, rfl⟩ | ⟨rfl, rfl⟩
    iterate 2
      · have Hf := Lib.hid (show -1 = segV (m + 2) X x by rw [segV_out (by rw [Hi.out]; rfl)])
        go_enter Try.func20, Try.ntmps20
        clear hok
        go_wp2_with fail
        refine wp_region_old (by kernel_rfl) (by kernel_rfl) ?_
        repeat (go_big_quiet_step ((go_at_call 17; exact ht.out _)))
        refine wpQuiet_nil ?_
        rintro _ ⟨n, rfl⟩
        obtain ⟨_, hb1', _⟩ := Step.out n.x n.h
        have Hb1 := Lib.hid hb1'
        clear hb1'
        go_wp2_with fail
        go_ret
        exact ⟨ret_int Hf.out, Hb1.out⟩
    · have hin := show segIn (m + 2) X x = true by rw [Hi.out]; rfl
      obtain ⟨s1, s2⟩ := seg_fst hin
      have hfl := (fstN_spec (m + 2) X (fun a _ => gtB a x)).1
      obtain ⟨p, hp⟩ : ∃ p, fstN (m + 2) X (fun a _ => gtB a x) = p + 1 := ⟨_, (Nat.sub_add_cancel s1).symm⟩
      rw [hp] at s2 hfl
      have Hf := Lib.hid s2
      have Hp := Lib.hid hp
      have hw3 : IntKind.i64.wrap (((p + 1 : Nat) : Int) - 1) = (p : Int) := by rw [IntKind.wrap_i64]; omega
      have hw4 : IntKind.i64.wrap (((m + 2 : Nat) : Int) - 2) = (m : Int) := by rw [IntKind.wrap_i64]; omega
      clear hin s1 s2 hp
      go_enter Try.func20, Try.ntmps20
      have Hok2 := Lib.hid hok
      clear hok
      go_wp2_with fail
      refine wp_region_old (by kernel_rfl) (by kernel_rfl) ?_
      repeat (go_big_quiet_step ((go_at_call 17; exact ht.out _)))
      refine wpQuiet_nil ?_
      rintro w1 ⟨n, hn⟩
      have hb1 := n.h
      rw [← hn] at hb1
      clear hcxn q0 q1 hn
      obtain ⟨hcx1, hb1', hL1, hbl1⟩ := Step.out w1 hb1
      have Hb1 := Lib.hid hb1'
      have HL1 := Lib.hid hL1
      have Hbl1 := Lib.hid hbl1
      have hw0lt : w.heap.size < w1.heap.size := Nat.lt_of_lt_of_le hblt hb1.size
      obtain ⟨_, _, he, hlt1, hc1⟩ := hL1.cells (by omega)
      cases he
      have Hc1 := Lib.hid hc1
      clear hb1 hb1' hL1 hc1 hbl1
      go_wp2_with fail
      refine (fstP _ (.pointer (some ⟨w.heap.size, 0, none⟩)) (fun a _ => gtB a x) enter_above b off (m + 2) cap X w1 (fun y z W2 hW2 => above_any _ _ _ _ _ ((hW2.block _ hw0lt).trans Hbl1.out)) hl hlt1 Hc1.out).mono ?_
      rintro e w2 ⟨rfl, hb2⟩
      rw [Hp.out]
      have Hb2 := Lib.hid (Hb1.out.trans (hb2.mono (Nat.le_of_lt hw0lt)))
      clear hb2
      go_wp2_with fail
      all_goals
        go_ret
        exact ⟨ret_int (by rw [← Hf.out]; omega), Hb2.out⟩
end Go.Proofs.Ytbmojogohffhaaa.Pnt
