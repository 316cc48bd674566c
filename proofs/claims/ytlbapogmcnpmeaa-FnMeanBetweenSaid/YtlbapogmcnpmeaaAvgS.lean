/- The model's sorted list: plain insertion, and l06Sorted. -/
import Derived.Test.YtlbapogmcnpmeaaAvgM
import Derived.Test.YtlbapogmcnpmeaaFlw
namespace Go.Proofs.Ytlbapogmcnpmeaa.Avg
open Go.ChangeShapes Go.WideShapes Go.ChangeAt Go.RowKit Go.Deep Go.Proofs.Ytlbapogmcnpmeaa Go.Proofs.Ytlbapogmcnpmeaa.Flt Go.Proofs.Ytlbapogmcnpmeaa.Mth Go.Proofs.Ytlbapogmcnpmeaa.Sgl
open Ieee (single double)
set_option linter.unusedVariables false
/-- where an element goes: behind all that are not greater, from the back -/
def posn (Z : Nat → Nat) (x : Nat) : Nat → Nat
  | 0 => 0
  | q + 1 => if gtB (Z q) x = true then posn Z x q else q + 1
theorem posn_le (Z : Nat → Nat) (x : Nat) : ∀ q, posn Z x q ≤ q
  | 0 => Nat.le_refl _
  | q + 1 => by have := posn_le Z x q; unfold posn; split <;> omega
/-- an element put in at a place -/
def insF (Z : Nat → Nat) (p x : Nat) : Nat → Nat := fun j => if j < p then Z j else if j = p then x else Z (j - 1)
/-- the first so many elements, sorted -/
def srt (X : Nat → Nat) : Nat → Nat → Nat
  | 0 => fun _ => 0
  | k + 1 => insF (srt X k) (posn (srt X k) (X k) k) (X k)
theorem ownF_cells {base g cp q : Nat} {Z : Nat → Nat} {w : World} (h : OwnF base w (.slice (some ⟨g, 0, none⟩) q cp) q Z) : base ≤ g ∧ g < w.heap.size ∧ q ≤ cp ∧ CellsF w g 0 q Z := by
  have h' := h
  rcases h.2 with ⟨e, _⟩ | ⟨g', cap, cur, e, hb, hg, hh, rest⟩
  · cases e
  · cases e
    refine ⟨hb, lt_of_block hg, hh, fun i hi => ?_⟩
    rw [Nat.zero_add, World.ownsRow.cellAt h' i (by omega), flat_at hi]
theorem slice_end (g q cp k : Nat) (h : k ≤ q) (hq : q ≤ cp) :
    ∃ off, (k < q → off = k) ∧ ∀ w, (Instr.slice 22 (.slice (some ⟨g, 0, none⟩) q cp) (some (.int .i64 (k : Int))) none none).run Try.prog w = .ok (.slice (some ⟨g, off, none⟩) (q - k) (cp - k)) w := by
  obtain ⟨i0, hi, hz0, hz1, hz2⟩ := info_partsF
  have h0 : (0 : Int) ≤ k := by omega
  have h1 : (k : Int) ≤ q := by omega
  simp only [Instr.slice, Instr.sliceBounds]
  simp [run_underlying Try.underlying22, run_sliceBound, sizeOf, typeInfo, hi, h0, h1, Addr.add, hz1]
  by_cases hk : cp = k
  · exact ⟨0, fun h' => by omega, by rw [if_pos hk]⟩
  · rw [if_neg hk]
    by_cases h4 : k = 0
    · exact ⟨0, fun _ => h4.symm, by rw [if_pos h4]⟩
    · exact ⟨k, fun _ => rfl, by rw [if_neg h4]⟩
/-- the three appends -/
theorem app3F {base g p q cp off x : Nat} {Z : Nat → Nat} {w6 : World} (hp : p ≤ q) (hq : q ≤ 1000) (hoff : p < q → off = p) (hbase : base ≤ w6.heap.size) (hown : OwnF base w6 (.slice (some ⟨g, 0, none⟩) q cp) q Z) :
    ∃ gA cA wA gC cC wC gD cD wD, (Builtin.append_ #[22, 22] 22 #[.slice (some ⟨w6.heap.size, 0, none⟩) 0 0, .slice (some ⟨g, 0, none⟩) p cp]).run Try.prog (w6.alloc (.cells #[] 30)) = .ok (.slice (some ⟨gA, 0, none⟩) p cA) wA ∧
      (Builtin.append_ #[22, 22] 22 #[.slice (some ⟨gA, 0, none⟩) p cA, .slice (some ⟨wA.heap.size, 0, none⟩) 1 1]).run Try.prog (wA.alloc (.cells #[.float .f32 x] 30)) = .ok (.slice (some ⟨gC, 0, none⟩) (p + 1) cC) wC ∧
      (Builtin.append_ #[22, 22] 22 #[.slice (some ⟨gC, 0, none⟩) (p + 1) cC, .slice (some ⟨g, off, none⟩) (q - p) (cp - p)]).run Try.prog wC = .ok (.slice (some ⟨gD, 0, none⟩) (q + 1) cD) wD ∧
      Below base w6 wA ∧ OwnF base wD (.slice (some ⟨gD, 0, none⟩) (q + 1) cD) (q + 1) (insF Z p x) ∧ Below base w6 wD := by
  obtain ⟨hbg, hg6, hcap, hC6⟩ := ownF_cells hown
  have hbA := (Below.refl w6.heap.size w6).alloc (Nat.le_refl _) (.cells #[] 30)
  obtain ⟨gA, cA, wA, krunA, hownA, hbelA⟩ := appF (base := w6.heap.size) (n := 0) (cap := 0) (m := p) (c := cp) (g := w6.heap.size) (ad := ⟨g, 0, none⟩) (Y := Z) (litF w6) (fun j hj => by
    have := (hC6.keep hg6 hbA) j (by omega)
    rw [addr_add]; exact this) (by omega) hbA.size
  rw [Nat.zero_add] at krunA hownA
  have hb6A := hbA.trans hbelA
  have hsA := hb6A.size
  have hbB := hb6A.alloc hsA (.cells #[.float .f32 x] 30)
  obtain ⟨gC, cC, wC, krunC, hownC, hbelC⟩ := appF (base := w6.heap.size) (w := wA.alloc (.cells #[.float .f32 x] 30)) (n := p) (cap := cA) (m := 1) (c := 1) (g := gA) (ad := ⟨wA.heap.size, 0, none⟩) (Y := fun _ => x) (World.ownsRow.alloc hownA _) (fun j hj => by
    have hn : (wA.alloc (.cells #[.float .f32 x] 30)).heap[wA.heap.size]? = some (.cells #[.float .f32 x] 30 (0, 0)) := block_new wA _
    rw [addr_add, Nat.zero_add, cell_of_row _ wA.heap.size j _ _ _ hn]
    obtain rfl : j = 0 := by omega
    rfl) (by omega) hbB.size
  have hb6C := hbB.trans hbelC
  have hsC := hb6C.size
  obtain ⟨gD, cD, wD, krunD, hownD, hbelD⟩ := appF (base := w6.heap.size) (w := wC) (n := p + 1) (cap := cC) (m := q - p) (c := cp - p) (g := gC) (ad := ⟨g, off, none⟩) (Y := fun j => Z (p + j)) hownC (fun j hj => by
    have := (hC6.keep hg6 hb6C) (p + j) (by omega)
    rw [addr_add, hoff (by omega)]
    rw [Nat.zero_add] at this; exact this) (by omega) hsC
  rw [show p + 1 + (q - p) = q + 1 by omega] at krunD hownD
  refine ⟨gA, cA, wA, gC, cC, wC, gD, cD, wD, krunA, krunC, krunD, hb6A.mono hbase, own_mono (ownF_congr hownD fun j hj => ?_) hbase, (hb6C.trans hbelD).mono hbase⟩
  unfold insF
  by_cases h1 : j < p
  · rw [spl_eq, if_neg (by omega), spl_eq, if_neg (by omega), spl_eq, if_pos (by omega), if_pos h1]; rfl
  · rw [if_neg h1]
    by_cases h2 : j = p
    · rw [spl_eq, if_neg (by omega), spl_eq, if_pos (by omega), if_pos h2]
    · rw [if_neg h2, spl_eq, if_pos (by omega)]
      show Z (p + (j - (p + 1))) = Z (j - 1)
      congr 1
      omega
set_option maxHeartbeats 400000 in
theorem spec_sorted (a : Option Addr) (len cap : Nat) (X : Nat → Nat) (w : World) (hl : len ≤ 64) (h : LstF w a len X) :
    Calls Try.prog 48 #[.slice a len cap] w fun e w' => ∃ g cp, e = .returned (.slice (some ⟨g, 0, none⟩) len cp) ∧ OwnF w.heap.size w' (.slice (some ⟨g, 0, none⟩) len cp) len (srt X len) ∧ Below w.heap.size w w' := by
  have H := Lib.hid h
  clear h
  have Hst := Lib.hid (And.intro (litF w) ((Below.refl w.heap.size w).alloc (Nat.le_refl _) (.cells #[] 30)))
  go_enter Try.func48, Try.ntmps48
  go_wp2_with fail
  go_loopw [3, 4] (fun v iv wr => ∃ (r g cp : Nat), v = .slice (some ⟨g, 0, none⟩) r cp ∧ iv = .int .i64 (r : Int) ∧ r ≤ len ∧ OwnF w.heap.size wr (.slice (some ⟨g, 0, none⟩) r cp) r (srt X r) ∧ Below w.heap.size w wr)
    (fun _ iv _ => len - (intOf iv).toNat)
  case atStart => exact ⟨0, w.heap.size, 0, rfl, rfl, Nat.zero_le _, Hst.out.1, Hst.out.2⟩
  case round =>
    obtain ⟨r, g, cp, rfl, rfl, hr, hown, hbel⟩ := hrel
    by_cases hrl : r < len
    · have hrl' : (r : Int) < (len : Int) := by omega
      obtain ⟨b, off, ha, hlt, hc⟩ := LstF.cells H.out (by omega)
      subst ha
      have hsz := hbel.size
      have Hc := Lib.hid (And.intro hc hlt)
      have Hr := Lib.hid (And.intro hown hbel)
      obtain ⟨hbg, hgl, hcap, hcells⟩ := ownF_cells hown
      have Hz := Lib.hid hcells
      obtain ⟨x, hx⟩ : ∃ x, X r = x := ⟨_, rfl⟩
      obtain ⟨Z, hZ⟩ : ∃ Z, srt X r = Z := ⟨_, rfl⟩
      have a0 := (hc.keep hlt hbel) r hrl
      rw [hx] at a0
      rw [hZ] at Hr Hz
      have Hxx := Lib.hid hx
      have Hn := Lib.hid (show srt X (r + 1) = insF Z (posn Z x r) x by rw [← hZ, ← hx]; rfl)
      clear hc hown hbel hcells hx hZ
      go_wp2_with fail
      go_loopw [5] (fun av w2 => ∃ k : Nat, av = .int .i64 (k : Int) ∧ k ≤ r ∧ Hid (posn Z x r = posn Z x k) ∧ ∃ m, w2 = wr.drewN m)
        (fun av _ => (intOf av).toNat)
      case atStart => exact ⟨r, rfl, Nat.le_refl _, Lib.hid rfl, 0, rfl⟩
      case round =>
        obtain ⟨k, rfl, hk, hpos, m, rfl⟩ := hrel
        by_cases hk0 : 0 < k
        · obtain ⟨j, hkj⟩ : ∃ j, k = j + 1 := ⟨k - 1, by omega⟩
          obtain ⟨z, hz⟩ : ∃ z, Z j = z := ⟨_, rfl⟩
          have z0 := Hz.out j (by omega)
          rw [hz, Nat.zero_add] at z0
          obtain ⟨c, hc⟩ : ∃ c, gtB z x = c := ⟨_, rfl⟩
          have Hk := Lib.hid (show posn Z x k = if c = true then posn Z x j else k by rw [hkj, ← hc, ← hz]; rfl)
          unfold gtB at hc
          have hj0 : (0 : Int) < (k : Int) := by omega
          have hjr : j < r := by omega
          have hw1 : IntKind.i64.wrap ((k : Int) - 1) = (j : Int) := by rw [IntKind.wrap_i64]; omega
          have Hkj := Lib.hid hkj
          clear hkj hz
          cases c
          · go_wp2_with fail
            go_quiet (fail)
            obtain ⟨m1, hm1⟩ : ∃ m1, (wr.drewN m).drewN nq = wr.drewN m1 := ⟨m + nq, World.drewN_drewN _ _ _⟩
            first | rw [hm1] | skip
            have Hp := Lib.hid (show posn Z x r = k from hpos.out.trans Hk.out)
            have Hw := Lib.hid (show OwnF w.heap.size (wr.drewN m1) (.slice (some ⟨g, 0, none⟩) r cp) r Z ∧ Below w.heap.size w (wr.drewN m1) from ⟨Hr.out.1, below_drewN Hr.out.2 m1⟩)
            obtain ⟨offs, hoffs, hsl⟩ := slice_end g r cp k hk hcap
            have hfr := fun wx => run_front g 0 r cp k wx (show k ≤ cp by omega)
            obtain ⟨w6, hw6⟩ : ∃ w6, wr.drewN m1 = w6 := ⟨_, rfl⟩
            rw [hw6] at Hw ⊢
            obtain ⟨gA, cA, wA, gC, cC, wC, gD, cD, wD, krunA, krunC, krunD, hbelA, hownD, hbelD⟩ := app3F (x := x) (off := offs) hk (show r ≤ 1000 by omega) hoffs Hw.out.2.size Hw.out.1
            have aA := (Hc.out.1.keep Hc.out.2 (Hw.out.2.trans hbelA)) r hrl
            rw [Hxx.out] at aA
            have H9 := Lib.hid (show OwnF w.heap.size wD (.slice (some ⟨gD, 0, none⟩) (r + 1) cD) (r + 1) (srt X (r + 1)) ∧ Below w.heap.size w wD from ⟨by rw [Hn.out, Hp.out]; exact hownD, Hw.out.2.trans hbelD⟩)
            clear hbelA hownD hbelD hw6 a0 z0 hoffs
            go_wp2_with (at_builtin; go_loud (first | refine wpList_append_run rfl (.tmp 32) (.tmp 35) _ rfl rfl rfl krunA ?_ | refine wpList_append_run rfl (.tmp 37) (.tmp 42) _ rfl rfl rfl krunC ?_ | refine wpList_append_run rfl (.tmp 44) (.tmp 47) _ rfl rfl rfl krunD ?_))
            go_roundw
            case rel => exact ⟨r + 1, gD, cD, rfl, by go_num, by omega, H9.out.1, H9.out.2⟩
            case measure => simp [intOf]; omega
          · go_wp2_with fail
            go_quiet (fail)
            obtain ⟨m1, hm1⟩ : ∃ m1, (wr.drewN m).drewN nq = wr.drewN m1 := ⟨m + nq, World.drewN_drewN _ _ _⟩
            first | rw [hm1] | skip
            go_wp2_with fail
            go_roundw
            case rel => exact ⟨j, by first | rfl | go_num, by omega, Lib.hid (hpos.out.trans Hk.out), m1, by first | rfl | trivial | exact hm1⟩
            case measure => have := Hkj.out; simp [intOf]; omega
        · have hj0 : ¬ (0 : Int) < (k : Int) := by omega
          have Hk0 := Lib.hid (show posn Z x k = k by rw [show k = 0 by omega]; rfl)
          go_wp2_with fail
          go_quiet (fail)
          obtain ⟨m1, hm1⟩ : ∃ m1, (wr.drewN m).drewN nq = wr.drewN m1 := ⟨m + nq, World.drewN_drewN _ _ _⟩
          first | rw [hm1] | skip
          have Hp := Lib.hid (show posn Z x r = k from hpos.out.trans Hk0.out)
          have Hw := Lib.hid (show OwnF w.heap.size (wr.drewN m1) (.slice (some ⟨g, 0, none⟩) r cp) r Z ∧ Below w.heap.size w (wr.drewN m1) from ⟨Hr.out.1, below_drewN Hr.out.2 m1⟩)
          obtain ⟨offs, hoffs, hsl⟩ := slice_end g r cp k hk hcap
          have hfr := fun wx => run_front g 0 r cp k wx (show k ≤ cp by omega)
          obtain ⟨w6, hw6⟩ : ∃ w6, wr.drewN m1 = w6 := ⟨_, rfl⟩
          rw [hw6] at Hw ⊢
          obtain ⟨gA, cA, wA, gC, cC, wC, gD, cD, wD, krunA, krunC, krunD, hbelA, hownD, hbelD⟩ := app3F (x := x) (off := offs) hk (show r ≤ 1000 by omega) hoffs Hw.out.2.size Hw.out.1
          have aA := (Hc.out.1.keep Hc.out.2 (Hw.out.2.trans hbelA)) r hrl
          rw [Hxx.out] at aA
          have H9 := Lib.hid (show OwnF w.heap.size wD (.slice (some ⟨gD, 0, none⟩) (r + 1) cD) (r + 1) (srt X (r + 1)) ∧ Below w.heap.size w wD from ⟨by rw [Hn.out, Hp.out]; exact hownD, Hw.out.2.trans hbelD⟩)
          clear hbelA hownD hbelD hw6 a0 hoffs
          go_wp2_with (at_builtin; go_loud (first | refine wpList_append_run rfl (.tmp 32) (.tmp 35) _ rfl rfl rfl krunA ?_ | refine wpList_append_run rfl (.tmp 37) (.tmp 42) _ rfl rfl rfl krunC ?_ | refine wpList_append_run rfl (.tmp 44) (.tmp 47) _ rfl rfl rfl krunD ?_))
          go_roundw
          case rel => exact ⟨r + 1, gD, cD, rfl, by go_num, by omega, H9.out.1, H9.out.2⟩
          case measure => simp [intOf]; omega
    · obtain rfl : r = len := by omega
      have hrl' : ¬ (r : Int) < (r : Int) := by omega
      have Hr := Lib.hid (And.intro hown hbel)
      clear hown hbel
      go_wp2_with fail
      go_ret
      exact ⟨g, cp, rfl, Hr.out.1, Hr.out.2⟩
end Go.Proofs.Ytlbapogmcnpmeaa.Avg
