/- Proves FnRefined: for every input the law returns true and its arguments read as before. No further condition. -/
import Derived.Test.YtbmojogohffhaaaRows
import Derived.WalkKit
import Derived.WalkLawsBesides
import Derived.ProofKit
import Derived.OpenShut
import Derived.ShutString
import Derived.ChangeOld
import Derived.Below
import Derived.Test.YtbmojogohffhaaaRefR
import Derived.Test.YtbmojogohffhaaaTabX

namespace Go.Proofs.Ytbmojogohffhaaa.fnRefined
open Go.ChangeShapes Go.WideShapes Go.ChangeAt Go.RowKit Go.Proofs.Ytbmojogohffhaaa Go.Proofs.Ytbmojogohffhaaa.Flt Go.Proofs.Ytbmojogohffhaaa.Mth Go.Proofs.Ytbmojogohffhaaa.Pnt Go.Proofs.Ytbmojogohffhaaa.Sgl
open Ieee (single double)
set_option linter.unusedVariables false
/-- an old point stands in the refined list -/
theorem ref_old (n : Nat) (X : Nat → Nat) (x y : Nat) {k : Nat} (hk : k < n) : ∃ j, j < insN n X x ∧ insX n X x y (j * 2) = X (k * 2) ∧ insX n X x y (j * 2 + 1) = X (k * 2 + 1) := by
  unfold insN insX
  split
  · exact ⟨k, hk, rfl, rfl⟩
  · by_cases h : k < insAt n X x
    · obtain ⟨e0, e1⟩ := insC_at X (insAt n X x) x y k
      rw [if_pos h] at e0 e1
      exact ⟨k, by omega, e0, e1⟩
    · obtain ⟨e0, e1⟩ := insC_at X (insAt n X x) x y (k + 1)
      rw [if_neg (by omega), if_neg (by omega), Nat.add_sub_cancel] at e0 e1
      exact ⟨k + 1, by omega, e0, e1⟩
/-- the refined table tells the same at the new point -/
theorem ref_new {n : Nat} {X : Nat → Nat} {x : Nat} (h : segIn n X x = true) (hok : okP (insN n X x) (insX n X x (ipV n X x)) = true) :
    segIn (insN n X x) (insX n X x (ipV n X x)) x = true ∧ ipV (insN n X x) (insX n X x (ipV n X x)) x = ipV n X x := by
  have hp := insAt_le n X x
  cases hh : insH n X x
  · have eN : insN n X x = n + 1 := by unfold insN; rw [hh]; rfl
    have eX : insX n X x (ipV n X x) = insC X (insAt n X x) x (ipV n X x) := by unfold insX; rw [hh]; rfl
    rw [eN, eX] at hok ⊢
    obtain ⟨e0, e1⟩ := insC_at X (insAt n X x) x (ipV n X x) (insAt n X x)
    rw [if_neg (by omega), if_pos rfl] at e0 e1
    have h1 := node_in hok (k := insAt n X x) (by omega)
    have h2 := node_val hok (k := insAt n X x) (by omega)
    rw [e0] at h1 h2
    rw [e1] at h2
    exact ⟨h1, h2⟩
  · have eN : insN n X x = n := by unfold insN; rw [hh]; rfl
    have eX : insX n X x (ipV n X x) = X := by unfold insX; rw [hh]; rfl
    rw [eN, eX]
    exact ⟨h, rfl⟩
theorem ref_at {n : Nat} {X : Nat → Nat} {x y : Nat} (hok : okP (insN n X x) (insX n X x y) = true) {k : Nat} (hk : k < n) :
    segIn (insN n X x) (insX n X x y) (X (k * 2)) = true ∧ ipV (insN n X x) (insX n X x y) (X (k * 2)) = X (k * 2 + 1) := by
  obtain ⟨j, hj, e0, e1⟩ := ref_old n X x y hk
  have h1 := node_in hok hj
  have h2 := node_val hok hj
  rw [e0] at h1 h2
  rw [e1] at h2
  exact ⟨h1, h2⟩
set_option maxRecDepth 100000 in
set_option maxHeartbeats 1600000 in
theorem walk (a : Option Addr) (len cap : Nat) (zs : List Int) (w : World) (hr : IsRow .u8 w a len cap zs) :
    Calls Try.prog 4 #[.slice a len cap] w fun x w' => x = .returned (.bool true) ∧ Below w.heap.size w w' := by
  by_cases hl : (len : Int) ≤ 1048576
  · go_enter Try.func4, Try.ntmps4
    go_wp2_with fail
    refine (Drw.big_no _ _ _ _ hl).mono ?_
    rintro e w ⟨rfl, rfl⟩
    go_wp2_with fail
    refine (draw_table a len cap zs _ hr).mono ?_
    rintro e w1 ⟨g, n, cp, X, x, rfl, n1, n2, hok, hwf, hg, hglt, hcells, wx, hb, hat⟩
    have HX := Lib.hid (And.intro hok (And.intro hwf hat))
    have H1 := Lib.hid (And.intro hcells (And.intro hb (show Lst w1 (some ⟨g, 0, none⟩) n X from ⟨hwf, .inr ⟨g, 0, rfl, hglt, hcells⟩⟩)))
    have hln : n ≤ 1048576 := by omega
    have hsz1 := hb.size
    clear hok hwf hcells hb hat hr
    go_wp2_with fail
    refine (implItp _ _ _ X x _ hln H1.out.2.2).mono ?_
    rintro e w2 ⟨rfl, hb2⟩
    have H2 := Lib.hid (And.intro (H1.out.1.keep hglt hb2) (And.intro (H1.out.2.1.trans (hb2.mono hsz1)) (H1.out.2.2.keep hb2)))
    have hglt2 := Nat.lt_of_lt_of_le hglt hb2.size
    have hsz2 : w.heap.size ≤ w2.heap.size := H2.out.2.1.size
    clear hb2
    -- the list of the one number
    have hb3 := (Below.refl w2.heap.size w2).alloc (Nat.le_refl _) (.cells #[.float .f32 x] 25)
    have hblk : (w2.alloc (.cells #[.float .f32 x] 25)).heap[w2.heap.size]? = some (.cells #[.float .f32 x] 25 (0, 0)) := block_new w2 _
    obtain ⟨w3, hw3⟩ : ∃ w3, w2.alloc (.cells #[.float .f32 x] 25) = w3 := ⟨_, rfl⟩
    have hs3 : w3.heap.size = w2.heap.size + 1 := by rw [← hw3]; exact sz_alloc _ _
    rw [hw3] at hb3 hblk
    have H3 := Lib.hid (And.intro (H2.out.1.keep hglt2 hb3) (And.intro (H2.out.2.1.trans (hb3.mono hsz2)) (And.intro (H2.out.2.2.keep hb3) (show LstF w3 (some ⟨w2.heap.size, 0, none⟩) 1 (fun _ => x) from ⟨fun i hi => wx, .inr ⟨w2.heap.size, 0, rfl, by omega, fun i hi => by
      obtain rfl : i = 0 := by omega
      exact cell_of_row w3 w2.heap.size 0 #[.float .f32 x] 25 (0, 0) hblk⟩⟩))))
    have hsz3 : w.heap.size ≤ w3.heap.size := by omega
    have hglt3 : g < w3.heap.size := by omega
    clear hb3 hblk
    go_wp2_with fail
    refine (implRef _ _ _ X _ 1 _ (fun _ => x) _ hln (by omega) H3.out.2.2.1 H3.out.2.2.2).mono ?_
    rintro e w4 ⟨v, rfl, hv, hb4⟩
    have H4 := Lib.hid (And.intro (H3.out.1.keep hglt3 hb4) (And.intro (H3.out.2.1.trans (hb4.mono hsz3)) (H3.out.2.2.1.keep hb4)))
    have hglt4 := Nat.lt_of_lt_of_le hglt3 hb4.size
    have hsz4 : w.heap.size ≤ w4.heap.size := H4.out.2.1.size
    clear hb4
    cases hrb : refB n X 1 (fun _ => x)
    · rw [refN_no hrb] at hv
      obtain ⟨av, cv, rfl, _⟩ := OwnQ.form hv
      clear hv hrb
      go_wp2_with fail
      refine (implTab _ _ _ X _ hln H4.out.2.2).mono ?_
      rintro e w5 ⟨rfl, hb5⟩
      rw [HX.out.1]
      have H5 := Lib.hid (H4.out.2.1.trans (hb5.mono hsz4))
      clear hb5
      go_wp2_with fail
      go_ret
      exact ⟨rfl, H5.out⟩
    · obtain ⟨_, hsg, hokF⟩ := refB_ok hrb
      have hin := hsg 0 (by omega)
      have eN : refN n X 1 (fun _ => x) = insN n X x := refN_yes hrb
      have eX : refX n X 1 (fun _ => x) = insX n X x (ipV n X x) := rfl
      have hokF' : okP (insN n X x) (insX n X x (ipV n X x)) = true := hokF
      rw [eN, eX] at hv
      have hN := insN_ge n X x
      obtain ⟨w1', w2'⟩ := ref_new hin hokF'
      have hwfF : Wf (insN n X x) (insX n X x (ipV n X x)) := ins_wf HX.out.2.1 wx (ipV_wf HX.out.2.1 x)
      have Hat := Lib.hid (fun k (hk : k < n) => ref_at hokF' hk)
      have wy := ipV_wf HX.out.2.1 x
      obtain ⟨N, hNN⟩ : ∃ N, insN n X x = N := ⟨_, rfl⟩
      obtain ⟨F, hFF⟩ : ∃ F, insX n X x (ipV n X x) = F := ⟨_, rfl⟩
      obtain ⟨y, hy⟩ : ∃ y, ipV n X x = y := ⟨_, rfl⟩
      rw [hNN, hFF] at hv hwfF Hat hokF' w1' w2'
      rw [hNN] at hN
      rw [hy] at wy w2' ⊢
      rw [hin]
      obtain ⟨av, cv, rfl, hLv⟩ := OwnQ.lst hv hwfF
      have HF := Lib.hid (And.intro hokF' (And.intro w1' w2'))
      have HLv := Lib.hid hLv
      have hNl : N ≤ 1048576 := by omega
      clear hv hrb hsg hokF hin eN eX hokF' w1' w2' hwfF hNN hFF hy hLv
      go_wp2_with fail
      refine (implItp _ _ _ F x _ hNl HLv.out).mono ?_
      rintro e w5 ⟨rfl, hb5⟩
      rw [HF.out.2.1, HF.out.2.2]
      have H5 := Lib.hid (And.intro (H4.out.1.keep hglt4 hb5) (And.intro (H4.out.2.1.trans (hb5.mono hsz4)) (HLv.out.keep hb5)))
      have hglt5 := Nat.lt_of_lt_of_le hglt4 hb5.size
      have hsz5 : w.heap.size ≤ w5.heap.size := H5.out.2.1.size
      clear hb5
      go_wp2_with fail
      refine (same32_any _ _ _ wy wy).mono ?_
      rintro e w6 ⟨rfl, q, hw6⟩
      rw [sameW_refl]
      have hb6 : Below w5.heap.size w5 w6 := by rw [hw6]; exact below_drewN (Below.refl _ _) q
      have H6 := Lib.hid (And.intro (H5.out.1.keep hglt5 hb6) (And.intro (H5.out.2.1.trans (hb6.mono hsz5)) (H5.out.2.2.keep hb6)))
      have hglt6 := Nat.lt_of_lt_of_le hglt5 hb6.size
      have hsz6 : w.heap.size ≤ w6.heap.size := H6.out.2.1.size
      clear hb6 hw6
      go_wp2_with fail
      refine (implTab _ _ _ F _ hNl H6.out.2.2).mono ?_
      rintro e w7 ⟨rfl, hb7⟩
      rw [HF.out.1]
      have H7 := Lib.hid (And.intro (H6.out.1.keep hglt6 hb7) (And.intro (H6.out.2.1.trans (hb7.mono hsz6)) (H6.out.2.2.keep hb7)))
      have hglt7 := Nat.lt_of_lt_of_le hglt6 hb7.size
      have hsz7 : w.heap.size ≤ w7.heap.size := H7.out.2.1.size
      have Hlt7 := Lib.hid hglt7
      clear hb7
      go_wp2_with fail
      go_loopw [11] (fun iv wr => ∃ (k : Nat), iv = .int .i64 (k : Int) ∧ k ≤ n ∧ Below w7.heap.size w7 wr)
        (fun iv _ => n - (intOf iv).toNat)
      case atStart => exact ⟨0, rfl, Nat.zero_le _, Below.refl _ _⟩
      case round =>
        obtain ⟨k, rfl, hk, hbel⟩ := hrel
        have Hbel := Lib.hid hbel
        have hszr := hbel.size
        have HL := Lib.hid (H7.out.2.2.keep hbel)
        have Hcc := Lib.hid (H7.out.1.keep Hlt7.out hbel)
        by_cases hkn : k < n
        · have hkn' : (k : Int) < (n : Int) := by omega
          obtain ⟨m1, m2⟩ := Hat.out k hkn
          obtain ⟨a0, a1⟩ := Hcc.out k hkn
          rw [Nat.zero_add] at a0 a1
          have Hin := Lib.hid (And.intro m1 m2)
          have wk := (HX.out.2.1 k hkn).2
          clear hbel m1 m2
          go_wp2_with fail
          refine (implItp _ _ _ F _ _ hNl HL.out).mono ?_
          rintro e w8 ⟨rfl, hb8⟩
          rw [Hin.out.1, Hin.out.2]
          obtain ⟨b0, b1⟩ := (Hcc.out.keep (Nat.lt_of_lt_of_le Hlt7.out hszr) hb8) k hkn
          rw [Nat.zero_add] at b0 b1
          have H8 := Lib.hid (Hbel.out.trans (hb8.mono hszr))
          clear hb8 a0 a1
          go_wp2_with fail
          refine (same32_any _ _ _ wk wk).mono ?_
          rintro e w9 ⟨rfl, q9, hw9⟩
          rw [sameW_refl]
          have H9 := Lib.hid (show Below w7.heap.size w7 w9 from by rw [hw9]; exact below_drewN H8.out q9)
          clear hw9
          go_wp2_with fail
          go_roundw
          case rel => exact ⟨k + 1, by go_num, hkn, H9.out⟩
          case measure => simp [intOf]; omega
        · obtain rfl : k = n := by omega
          have hkn' : ¬ (k : Int) < (k : Int) := by omega
          clear hbel
          rcases (show N = k ∨ N = k + 1 by omega) with rfl | rfl
          · go_wp2_with fail
            go_ret
            exact ⟨rfl, H7.out.2.1.trans (Hbel.out.mono hsz7)⟩
          · have hne : ¬ ((k : Int) + 1 = (k : Int)) := by omega
            go_wp2_with fail
            go_ret
            exact ⟨rfl, H7.out.2.1.trans (Hbel.out.mono hsz7)⟩
  · go_enter Try.func4, Try.ntmps4
    go_wp2_with fail
    refine (Drw.big_yes _ _ _ _ (by omega)).mono ?_
    rintro e w ⟨rfl, rfl⟩
    go_wp2_with fail
    go_ret
    exact ⟨rfl, Below.refl _ _⟩
end Go.Proofs.Ytbmojogohffhaaa.fnRefined

namespace Go.Proofs.Ytbmojogohffhaaa.fnRefined
open Go.ChangeShapes Go.WideShapes Go.ChangeAt Go.RowKit
open Go.ChangeMaps (open_string shut_string)
set_option linter.unusedVariables false

theorem own : ownKnob Try.prog.godebug = none := by kernel_rfl
theorem laidOut : laidOutB Try.prog = true := by kernel_rfl

set_option maxRecDepth 100000 in
theorem lifted (os : Os) (started : os.Started) (H : Type) (enc : TypeId × Value → H) :
    ReturnsInHanded {} Try.checked os 4 .any (Rows.fnRefinedSpec.pre6 enc Try.prog Try.f4 Rows.fnRefinedRow.domain false) (Rows.fnRefinedSpec.post enc Try.prog Try.f4 false true false false) := by
  refine returnsInHanded_of_change (C := Try.checked) own started (by kernel_rfl) Try.func4
    (ChangeSpec.witness6 (enc := enc) (C := Try.checked) false ⟨#[], #[.slice none 0 0], []⟩ 8 (by kernel_rfl) (by kernel_rfl) (by kernel_rfl) (by kernel_rfl)) ?_
  intro W base args ds gs before hval0 hW hcnd _
  have hval : ∀ (j : Nat) t v, Try.f4.params[j]? = some t → args[j]? = some v → Value.okWide Try.prog W .any base t v := hval0
  have hW' := hW
  obtain ⟨p, q, hA0, hV, rfl, hfz, hnd⟩ := hW
  have hA : DataW.TrodAll enc Try.prog W 0 (fun _ => true) true Try.f4.params.toList args.toList ds p := hA0
  rw [Try.params4] at hA hval
  obtain ⟨v0, vs0, d0, ds0, p0, q0, hargs, rfl, rfl, h0, r0⟩ := trodAll_cons hA
  obtain ⟨rfl, rfl, rfl⟩ := trodAll_nil r0
  obtain rfl : args = #[v0] := by cases args; simp_all
  obtain ⟨rfl, rfl⟩ := trodVars_none hV
  obtain ⟨a0, len0, cap0, rfl⟩ := okWide_slice Try.underlying22 (hval 0 22 v0 rfl rfl)
  have k0 := h0
  have lt0 : ∀ x ∈ p0, x.block < W.heap.size := by obtain ⟨m, hm⟩ := k0; exact DataW.trod_lt m _ _ _ hm
  obtain ⟨z0, w0⟩ : ∃ zs, IsRow .u8 W a0 len0 cap0 zs := by
    obtain ⟨fuel, hf⟩ := h0
    rcases open_ints Try.underlying22 Try.underlying5 (by kernel_rfl) hf with ⟨hcs, _⟩ | ⟨x, l, c, zs, hcs, _, hl, hm, hz, _, hcell, hwz⟩
    · simp [Value.cells] at hcs
      obtain ⟨rfl, rfl, rfl⟩ := hcs
      exact ⟨[], .inl ⟨rfl, rfl, rfl, rfl⟩⟩
    · simp [Value.cells] at hcs
      obtain ⟨rfl, rfl, rfl⟩ := hcs
      exact ⟨zs, .inr ⟨_, rfl, hl, hm, by simpa using hz, hcell, hwz⟩⟩
  clear hA0 hval0
  refine (walk a0 len0 cap0 z0 W w0).mono fun e W' ⟨he, bel⟩ => ?_
  subst he
  exact ⟨_, rfl, _, _, _, [], _, [], hW', trodAll_mk1 (shut_bool Try.underlying4 _), (trodAll_cons_mk (Below.trod laidOut (by kernel_rfl) (of_decide_eq_true (by kernel_rfl)) k0 bel lt0) trodAll_mk0), rfl, bel.frame _, fun h => by cases h⟩

theorem over : Rows.fnRefinedRow.holds Try.pinned (OpenSpec.ofChange Rows.fnRefinedSpec) :=
  OpenClaim.holds_of_wide 4 Try.f4 rfl rfl rfl rfl rfl rfl rfl ⟨rfl, rfl, rfl, rfl, rfl⟩ rfl rfl rfl rfl rfl (by kernel_rfl) Try.func4 (by kernel_rfl)
    (of_decide_eq_true (by kernel_rfl)) (by unfold Func.isWrapper; first | (rw [if_pos (by decide +kernel)]; kernel_rfl) | (rw [if_neg (by decide +kernel)]; exact ⟨rfl, rfl⟩))
    (fun os started H enc _ => lifted os started H enc)

theorem proved : Rows.FnRefinedSaid := over
#print axioms proved
end Go.Proofs.Ytbmojogohffhaaa.fnRefined
