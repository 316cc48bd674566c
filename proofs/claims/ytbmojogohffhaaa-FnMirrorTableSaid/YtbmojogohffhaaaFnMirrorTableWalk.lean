/- The walk of FnMirrorTable: it returns true. -/
import Derived.Test.YtbmojogohffhaaaRows
import Derived.Test.YtbmojogohffhaaaMirF
namespace Go.Proofs.Ytbmojogohffhaaa.fnMirrorTable
open Go.ChangeShapes Go.WideShapes Go.ChangeAt Go.RowKit Go.Proofs.Ytbmojogohffhaaa Go.Proofs.Ytbmojogohffhaaa.Flt Go.Proofs.Ytbmojogohffhaaa.Mth Go.Proofs.Ytbmojogohffhaaa.Pnt
open Ieee (single double)
set_option linter.unusedVariables false
set_option maxRecDepth 100000 in
set_option maxHeartbeats 1600000 in
theorem walk (a : Option Addr) (len cap : Nat) (zs : List Int) (w : World) (hr : IsRow .u8 w a len cap zs) :
    Calls Try.prog 5 #[.slice a len cap] w fun x w' => x = .returned (.bool true) ∧ Below w.heap.size w w' := by
  by_cases hl : (len : Int) ≤ 1048576
  · go_enter Try.func5, Try.ntmps5
    go_wp2_with fail
    refine (Drw.big_no _ _ _ _ hl).mono ?_
    rintro e w ⟨rfl, rfl⟩
    go_wp2_with fail
    refine (draw_table a len cap zs _ hr).mono ?_
    rintro e w1 ⟨g, n, cp, X, x, rfl, n1, n2, hok, hwf, hg, hglt, hcells, wx, hb, hat⟩
    have HX := Lib.hid (And.intro hok (And.intro hwf hat))
    have HM := Lib.hid (And.intro (mir_ok hok hwf) (And.intro (mirX_wf hwf) (And.intro (show mirN n X = n by unfold mirN; rw [if_pos hok]) (show mirN n (mirX n X) = n by unfold mirN; rw [if_pos (mir_ok hok hwf)]))))
    have H1 := Lib.hid (And.intro hcells (And.intro hb (show Lst w1 (some ⟨g, 0, none⟩) n X from ⟨hwf, .inr ⟨g, 0, rfl, hglt, hcells⟩⟩)))
    have hln : n ≤ 1048576 := by omega
    have hsz1 := hb.size
    clear hok hwf hcells hb hat hr
    go_wp2_with fail
    refine (implMir _ _ _ X _ hln H1.out.2.2).mono ?_
    rintro e w2 ⟨v1, rfl, hv1, hb2⟩
    rw [HX.out.1]
    rw [HM.out.2.2.1] at hv1
    obtain ⟨am, cm, rfl, h0 | ⟨gm, rfl, hgm, hgmlt, hcm⟩⟩ := OwnQ.form hv1
    · omega
    have H2 := Lib.hid (And.intro (H1.out.1.keep hglt hb2) (And.intro (H1.out.2.1.trans (hb2.mono hsz1)) (And.intro (H1.out.2.2.keep hb2) (And.intro hcm (show Lst w2 (some ⟨gm, 0, none⟩) n (mirX n X) from ⟨HM.out.2.1, .inr ⟨gm, 0, rfl, hgmlt, hcm⟩⟩)))))
    have hglt2 := Nat.lt_of_lt_of_le hglt hb2.size
    have hsz2 : w.heap.size ≤ w2.heap.size := H2.out.2.1.size
    clear hb2 hv1 hcm
    go_wp2_with fail
    refine (implMir _ _ _ (mirX n X) _ hln H2.out.2.2.2.2).mono ?_
    rintro e w3 ⟨v2, rfl, hv2, hb3⟩
    rw [HM.out.1]
    rw [HM.out.2.2.2] at hv2
    have hv3 := OwnQ.congr hv2 (mir_mir HX.out.2.1)
    obtain ⟨ab, cb, rfl, h0 | ⟨gb, rfl, hgb, hgblt, hcb⟩⟩ := OwnQ.form hv3
    · omega
    have H3 := Lib.hid (And.intro (H2.out.1.keep hglt2 hb3) (And.intro (H2.out.2.1.trans (hb3.mono hsz2)) (And.intro (H2.out.2.2.1.keep hb3) (And.intro (H2.out.2.2.2.2.keep hb3) hcb))))
    have hglt3 := Nat.lt_of_lt_of_le hglt2 hb3.size
    have hsz3 : w.heap.size ≤ w3.heap.size := H3.out.2.1.size
    clear hb3 hv2 hv3 hcb
    go_wp2_with fail
    refine (samePts gb 0 g 0 n _ _ X _ hln hgblt hglt3 H3.out.2.2.2.2 H3.out.1 HX.out.2.1).mono ?_
    rintro e w4 ⟨rfl, hb4⟩
    have H4 := Lib.hid (And.intro (H3.out.1.keep hglt3 hb4) (And.intro (H3.out.2.1.trans (hb4.mono hsz3)) (And.intro (H3.out.2.2.1.keep hb4) (H3.out.2.2.2.1.keep hb4))))
    have hglt4 := Nat.lt_of_lt_of_le hglt3 hb4.size
    have hsz4 : w.heap.size ≤ w4.heap.size := H4.out.2.1.size
    clear hb4
    go_wp2_with fail
    refine (implTab _ _ _ (mirX n X) _ hln H4.out.2.2.2).mono ?_
    rintro e w5 ⟨rfl, hb5⟩
    rw [HM.out.1]
    have H5 := Lib.hid (And.intro (H4.out.1.keep hglt4 hb5) (And.intro (H4.out.2.1.trans (hb5.mono hsz4)) (And.intro (H4.out.2.2.1.keep hb5) (H4.out.2.2.2.keep hb5))))
    have hglt5 := Nat.lt_of_lt_of_le hglt4 hb5.size
    have hsz5 : w.heap.size ≤ w5.heap.size := H5.out.2.1.size
    clear hb5
    go_wp2_with fail
    refine (implLrg _ _ _ (mirX n X) _ hln H5.out.2.2.2).mono ?_
    rintro e w6 ⟨rfl, hb6⟩
    have hlv := mir_lrg HX.out.1 HX.out.2.1
    rw [hlv]
    have H6 := Lib.hid (And.intro (H5.out.1.keep hglt5 hb6) (And.intro (H5.out.2.1.trans (hb6.mono hsz5)) (And.intro (H5.out.2.2.1.keep hb6) (H5.out.2.2.2.keep hb6))))
    have hglt6 := Nat.lt_of_lt_of_le hglt5 hb6.size
    have hsz6 : w.heap.size ≤ w6.heap.size := H6.out.2.1.size
    clear hb6 hlv
    go_wp2_with fail
    refine (implLrg _ _ _ X _ hln H6.out.2.2.1).mono ?_
    rintro e w7 ⟨rfl, hb7⟩
    have H7 := Lib.hid (And.intro (H6.out.1.keep hglt6 hb7) (And.intro (H6.out.2.1.trans (hb7.mono hsz6)) (And.intro (H6.out.2.2.1.keep hb7) (H6.out.2.2.2.keep hb7))))
    have hglt7 := Nat.lt_of_lt_of_le hglt6 hb7.size
    have hsz7 : w.heap.size ≤ w7.heap.size := H7.out.2.1.size
    clear hb7
    obtain ⟨lv, hlv⟩ : ∃ lv, lrgV n X = lv := ⟨_, rfl⟩
    have hne : (FloatKind.f32.format.order lv lv != some .eq) = false := by rw [bne, eq32, eqW_self, ← hlv, lrgV_num]; rfl
    rw [hlv]
    clear hlv
    go_wp2_with fail
    have Hlt7 := Lib.hid hglt7
    go_loopw [9] (fun iv wr => ∃ (k : Nat), iv = .int .i64 (k : Int) ∧ k ≤ n ∧ Below w7.heap.size w7 wr)
      (fun iv _ => n - (intOf iv).toNat)
    case atStart => exact ⟨0, rfl, Nat.zero_le _, Below.refl _ _⟩
    case round =>
      obtain ⟨k, rfl, hk, hbel⟩ := hrel
      have Hbel := Lib.hid hbel
      have hszr := hbel.size
      have HL := Lib.hid (H7.out.2.2.2.keep hbel)
      have Hcc := Lib.hid (H7.out.1.keep Hlt7.out hbel)
      by_cases hkn : k < n
      · have hkn' : (k : Int) < (n : Int) := by omega
        obtain ⟨m1, m2⟩ := mir_node HX.out.1 HX.out.2.1 hkn
        obtain ⟨a0, a1⟩ := Hcc.out k hkn
        rw [Nat.zero_add] at a0 a1
        have Hin := Lib.hid (And.intro m1 m2)
        have nY : isNaN single (Op.negFloat .f32 (X (k * 2 + 1))) = false := fin_num (neg_fin (HX.out.2.1 k hkn).2 (okPt_fin (okP_at HX.out.1 hkn)).2)
        have hne2 : (FloatKind.f32.format.order (Op.negFloat .f32 (X (k * 2 + 1))) (Op.negFloat .f32 (X (k * 2 + 1))) != some .eq) = false := by rw [bne, eq32, eqW_self, nY]; rfl
        clear hbel m1 m2 nY
        go_wp2_with fail
        refine (implItp _ _ _ (mirX n X) _ _ hln HL.out).mono ?_
        rintro e w8 ⟨rfl, hb8⟩
        rw [Hin.out.1, Hin.out.2]
        obtain ⟨b0, b1⟩ := (Hcc.out.keep (Nat.lt_of_lt_of_le Hlt7.out hszr) hb8) k hkn
        rw [Nat.zero_add] at b0 b1
        have H8 := Lib.hid (Hbel.out.trans (hb8.mono hszr))
        clear hb8 a0 a1
        go_wp2_with fail
        go_roundw
        case rel => exact ⟨k + 1, by go_num, hkn, H8.out⟩
        case measure => simp [intOf]; omega
      · obtain rfl : k = n := by omega
        have hkn' : ¬ (k : Int) < (k : Int) := by omega
        clear hbel
        go_wp2_with fail
        go_ret
        exact ⟨rfl, H7.out.2.1.trans (Hbel.out.mono hsz7)⟩
  · go_enter Try.func5, Try.ntmps5
    go_wp2_with fail
    refine (Drw.big_yes _ _ _ _ (by omega)).mono ?_
    rintro e w ⟨rfl, rfl⟩
    go_wp2_with fail
    go_ret
    exact ⟨rfl, Below.refl _ _⟩
end Go.Proofs.Ytbmojogohffhaaa.fnMirrorTable
