/- The walk of FnExactSplitFields: it returns true. -/
import Derived.Test.YtgfeahammmfdaaaDoorRows
import Derived.Test.YtgfeahammmfdaaaDoorStrM
import Derived.Test.YtgfeahammmfdaaaDoorPick
import Derived.Test.YtgfeahammmfdaaaDoorFldT
namespace Go.Proofs.YtgfeahammmfdaaaDoor.fnExactSplitFields
open Go.ChangeShapes Go.WideShapes Go.ChangeAt Go.RowKit Go.Proofs.YtgfeahammmfdaaaDoor Go.Proofs.YtgfeahammmfdaaaDoor.Fld
set_option linter.unusedVariables false
set_option maxRecDepth 20000 in
set_option maxHeartbeats 1600000 in
theorem walk (s : ByteArray) (w : World) (hasc : Asc w) (ws : s.size ≤ maxLen) :
    Calls Tryd.prog 6 #[.string s] w fun x w' => x = .returned (.bool true) ∧ Below w.heap.size w w' := by
  have Ha := Lib.hid hasc
  clear hasc
  by_cases hl : s.size ≤ 1048576
  · have c1 := fun w => spec_any s hl w
    have c2 := fun w h => impl_any s hl w h
    have hn := res_small s
    unfold Spl at c1 c2
    generalize resF s = R at *
    generalize okF s = ok at *
    have hn1 : R.length ≤ 1000 := by omega
    have hn2 : R.length ≤ 1000000 := by omega
    obtain ⟨n, hnn⟩ : ∃ n, n = R.length := ⟨_, rfl⟩
    have Hn := Lib.hid hnn
    clear hnn hn
    go_enter Tryd.func6, Tryd.ntmps6
    go_wp2_with fail
    refine (c1 _).mono ?_
    rintro e w1 ⟨v0, rfl, ho1, hb1⟩
    have H1 := Lib.hid (And.intro ho1 hb1)
    have A1 := Lib.hid (show Asc w1 from asc_below Ha.out hb1)
    clear ho1 hb1 c1
    go_wp2_with fail
    refine (c2 _ A1.out).mono ?_
    rintro e w2 ⟨g0, rfl, ho2, hb2⟩
    have H2 := Lib.hid (And.intro ho2 (And.intro hb2 (own_keep H1.out.1 hb2)))
    clear ho2 hb2
    go_wp2_with fail
    refine (eqS_any _ H2.out.1 H2.out.2.2 hn2).mono ?_
    rintro e w3 ⟨rfl, hb3⟩
    have H3 := Lib.hid (And.intro (own_keep H2.out.1 hb3) (H2.out.2.1.trans (hb3.mono H2.out.2.1.size)))
    clear hb3
    go_wp2_with fail
    refine (markS_any _ H3.out.2.size H3.out.1 hn1).mono ?_
    rintro e w4 ⟨rfl, ho4, hb4⟩
    have H4 := Lib.hid (And.intro ho4 (H3.out.2.trans hb4))
    clear ho4 hb4
    rw [← Hn.out] at H4 ⊢
    obtain ⟨m, hm⟩ : ∃ m : Int, m = ((n + 1 : Nat) : Int) := ⟨_, rfl⟩
    rw [← hm]
    have m1 : ¬ m < 0 := by omega
    have m2 : (m == m) = true := beq_self_eq_true _
    have m3 : (m != m) = false := by rw [bne, m2]; rfl
    have Hm := Lib.hid hm
    clear hm
    have c5 := fun w h => heldS_any (base := w1.heap.size) (n := n) (v := g0) w h (by rw [Hn.out]; exact hn1)
    rw [← Hm.out] at c5
    go_wp2_with fail
    refine (c5 _ H4.out.1).mono ?_
    rintro e w5 ⟨rfl, hb5⟩
    have H5 := Lib.hid (And.intro (own_keep H4.out.1 hb5) (H4.out.2.trans (hb5.mono H4.out.2.size)))
    have A5 := Lib.hid (show Asc w5 from asc_below A1.out H5.out.2)
    clear hb5
    go_wp2_with fail
    refine (c2 _ A5.out).mono ?_
    rintro e w6 ⟨h0, rfl, ho6, hb6⟩
    have H6 := Lib.hid (And.intro ho6 (And.intro (own_keep H5.out.1 hb6) (H5.out.2.trans (hb6.mono H5.out.2.size))))
    have V6 := Lib.hid (own_keep H1.out.1 H6.out.2.2)
    clear ho6 hb6 c2
    go_wp2_with fail
    refine (eqS_any _ H6.out.1 V6.out hn2).mono ?_
    rintro e w7 ⟨rfl, hb7⟩
    have H7 := Lib.hid (And.intro (own_keep H6.out.2.1 hb7) (H6.out.2.2.trans (hb7.mono H6.out.2.2.size)))
    clear hb7
    go_wp2_with fail
    refine (c5 _ H7.out.1).mono ?_
    rintro e w8 ⟨rfl, hb8⟩
    have H8 := Lib.hid (H7.out.2.trans (hb8.mono H7.out.2.size))
    clear hb8
    go_wp2_with fail
    go_ret
    exact ⟨rfl, H1.out.2.trans (H8.out.mono H1.out.2.size)⟩
  · go_enter Tryd.func6, Tryd.ntmps6
    go_wp2_with fail
    go_ret
    exact ⟨rfl, Below.refl _ _⟩
end Go.Proofs.YtgfeahammmfdaaaDoor.fnExactSplitFields
