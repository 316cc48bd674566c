/- The walk of FnExactQuantumOf: it returns true. -/
import Derived.Test.YtkjjeccgmeiniaaRows
import Derived.Test.YtkjjeccgmeiniaaQtmA
import Derived.Test.YtkjjeccgmeiniaaQtmB
import Derived.Test.YtkjjeccgmeiniaaQtmQ
namespace Go.Proofs.Ytkjjeccgmeiniaa.Flt
end Go.Proofs.Ytkjjeccgmeiniaa.Flt
namespace Go.Proofs.Ytkjjeccgmeiniaa.Mth
end Go.Proofs.Ytkjjeccgmeiniaa.Mth
namespace Go.Proofs.Ytkjjeccgmeiniaa.Qtm
end Go.Proofs.Ytkjjeccgmeiniaa.Qtm
namespace Go.Proofs.Ytkjjeccgmeiniaa.fnExactQuantumOf
open Go.ChangeShapes Go.WideShapes Go.ChangeAt Go.RowKit Go.Proofs.Ytkjjeccgmeiniaa Go.Proofs.Ytkjjeccgmeiniaa.Flt Go.Proofs.Ytkjjeccgmeiniaa.Mth Go.Proofs.Ytkjjeccgmeiniaa.Qtm
open Ieee (single double)
set_option linter.unusedVariables false
set_option maxRecDepth 20000
set_option maxHeartbeats 800000 in
theorem walk (x : Nat) (s : ByteArray) (m e : Int) (w : World) (wx : (Lit.float .f32 x).wf = true) (ws : s.size ≤ maxLen) (wm : (Lit.int .i64 m).wf = true) (we : (Lit.int .i64 e).wf = true) :
    Calls Try.prog 7 #[.float .f32 x, uv s m e] w fun y w' => y = .returned (.bool true) ∧ Below w.heap.size w w' := by
  by_cases hl : s.size ≤ 1048576
  · have hz := fun W => sz_fits s m e W hl
    have ht := fun W => to_any s m e W
    have hs := fun W => spec_quant s m e x W
    have hi := fun W => impl_quant s m e x W
    unfold QOut at hs hi
    obtain ⟨⟨v, ok⟩, ho⟩ : ∃ o, qOut (uOut s m e) x = o := ⟨_, rfl⟩
    simp only [ho] at hs hi
    have h1 : ¬ (1048576 : Int) - (s.size : Int) < 0 := by omega
    unfold uv at *
    clear ho hl wm we
    go_enter Try.func7, Try.ntmps7
    go_wp2_with fail
    refine (hz _).mono ?_
    rintro y w1 ⟨rfl, hb1⟩
    have Hb1 := Lib.hid ((UB.new s m e w 40).next hb1)
    obtain ⟨c0, c1, c2⟩ := Hb1.out.2
    clear hb1
    go_wp2_with fail
    refine (ht _).mono ?_
    rintro y w2 ⟨rfl, hb2⟩
    have Hb2 := Lib.hid (Hb1.out.next hb2)
    clear c0 c1 c2
    obtain ⟨c0, c1, c2⟩ := Hb2.out.2
    clear hb2
    go_wp2_with fail
    refine (hs _).mono ?_
    rintro y w3 ⟨rfl, hb3⟩
    have Hb3 := Lib.hid (Hb2.out.next hb3)
    clear c0 c1 c2
    obtain ⟨c0, c1, c2⟩ := Hb3.out.2
    clear hb3
    go_wp2_with fail
    refine (ht _).mono ?_
    rintro y w4 ⟨rfl, hb4⟩
    have Hb4 := Lib.hid (Hb3.out.next hb4)
    clear c0 c1 c2
    obtain ⟨c0, c1, c2⟩ := Hb4.out.2
    clear hb4
    go_wp2_with fail
    refine (hi _).mono ?_
    rintro y w5 ⟨rfl, hb5⟩
    have Hb5 := Lib.hid (Hb4.out.next hb5)
    clear c0 c1 c2
    obtain ⟨c0, c1, c2⟩ := Hb5.out.2
    clear hb5
    go_wp2_with fail
    go_ret
    exact ⟨rfl, Hb5.out.1⟩
  · have hz := fun W => sz_big s m e W ws hl
    unfold uv at *
    clear hl wm we
    go_enter Try.func7, Try.ntmps7
    go_wp2_with fail
    refine (hz _).mono ?_
    rintro y w1 ⟨rfl, hb1⟩
    have Hb1 := Lib.hid (show Below w.heap.size w w1 from ((Below.refl _ _).alloc (Nat.le_refl _) _).trans (hb1.mono (by go_grown)))
    clear hb1
    go_wp2_with fail
    go_ret
    exact ⟨rfl, Hb1.out⟩
end Go.Proofs.Ytkjjeccgmeiniaa.fnExactQuantumOf
