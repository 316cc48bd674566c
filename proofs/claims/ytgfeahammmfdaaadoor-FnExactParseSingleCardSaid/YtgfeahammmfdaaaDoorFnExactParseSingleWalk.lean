/- The walk of FnExactParseSingle: it returns true. -/
import Derived.Test.YtgfeahammmfdaaaDoorRows
import Derived.Test.YtgfeahammmfdaaaDoorSngP
import Derived.Test.YtgfeahammmfdaaaDoorPick
namespace Go.Proofs.YtgfeahammmfdaaaDoor.fnExactParseSingle
open Go.ChangeShapes Go.WideShapes Go.ChangeAt Go.RowKit Go.Proofs.YtgfeahammmfdaaaDoor Go.Proofs.YtgfeahammmfdaaaDoor.Flt Go.Proofs.YtgfeahammmfdaaaDoor.Mth Go.Proofs.YtgfeahammmfdaaaDoor.Sng
set_option linter.unusedVariables false
/-- both have read alike -/
theorem alike {s : ByteArray} {x y : Nat} {a b : Bool} (wx : x < 4294967296) (wy : y < 4294967296)
    (h1 : (a = true ∧ fmtL x = s.data.toList) ∨ (a = false ∧ x = 0 ∧ ∀ y, y < 4294967296 → fmtL y ≠ s.data.toList))
    (h2 : (b = true ∧ fmtL y = s.data.toList) ∨ (b = false ∧ y = 0 ∧ ∀ y, y < 4294967296 → fmtL y ≠ s.data.toList)) : a = b ∧ sameW Ieee.single y x = true := by
  rcases h1 with ⟨rfl, h1⟩ | ⟨rfl, rfl, h1⟩ <;> rcases h2 with ⟨rfl, h2⟩ | ⟨rfl, rfl, h2⟩
  · exact ⟨rfl, fmt_inj (lt_w wy) (lt_w wx) (by rw [h1, h2])⟩
  · exact absurd h1 (h2 x wx)
  · exact absurd h2 (h1 y wy)
  · exact ⟨rfl, sameW_refl _ _⟩
set_option maxRecDepth 20000 in
set_option maxHeartbeats 800000 in
theorem walk (s : ByteArray) (w : World) (htab : Door.Tab w) (ws : s.size ≤ maxLen) :
    Calls Tryd.prog 9 #[.string s] w fun x w' => x = .returned (.bool true) ∧ Below w.heap.size w w' := by
  have Ht := Lib.hid htab
  clear htab
  have us : (Tryd.prog.underlying 30).isSome = true := by rw [Tryd.underlying30]; rfl
  have Us := Lib.hid us
  clear us
  by_cases hl : s.size ≤ 1048576
  · have c1 := fun w => spec_parse s w
    have c2 := fun w h => impl_parse s ws w h
    go_enter Tryd.func9, Tryd.ntmps9
    go_wp2_with fail
    refine (c1 _).mono ?_
    rintro e w1 ⟨x, ok, wx, rfl, h1, hb1⟩
    have Hb1 := Lib.hid hb1
    have Ht1 := Lib.hid (show Door.Tab w1 from Door.tab_below Ht.out hb1)
    have H1 := Lib.hid h1
    clear hb1 h1 c1
    go_wp2_with fail
    refine (c2 _ Ht1.out).mono ?_
    rintro e w2 ⟨y, ok2, wy, rfl, h2, hb2⟩
    have Hb := Lib.hid (Hb1.out.trans (hb2.mono Hb1.out.size))
    obtain ⟨he, hs⟩ := alike (lt_single wx) (lt_single wy) H1.out h2
    subst he
    clear hb2 h2 c2 H1
    obtain ⟨r, n, hr, kr⟩ := run_widen_any (P := Tryd.prog) 30 46 y Us.out Tryd.underlying46 w2
    obtain ⟨q, k, hq, kq⟩ := run_widen_any (P := Tryd.prog) 30 46 x Us.out Tryd.underlying46 (w2.drewN n)
    have hsame : sameW Ieee.double r q = true := by rw [sameW_wid wy wx hr hq, hs]
    have hr1 := hr.1
    have hq1 := hq.1
    clear hr hq hs
    go_wp2_with fail
    refine (sameFloat_any _ _ _ hr1 hq1).mono ?_
    rintro x w' ⟨rfl, rfl⟩
    go_wp2_with fail
    go_ret
    exact ⟨rfl, below_dr Hb.out _⟩
  · go_enter Tryd.func9, Tryd.ntmps9
    go_wp2_with fail
    go_ret
    exact ⟨rfl, Below.refl _ _⟩
end Go.Proofs.YtgfeahammmfdaaaDoor.fnExactParseSingle
