/- The walk of FnSingleAgain: it returns true. -/
import Derived.Test.YtgfeahammmfdaaaDoorRows
import Derived.Test.YtgfeahammmfdaaaDoorSngI
import Derived.Test.YtgfeahammmfdaaaDoorDrawFS
import Derived.Test.YtgfeahammmfdaaaDoorSame2
import Derived.Test.YtgfeahammmfdaaaDoorOld
namespace Go.Proofs.YtgfeahammmfdaaaDoor.fnSingleAgain
open Go.ChangeShapes Go.WideShapes Go.ChangeAt Go.RowKit Go.Proofs.YtgfeahammmfdaaaDoor Go.Proofs.YtgfeahammmfdaaaDoor.Flt Go.Proofs.YtgfeahammmfdaaaDoor.Mth Go.Proofs.YtgfeahammmfdaaaDoor.Sng
set_option linter.unusedVariables false
theorem use_fmt (x : Nat) (wx : (Lit.float .f32 x).wf = true) : ∃ f : ByteArray, (∀ w, Door.Tab w → Calls Tryd.prog 29 #[.float .f32 x] w fun e w' => e = .returned (.string f) ∧ Below w.heap.size w w') ∧ f.data.toList = fmtL x :=
  ⟨fmtS x, fun w h => impl_fmt x w wx h, rfl⟩
theorem fmt_small {f : ByteArray} {x : Nat} (h : f.data.toList = fmtL x) : 2 ≤ f.size ∧ f.size ≤ 20 := by
  have e : f.data.toList.length = f.size := Array.length_toList
  have := fmt_len (x := x)
  rw [← h, e] at this
  exact this
theorem again_same {x y : Nat} {f g : ByteArray} (hx : x < 4294967296) (hy : y < 4294967296) (hf : f.data.toList = fmtL x) (hg : g.data.toList = fmtL y) (h : fmtL y = f.data.toList) : sameW Ieee.single x y = true ∧ g = f :=
  ⟨fmt_inj (lt_w hx) (lt_w hy) (by rw [h, hf]), bytes_ext (by rw [hg, h])⟩
theorem again_sign {x : Nat} {f : ByteArray} (nx : isNaN Ieee.single x = false) (hf : f.data.toList = fmtL x) : ((f.extract 0 1).toList == (fnExactSignText.signOf x).toList) = true := by
  have h2 := (fmt_cut (s := f) (y := x) (by rw [hf]; exact fmt_not_nan nx) hf.symm).2.1
  rw [h2, (sg_signOf nx).2]
  exact beq_self_eq_true _
theorem same_below {x y : Nat} {w : World} {b : Bool} (wx : (Lit.float .f32 x).wf = true) (wy : (Lit.float .f32 y).wf = true) (h : sameW Ieee.single x y = b) :
    Calls Tryd.prog 17 #[.float .f32 x, .float .f32 y] w fun e w' => e = .returned (.bool b) ∧ Below w.heap.size w w' :=
  (same32_any x y w wx wy).mono fun e w' ⟨he, n, hw⟩ => ⟨by rw [he, h], by rw [hw]; exact below_dr (Below.refl _ _) _⟩
theorem sign_below {x : Nat} {w : World} (wx : (Lit.float .f32 x).wf = true) :
    Calls Tryd.prog 34 #[.float .f32 x] w fun e w' => e = .returned (.string (fnExactSignText.signOf x)) ∧ Below w.heap.size w w' :=
  (fnExactSignText.impl_any x w wx).mono fun e w' ⟨he, n, hw⟩ => ⟨he, by rw [hw]; exact below_dr (Below.refl _ _) _⟩
set_option maxRecDepth 20000 in
set_option maxHeartbeats 800000 in
theorem walk (a : Option Addr) (len cap : Nat) (zs : List Int) (w : World) (htab : Door.Tab w) (hr : IsRow .u8 w a len cap zs) :
    Calls Tryd.prog 10 #[.slice a len cap] w fun x w' => x = .returned (.bool true) ∧ Below w.heap.size w w' := by
  have Ht := Lib.hid htab
  clear htab
  by_cases hl : (len : Int) ≤ 1048576
  · go_enter Tryd.func10, Tryd.ntmps10
    go_wp2_with fail
    refine (Drw.big_no a len cap _ hl).mono ?_
    rintro e w' ⟨rfl, hw⟩
    subst w'
    go_wp2_with fail
    refine (Drw.draw_any a len cap zs _ hr).mono ?_
    rintro e w1 ⟨x, wx, rfl, hb1⟩
    have Hb1 := Lib.hid hb1
    have Ht1 := Lib.hid (show Door.Tab w1 from Door.tab_below Ht.out hb1)
    clear hb1 hr
    obtain ⟨f, c1, hf⟩ := use_fmt x wx
    have hfs := fmt_small hf
    have Hf := Lib.hid hf
    clear hf
    go_wp2_with fail
    refine (c1 _ Ht1.out).mono ?_
    rintro e w2 ⟨rfl, hb2⟩
    have Hb2 := Lib.hid (Hb1.out.trans (hb2.mono Hb1.out.size))
    have Ht2 := Lib.hid (show Door.Tab w2 from Door.tab_below Ht1.out hb2)
    clear hb2 c1
    have c2 := fun w h => impl_parse f (by unfold maxLen; omega) w h
    go_wp2_with fail
    refine (c2 _ Ht2.out).mono ?_
    rintro e w3 ⟨y, ok, wy, rfl, hy, hb3⟩
    have Hb3 := Lib.hid (Hb2.out.trans (hb3.mono Hb2.out.size))
    have Ht3 := Lib.hid (show Door.Tab w3 from Door.tab_below Ht2.out hb3)
    clear hb3 c2
    obtain ⟨hok, hfy⟩ : ok = true ∧ fmtL y = f.data.toList := by
      rcases hy with h | ⟨_, _, h⟩
      · exact h
      · exact absurd Hf.out.symm (h x (lt_single wx))
    subst hok
    obtain ⟨g, c3, hg⟩ := use_fmt y wy
    obtain ⟨hsame, rfl⟩ := again_same (lt_single wx) (lt_single wy) Hf.out hg hfy
    have Hs := Lib.hid hsame
    have c4 := fun w => same_below (w := w) wx wy hsame
    have HT := Lib.hid (fun n : Old w3 => (show Door.Tab n.x from Door.tab_below Ht3.out n.h))
    clear hy hfy hg hsame
    have hne := ne32 x x
    rw [eqW_self, Bool.not_not] at hne
    have e1 : (g.toList == g.toList) = true := beq_self_eq_true _
    have hz : (1 : Int) ≤ g.size := by omega
    cases nx : isNaN Ieee.single x
    · rw [nx] at hne
      have e2 := again_sign nx Hf.out
      have c5 := fun w => sign_below (w := w) wx
      generalize fnExactSignText.signOf x = t at *
      clear nx
      go_wp2_with fail
      refine wp_region_old (by kernel_rfl) (by kernel_rfl) ?_
      repeat (go_big_quiet_step (first
        | (go_at_call 17; exact old_call (c4 _))
        | (go_at_call 29; exact old_call (c3 _ (HT.out _)))
        | (go_at_call 34; exact old_call (c5 _))))
      refine wpQuiet_nil ?_
      rintro _ ⟨n, rfl⟩
      go_wp2_with fail
      go_ret
      exact ⟨rfl, Hb3.out.trans (n.h.mono Hb3.out.size)⟩
    · rw [nx] at hne
      clear nx
      go_wp2_with fail
      refine wp_region_old (by kernel_rfl) (by kernel_rfl) ?_
      repeat (go_big_quiet_step (first
        | (go_at_call 17; exact old_call (c4 _))
        | (go_at_call 29; exact old_call (c3 _ (HT.out _)))))
      refine wpQuiet_nil ?_
      rintro _ ⟨n, rfl⟩
      go_wp2_with fail
      go_ret
      exact ⟨rfl, Hb3.out.trans (n.h.mono Hb3.out.size)⟩
  · go_enter Tryd.func10, Tryd.ntmps10
    go_wp2_with fail
    refine (Drw.big_yes a len cap _ (by omega)).mono ?_
    rintro e w' ⟨rfl, hw⟩
    subst w'
    go_wp2_with fail
    go_ret
    exact ⟨rfl, Below.refl _ _⟩
end Go.Proofs.YtgfeahammmfdaaaDoor.fnSingleAgain
