/- The walk of FnHexText: it returns true. -/
import Derived.Test.YtgfeahammmfdaaaDoorRows
import Derived.Test.YtgfeahammmfdaaaDoorDrawH
import Derived.Test.YtgfeahammmfdaaaDoorHexP
import Derived.Test.YtgfeahammmfdaaaDoorDoor
namespace Go.Proofs.YtgfeahammmfdaaaDoor.fnHexText
open Go.ChangeShapes Go.WideShapes Go.ChangeAt Go.RowKit Go.Proofs.YtgfeahammmfdaaaDoor Go.Proofs.YtgfeahammmfdaaaDoor.Drw
set_option linter.unusedVariables false
/-- a text that is not too great has been drawn -/
def HexDrawn (w : World) (e : Ending) (w' : World) : Prop := ∃ s : ByteArray, s.size ≤ 20001 ∧ e = .returned (.string s) ∧ Below w.heap.size w w'
set_option maxHeartbeats 800000 in
theorem drawHex_any (a : Option Addr) (len cap : Nat) (zs : List Int) (w : World) (hr : IsRow .u8 w a len cap zs) :
    Calls Tryd.prog 18 #[.slice a len cap] w (HexDrawn w) := by
  go_enter Tryd.func18, Tryd.ntmps18
  go_wp2_with fail
  refine (new_any a len cap zs _ hr).mono ?_
  rintro e w1 ⟨rfl, hc, hb⟩
  have Hb := Lib.hid hb
  clear hb hr
  go_wp2_with fail
  refine (once_any' _ _ _ _ hc (by omega)).mono ?_
  rintro e w2 ⟨b, rfl, hc2, ho2⟩
  have Hc2 := Lib.hid hc2
  have Ho2 := Lib.hid ho2
  clear hc hc2 ho2
  cases b with
  | true =>
    go_wp2_with fail
    refine (below_any _ _ _ _ Hc2.out (by omega)).mono ?_
    rintro e w3 ⟨y, y0, y1, rfl, hc3, ho3⟩
    have Ho3 := Lib.hid (Hb.out.trans ((Ho2.out.trans ho3).below (Nat.le_refl _) Hb.out.size))
    have y2 := y1 (by omega)
    obtain ⟨n, hn⟩ : ∃ n : Nat, (n : Int) = 20000 + y := ⟨(20000 + y).toNat, by omega⟩
    have hn2 : n ≤ 20001 := by omega
    have c1 := fun w => long_any n 200 w (by omega)
    rw [hn] at c1
    have Hn := Lib.hid hn
    clear hc3 ho3 y1 hn
    go_wp2_with fail
    refine (c1 _).mono ?_
    rintro e w4 ⟨s, hs, rfl, hb4⟩
    have Hs := Lib.hid hs
    have H4 := Lib.hid (Ho3.out.trans (hb4.mono Ho3.out.size))
    clear hb4 hs
    go_wp2_with fail
    go_ret
    exact ⟨s, by rw [Hs.out]; exact hn2, rfl, H4.out⟩
  | false =>
    go_wp2_with fail
    refine (below_any _ _ _ _ Hc2.out (by omega)).mono ?_
    rintro e w3 ⟨y, y0, y1, rfl, hc3, ho3⟩
    have Hc3 := Lib.hid hc3
    have Ho3 := Lib.hid (Ho2.out.trans ho3)
    have y2 := y1 (by omega)
    obtain ⟨n, rfl⟩ := Int.eq_ofNat_of_zero_le y0
    clear hc3 ho3 y1
    go_wp2_with fail
    refine (text_any _ _ n _ Hc3.out (by omega)).mono ?_
    rintro e w4 ⟨s, hs, rfl, hc4, ho4⟩
    have Hs := Lib.hid hs
    have H4 := Lib.hid (Hb.out.trans ((Ho3.out.trans ho4).below (Nat.le_refl _) Hb.out.size))
    clear hc4 ho4 hs
    go_wp2_with fail
    go_ret
    exact ⟨s, by rw [Hs.out]; omega, rfl, H4.out⟩
theorem ten_text : (⟨(Lib.itoa 10).toArray⟩ : ByteArray) = ⟨#[49, 48]⟩ := by
  rw [show (10 : Int) = ((10 : Nat) : Int) from rfl, Lib.itoa_nonneg, Lib.decDigits, dif_neg (by omega), Lib.decDigits_one (by omega)]
  rfl
set_option maxHeartbeats 1600000 in
theorem walk (a : Option Addr) (len cap : Nat) (zs : List Int) (w : World) (htab : Door.Tab w) (hr : IsRow .u8 w a len cap zs) :
    Calls Tryd.prog 5 #[.slice a len cap] w fun x w' => x = .returned (.bool true) ∧ Below w.heap.size w w' := by
  have Ht := Lib.hid htab
  clear htab
  by_cases hl : (len : Int) ≤ 1048576
  · go_enter Tryd.func5, Tryd.ntmps5
    go_wp2_with fail
    refine (Drw.big_no a len cap _ hl).mono ?_
    rintro e w' ⟨rfl, hw⟩
    subst w'
    go_wp2_with fail
    refine (drawHex_any a len cap zs _ hr).mono ?_
    rintro e w1 ⟨s, hs, rfl, hb1⟩
    have Hb1 := Lib.hid hb1
    have Ht1 := Lib.hid (show Door.Tab w1 from Door.tab_below Ht.out hb1)
    clear hb1 hr
    by_cases h0 : s.size ≤ 20000
    · have c1 := fun w => Hex.implEnc s w h0
      have c2 := fun w => Hex.implDec (Hex.encS s) w (by rw [Hex.encS_size]; omega)
      rw [Hex.dec_enc s h0] at c2
      have hz : ((Hex.encS s).size : Int) = 2 * (s.size : Int) := by rw [Hex.encS_size]; omega
      generalize Hex.encS s = h at *
      have e1 : ¬ (20000 : Int) < s.size := by omega
      have e2 : (s.toList == s.toList) = true := beq_self_eq_true _
      have Hz := Lib.hid hz
      clear hz
      go_wp2_with fail
      refine (c1 _).mono ?_
      rintro e w2 ⟨rfl, hb2⟩
      have Hb2 := Lib.hid (Hb1.out.trans (hb2.mono Hb1.out.size))
      clear hb2
      go_wp2_with fail
      refine (c2 _).mono ?_
      rintro e w3 ⟨rfl, hb3⟩
      have Hb3 := Lib.hid (Hb2.out.trans (hb3.mono Hb2.out.size))
      clear hb3 c1 c2
      have hz := Hz.out
      have e3 : ((h.size : Int) == 2 * (s.size : Int)) = true := by rw [beq_iff_eq]; exact hz
      clear hz
      go_wp2_with fail
      go_ret
      exact ⟨rfl, Hb3.out⟩
    · have c1 := fun w => Hex.implLong s w h0 (by omega)
      have e1 : (20000 : Int) < s.size := by omega
      go_wp2_with fail
      refine (c1 _).mono ?_
      rintro e w2 ⟨rfl, hw2⟩
      subst w2
      go_wp2_with fail
      refine (Door.impl_any 10 (by omega) (by omega) _ Ht1.out).mono ?_
      rintro e w3 ⟨rfl, hb3⟩
      have Hb3 := Lib.hid (Hb1.out.trans (hb3.mono Hb1.out.size))
      clear hb3
      rw [ten_text]
      go_wp2_with fail
      go_ret
      exact ⟨rfl, Hb3.out⟩
  · go_enter Tryd.func5, Tryd.ntmps5
    go_wp2_with fail
    refine (Drw.big_yes a len cap _ (by omega)).mono ?_
    rintro e w' ⟨rfl, hw⟩
    subst w'
    go_wp2_with fail
    go_ret
    exact ⟨rfl, Below.refl _ _⟩
end Go.Proofs.YtgfeahammmfdaaaDoor.fnHexText
