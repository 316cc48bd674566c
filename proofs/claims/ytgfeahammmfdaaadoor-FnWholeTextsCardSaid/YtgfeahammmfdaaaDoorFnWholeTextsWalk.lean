/- The walk of FnWholeTexts: it returns true. -/
import Derived.Test.YtgfeahammmfdaaaDoorRows
import Derived.Test.YtgfeahammmfdaaaDoorDrawM
import Derived.Test.YtgfeahammmfdaaaDoorDecT
import Derived.Test.YtgfeahammmfdaaaDoorDoor
import Derived.Test.YtgfeahammmfdaaaDoorSame2
namespace Go.Proofs.YtgfeahammmfdaaaDoor.fnWholeTexts
open Go.ChangeShapes Go.WideShapes Go.ChangeAt Go.RowKit Go.Proofs.YtgfeahammmfdaaaDoor Go.Proofs.YtgfeahammmfdaaaDoor.Flt Go.Proofs.YtgfeahammmfdaaaDoor.Mth
set_option linter.unusedVariables false
theorem seven_none : Dec.decOut ⟨#[55]⟩ = (0, false) := Dec.decOut_none (fun ⟨d, k, h⟩ => by have := (Dec.form_small h).2.2.1; exact absurd this (by decide))
theorem data_mk (l : List UInt8) : (⟨l.toArray⟩ : ByteArray).data.toList = l := rfl
theorem data_add (a b : ByteArray) : (a ++ b).data.toList = a.data.toList ++ b.data.toList := by rw [ByteArray.data_append, Array.toList_append]
theorem out_minus {s : ByteArray} {l : List UInt8} (hs : s.data.toList = 45 :: l) (x : Nat) : Sgd.out (s.extract 0 1) x = (Op.negFloat .f32 x, true) := by
  unfold Sgd.out; rw [Dec.sign_of hs]; rfl
theorem out_plus {s : ByteArray} {l : List UInt8} (hs : s.data.toList = 43 :: l) (x : Nat) : Sgd.out (s.extract 0 1) x = (x, true) := by
  unfold Sgd.out; rw [Dec.sign_of hs]; rfl
theorem minus_out {m : Nat} (hm : m < 16777216) {l : ByteArray} (hl : l.data.toList = Lib.decDigits m) : Dec.decOut (⟨#[45]⟩ ++ l) = (Op.negFloat .f32 (floatOfInt .f32 (m : Int)), true) := by
  have hs : ((⟨#[45]⟩ : ByteArray) ++ l).data.toList = 45 :: Lib.decDigits m := by rw [data_add, hl]; rfl
  rw [Dec.decOut_of (Dec.form_whole (by omega) hs), out_minus hs, Nat.pow_zero, (dq_whole hm).1]
theorem plus_out {m : Nat} (hm : m < 16777216) {l : ByteArray} (hl : l.data.toList = Lib.decDigits m) : Dec.decOut (⟨#[43]⟩ ++ l ++ ⟨#[46, 48]⟩) = (floatOfInt .f32 (m : Int), true) := by
  have hs : ((⟨#[43]⟩ : ByteArray) ++ l ++ ⟨#[46, 48]⟩).data.toList = 43 :: (Lib.decDigits m ++ [46, 48]) := by rw [data_add, data_add, hl]; rfl
  rw [Dec.decOut_of (Dec.form_point0 (by omega) hs), out_plus hs, Nat.pow_one, (dq_whole hm).2]
set_option maxHeartbeats 1600000 in
theorem walk (a : Option Addr) (len cap : Nat) (zs : List Int) (w : World) (htab : Door.Tab w) (hr : IsRow .u8 w a len cap zs) :
    Calls Tryd.prog 4 #[.slice a len cap] w fun x w' => x = .returned (.bool true) ∧ Below w.heap.size w w' := by
  have Ht := Lib.hid htab
  clear htab
  by_cases hl : (len : Int) ≤ 1048576
  · go_enter Tryd.func4, Tryd.ntmps4
    go_wp2_with fail
    refine (Drw.big_no a len cap _ hl).mono ?_
    rintro e w' ⟨rfl, hw⟩
    subst w'
    go_wp2_with fail
    refine (Drw.drawMake_any a len cap zs _ hr).mono ?_
    rintro e w1 ⟨sg, m, k, hm, hk, rfl, hb1⟩
    have Hb1 := Lib.hid hb1
    have Ht1 := Lib.hid (show Door.Tab w1 from Door.tab_below Ht.out hb1)
    clear hb1 hr hk
    by_cases h0 : m < 0
    · go_wp2_with fail
      refine (Dec.impl_any _ (by show 1 ≤ _; unfold maxLen; omega) _).mono ?_
      rintro e w2 ⟨rfl, hb2⟩
      have Hb2 := Lib.hid (Hb1.out.trans (hb2.mono Hb1.out.size))
      clear hb2
      rw [seven_none]
      go_wp2_with fail
      go_ret
      exact ⟨rfl, Hb2.out⟩
    · by_cases h1 : 16777215 < m
      · go_wp2_with fail
        refine (Dec.impl_any _ (by show 1 ≤ _; unfold maxLen; omega) _).mono ?_
        rintro e w2 ⟨rfl, hb2⟩
        have Hb2 := Lib.hid (Hb1.out.trans (hb2.mono Hb1.out.size))
        clear hb2
        rw [seven_none]
        go_wp2_with fail
        go_ret
        exact ⟨rfl, Hb2.out⟩
      · obtain ⟨u, rfl⟩ := Int.eq_ofNat_of_zero_le (show 0 ≤ m by omega)
        have hu : u < 16777216 := by omega
        obtain ⟨l, hle⟩ : ∃ l : ByteArray, l = ⟨(Lib.itoa (u : Int)).toArray⟩ := ⟨_, rfl⟩
        have hld : l.data.toList = Lib.decDigits u := by rw [hle]; exact Lib.itoa_nonneg u
        have hlen := (Dec.dec_len (m := u) (by omega)).2
        have hls : l.size ≤ 10 := by
          have e : l.data.toList.length = l.size := Array.length_toList
          rw [← e, hld]; exact hlen
        have a1 := fun w => run_string_add_sum (P := Tryd.prog) (w := w) ⟨#[45]⟩ l (by show 1 + l.size ≤ _; omega)
        have a2 := fun w => run_string_add_sum (P := Tryd.prog) (w := w) ⟨#[43]⟩ l (by show 1 + l.size ≤ _; omega)
        have s2 : ((⟨#[43]⟩ : ByteArray) ++ l).size = 1 + l.size := by rw [ByteArray.size_append]; rfl
        have a3 := fun w => run_string_add_sum (P := Tryd.prog) (w := w) (⟨#[43]⟩ ++ l) ⟨#[46, 48]⟩ (by rw [s2]; show 1 + l.size + 2 ≤ _; omega)
        have s1 : ((⟨#[45]⟩ : ByteArray) ++ l).size ≤ maxLen := by rw [ByteArray.size_append]; show 1 + l.size ≤ _; unfold maxLen; omega
        have s3 : ((⟨#[43]⟩ : ByteArray) ++ l ++ ⟨#[46, 48]⟩).size ≤ maxLen := by rw [ByteArray.size_append, s2]; show 1 + l.size + 2 ≤ _; unfold maxLen; omega
        have c1 := fun w => Dec.impl_any _ s1 w
        have c2 := fun w => Dec.impl_any _ s3 w
        rw [minus_out hu hld] at c1
        rw [plus_out hu hld] at c2
        obtain ⟨v, hv⟩ : ∃ v, v = floatOfInt .f32 (u : Int) := ⟨_, rfl⟩
        have wv : (Lit.float .f32 v).wf = true := by rw [hv]; exact floatOfInt_wf .f32 _
        have wn : (Lit.float .f32 (Op.negFloat .f32 v)).wf = true := by
          have := neg_lt .f32 (w := v) (lt_single' wv)
          exact wf_single (by rw [← width_single]; exact this)
        have hconv : ∀ w, (convert 3 30 (.int .i64 (u : Int))).run Tryd.prog w = .ok (.float .f32 v) w := fun w => by
          rw [hv, run_convert_int_float w 3 30 .i64 .f32 (u : Int) (by rw [Tryd.underlying3]; rfl) Tryd.underlying30]
        simp only [← hv] at c1 c2
        obtain ⟨t1, ht1⟩ : ∃ t1, t1 = (⟨#[45]⟩ : ByteArray) ++ l := ⟨_, rfl⟩
        obtain ⟨t2, ht2⟩ : ∃ t2, t2 = (⟨#[43]⟩ : ByteArray) ++ l := ⟨_, rfl⟩
        obtain ⟨t3, ht3⟩ : ∃ t3, t3 = t2 ++ ⟨#[46, 48]⟩ := ⟨_, rfl⟩
        rw [← ht2, ← ht3] at c2
        rw [← ht1] at c1 a1
        rw [← ht2] at a2 a3
        rw [← ht3] at a3
        have Hh := Lib.hid (And.intro hle (And.intro hld (And.intro hv s2)))
        clear hle hld hv s1 s2 s3 ht1 ht2 ht3 hls hlen
        go_wp2_with fail
        refine (Door.impl_any u (by omega) (by omega) _ Ht1.out).mono ?_
        rintro e w2 ⟨rfl, hb2⟩
        have Hb2 := Lib.hid (Hb1.out.trans (hb2.mono Hb1.out.size))
        have Ht2 := Lib.hid (show Door.Tab w2 from Door.tab_below Ht1.out hb2)
        clear hb2
        rw [← Hh.out.1]
        go_wp2_with fail
        refine (c1 _).mono ?_
        rintro e w3 ⟨rfl, hb3⟩
        have Hb3 := Lib.hid (Hb2.out.trans (hb3.mono Hb2.out.size))
        have Ht3 := Lib.hid (show Door.Tab w3 from Door.tab_below Ht2.out hb3)
        clear hb3
        go_wp2_with fail
        refine (Door.impl_any u (by omega) (by omega) _ Ht3.out).mono ?_
        rintro e w4 ⟨rfl, hb4⟩
        have Hb4 := Lib.hid (Hb3.out.trans (hb4.mono Hb3.out.size))
        clear hb4
        rw [← Hh.out.1]
        go_wp2_with fail
        refine (c2 _).mono ?_
        rintro e w5 ⟨rfl, hb5⟩
        have Hb5 := Lib.hid (Hb4.out.trans (hb5.mono Hb4.out.size))
        clear hb5
        have q1 := sameW_refl Ieee.single (Op.negFloat .f32 v)
        have q2 := sameW_refl Ieee.single v
        go_wp2_with fail
        refine (same32_any _ _ _ wn wn).mono ?_
        rintro e w6 ⟨rfl, n6, hw6⟩
        subst w6
        go_wp2_with fail
        refine (same32_any _ _ _ wv wv).mono ?_
        rintro e w7 ⟨rfl, n7, hw7⟩
        subst w7
        go_wp2_with fail
        go_ret
        exact ⟨rfl, Dec.below_drewN' Hb5.out _⟩
  · go_enter Tryd.func4, Tryd.ntmps4
    go_wp2_with fail
    refine (Drw.big_yes a len cap _ (by omega)).mono ?_
    rintro e w' ⟨rfl, hw⟩
    subst w'
    go_wp2_with fail
    go_ret
    exact ⟨rfl, Below.refl _ _⟩
end Go.Proofs.YtgfeahammmfdaaaDoor.fnWholeTexts
