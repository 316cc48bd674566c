/- Contracts of FormatSingle, in the model and in the program. -/
import Derived.Test.YtlngplohnknhjaaGreatDoorKSngT
import Derived.Test.YtlngplohnknhjaaGreatDoorKDoor
namespace Go.Proofs.YtlngplohnknhjaaGreatDoor.Sng
open Go.ChangeShapes Go.WideShapes Go.ChangeAt Go.RowKit Go.Proofs.YtlngplohnknhjaaGreatDoor Go.Proofs.YtlngplohnknhjaaGreatDoor.Flt Go.Proofs.YtlngplohnknhjaaGreatDoor.Mth
set_option linter.unusedVariables false
noncomputable def fmtS (x : Nat) : ByteArray := ⟨(fmtL x).toArray⟩
theorem fmtS_data (x : Nat) : (fmtS x).data.toList = fmtL x := rfl
theorem bytes_ext {a b : ByteArray} (h : a.data.toList = b.data.toList) : a = b := ByteArray.ext (Array.toList_inj.1 h)
def Fmt (x : Nat) (w : World) (e : Ending) (w' : World) : Prop := e = .returned (.string (fmtS x)) ∧ Below w.heap.size w w'
theorem fmt_ret {x : Nat} {s : ByteArray} {w w' : World} (h : s.data.toList = fmtL x) (hb : Below w.heap.size w w') : Fmt x w (.returned (.string s)) w' := ⟨ret_string (bytes_ext h), hb⟩
theorem data_add (a b : ByteArray) : (a ++ b).data.toList = a.data.toList ++ b.data.toList := by rw [ByteArray.data_append, Array.toList_append]
theorem sign_size {x : Nat} (h : isNaN Ieee.single x = false) : (fnExactSignText.signOf x).size = 1 := by
  have := (sg_signOf h).1
  obtain ⟨c, hc, _⟩ := sg_one x
  rw [hc] at this
  show (fnExactSignText.signOf x).data.size = 1
  rw [← Array.length_toList, this]
  rfl
theorem itoa_size {e : Int} (h0 : -1000000000 ≤ e) (h1 : e ≤ 1000000000) : (⟨(Lib.itoa e).toArray⟩ : ByteArray).size ≤ 30 := by
  have := Lib.itoa_length_le e (by omega) (by omega)
  show (Lib.itoa e).toArray.size ≤ 30
  rw [List.size_toArray]
  omega
/-- the four parts of the text, put together -/
theorem adds (g m e : ByteArray) (hg : g.size ≤ 30) (hm : m.size ≤ 30) (he : e.size ≤ 30) :
    (∀ w, (Op.stringOp .add g m).run Tryz.prog w = .ok (.string (g ++ m)) w) ∧
    (∀ w, (Op.stringOp .add (g ++ m) ⟨#[112]⟩).run Tryz.prog w = .ok (.string (g ++ m ++ ⟨#[112]⟩)) w) ∧
    (∀ w, (Op.stringOp .add (g ++ m ++ ⟨#[112]⟩) e).run Tryz.prog w = .ok (.string (g ++ m ++ ⟨#[112]⟩ ++ e)) w) := by
  have s1 : (g ++ m).size = g.size + m.size := ByteArray.size_append
  have s2 : (g ++ m ++ (⟨#[112]⟩ : ByteArray)).size = g.size + m.size + 1 := by rw [ByteArray.size_append, s1]; rfl
  refine ⟨fun w => ?_, fun w => ?_, fun w => ?_⟩
  · exact run_string_add_sum (P := Tryz.prog) (w := w) g m (by omega)
  · exact run_string_add_sum (P := Tryz.prog) (w := w) (g ++ m) ⟨#[112]⟩ (by rw [s1]; show _ + 1 ≤ _; omega)
  · exact run_string_add_sum (P := Tryz.prog) (w := w) (g ++ m ++ ⟨#[112]⟩) e (by rw [s2]; omega)
theorem data_four {x : Nat} (h : Some' x) (nx : isNaN Ieee.single x = false) : (fnExactSignText.signOf x ++ ⟨(Lib.itoa (mOf x : Int)).toArray⟩ ++ (⟨#[112]⟩ : ByteArray) ++ ⟨(Lib.itoa (eOf x)).toArray⟩).data.toList = fmtL x := by
  rw [data_add, data_add, data_add, (sg_signOf nx).1, fmt_num nx, body_some h]
  show sgL x ++ Lib.itoa (mOf x : Int) ++ [112] ++ Lib.itoa (eOf x) = _
  simp
set_option maxRecDepth 20000 in
set_option maxHeartbeats 1600000 in
theorem spec_fmt (x : Nat) (w : World) (wx : (Lit.float .f32 x).wf = true) : Calls Tryz.prog 144 #[.float .f32 x] w (Fmt x w) := by
  have hne := ne32 x x
  rw [eqW_self, Bool.not_not] at hne
  cases nx : isNaN Ieee.single x
  · rw [nx] at hne
    have hsz := sign_size nx
    have hdat := (sg_signOf nx).1
    have cs := fun w => fnExactSignText.spec_any x w wx
    rcases kinds nx with k | k | k
    · have c1 := fun w => Spl.spec_nofin x w (by omega)
      have Hf := Lib.hid (show (fnExactSignText.signOf x ++ (⟨#[105, 110, 102]⟩ : ByteArray)).data.toList = fmtL x by rw [data_add, hdat, fmt_num nx, body_inf k])
      generalize fnExactSignText.signOf x = g at *
      have ha := fun w => run_string_add_sum (P := Tryz.prog) (w := w) g ⟨#[105, 110, 102]⟩ (by rw [hsz]; decide)
      clear nx k hdat hsz
      go_enter Tryz.func144, Tryz.ntmps144
      go_wp2_with fail
      refine (c1 _).mono ?_
      rintro e w1 ⟨rfl, hb1⟩
      have Hb1 := Lib.hid hb1
      clear hb1
      go_wp2_with fail
      refine (cs _).mono ?_
      rintro e w2 ⟨rfl, hw2⟩
      subst w2
      go_wp2_with fail
      go_ret
      exact fmt_ret Hf.out Hb1.out
    · have c1 := fun w => Spl.spec_zero x w k
      have Hf := Lib.hid (show (fnExactSignText.signOf x ++ (⟨#[48]⟩ : ByteArray)).data.toList = fmtL x by rw [data_add, hdat, fmt_num nx, body_zero k])
      generalize fnExactSignText.signOf x = g at *
      have ha := fun w => run_string_add_sum (P := Tryz.prog) (w := w) g ⟨#[48]⟩ (by rw [hsz]; decide)
      clear nx k hdat hsz
      go_enter Tryz.func144, Tryz.ntmps144
      go_wp2_with fail
      refine (c1 _).mono ?_
      rintro e w1 ⟨rfl, hb1⟩
      have Hb1 := Lib.hid hb1
      clear hb1
      go_wp2_with fail
      refine (cs _).mono ?_
      rintro e w2 ⟨rfl, hw2⟩
      subst w2
      go_wp2_with fail
      go_ret
      exact fmt_ret Hf.out Hb1.out
    · obtain ⟨h1, h2, h3, h4, h5, t, h6, h7⟩ := parts k
      have c1 := fun w => Spl.spec_main x (mOf x) t w k.1 k.2 h3 h6
      rw [← h7] at c1
      have Hf := Lib.hid (data_four k nx)
      have sm := itoa_size (e := (mOf x : Int)) (by omega) (by omega)
      have se := itoa_size (e := eOf x) (by omega) (by omega)
      have cm := fun w => Door.spec_any (mOf x : Int) (by omega) (by omega) w
      have ce := fun w => Door.spec_any (eOf x) (by omega) (by omega) w
      unfold Fmi.Out at cm ce
      generalize fnExactSignText.signOf x = g at *
      generalize (⟨(Lib.itoa (mOf x : Int)).toArray⟩ : ByteArray) = dm at *
      generalize (⟨(Lib.itoa (eOf x)).toArray⟩ : ByteArray) = de at *
      obtain ⟨a1, a2, a3⟩ := adds g dm de (by omega) sm se
      have hz : ((mOf x : Int) == 0) = false := by rw [beq_eq_false_iff_ne]; omega
      obtain ⟨m, hm⟩ : ∃ m, m = mOf x := ⟨_, rfl⟩
      obtain ⟨ee, hee⟩ : ∃ ee, ee = eOf x := ⟨_, rfl⟩
      rw [← hm] at c1 cm hz
      rw [← hee] at c1 ce
      clear nx k hdat hsz h1 h2 h3 h4 h5 h6 h7 sm se hm hee
      go_enter Tryz.func144, Tryz.ntmps144
      go_wp2_with fail
      refine (c1 _).mono ?_
      rintro e w1 ⟨rfl, hb1⟩
      have Hb1 := Lib.hid hb1
      clear hb1
      go_wp2_with fail
      refine (cs _).mono ?_
      rintro e w2 ⟨rfl, hw2⟩
      subst w2
      go_wp2_with fail
      refine (cm _).mono ?_
      rintro e w3 ⟨rfl, hb3⟩
      have Hb3 := Lib.hid (Hb1.out.trans (hb3.mono Hb1.out.size))
      clear hb3
      go_wp2_with fail
      refine (ce _).mono ?_
      rintro e w4 ⟨rfl, hb4⟩
      have Hb4 := Lib.hid (Hb3.out.trans (hb4.mono Hb3.out.size))
      clear hb4
      go_wp2_with fail
      go_ret
      exact fmt_ret Hf.out Hb4.out
  · rw [nx] at hne
    have Hf := Lib.hid (show (⟨#[110, 97, 110]⟩ : ByteArray).data.toList = fmtL x by rw [fmt_nan nx])
    clear nx
    go_enter Tryz.func144, Tryz.ntmps144
    go_wp2_with fail
    go_ret
    exact fmt_ret Hf.out (Below.refl _ _)
theorem below_dr {B : Nat} {a w : World} (h : Below B a w) (n : Nat) : Below B a (w.drewN n) := ⟨h.os, h.tape, h.output, h.size, h.block⟩
theorem wide_zero {x : Nat} (h : rung Ieee.single x = 0) : (FloatKind.f64.format.order (widen x) 0 == some .eq) = true := by
  have hlt : rung Ieee.single x < Ieee.single.infRung := by rw [h]; decide
  rw [eq64, eqW_zero _ (isNaN_widen x), rung_widen, if_pos hlt, wr_A, h]
  rw [show A (ss Ieee.single 0) (qq Ieee.single 0) = 0 by rw [show ss Ieee.single 0 = 0 by decide, A_zero]]
  decide
set_option maxRecDepth 20000 in
set_option maxHeartbeats 1600000 in
theorem impl_fmt (x : Nat) (w : World) (wx : (Lit.float .f32 x).wf = true) (htab : Door.Tab w) : Calls Tryz.prog 72 #[.float .f32 x] w (Fmt x w) := by
  have us : (Tryz.prog.underlying 92).isSome = true := by rw [Tryz.underlying92]; rfl
  have Ht := Lib.hid htab
  clear htab
  cases nx : isNaN Ieee.single x
  · have kr := run_widen (P := Tryz.prog) 92 60 x us Tryz.underlying60 nx w
    have hwn := isNaN_widen x
    have hwl := widen_wl x
    have hfin := isFin_widen x
    have hsz := sign_size nx
    have hdat := (sg_signOf nx).1
    have cs := fun w => fnExactSignText.impl_any x w wx
    rcases kinds nx with k | k | k
    · rw [decide_eq_false (by omega)] at hfin
      have Hf := Lib.hid (show (fnExactSignText.signOf x ++ (⟨#[105, 110, 102]⟩ : ByteArray)).data.toList = fmtL x by rw [data_add, hdat, fmt_num nx, body_inf k])
      generalize fnExactSignText.signOf x = g at *
      have ha := fun w => run_string_add_sum (P := Tryz.prog) (w := w) g ⟨#[105, 110, 102]⟩ (by rw [hsz]; decide)
      clear nx k hdat hsz us
      generalize widen x = r at *
      have Hw := Lib.hid (And.intro hwn hfin)
      clear hwn hfin
      have c1 := fun w => isNaN_any r w
      have c2 := fun w => isInf_any r w hwl Hw.out.1
      rw [Hw.out.1] at c1
      rw [Hw.out.2] at c2
      go_enter Tryz.func72, Tryz.ntmps72
      go_wp2_with fail
      refine (c1 _).mono ?_
      rintro e w1 ⟨rfl, hw1⟩
      subst w1
      go_wp2_with fail
      refine (c2 _).mono ?_
      rintro e w1 ⟨rfl, hw1⟩
      subst w1
      go_wp2_with fail
      refine (cs _).mono ?_
      rintro e w2 ⟨rfl, n, hw2⟩
      subst w2
      go_wp2_with fail
      go_ret
      exact fmt_ret Hf.out (below_dr (Below.refl _ _) _)
    · rw [decide_eq_true (by rw [k]; decide)] at hfin
      have hz := wide_zero k
      have Hf := Lib.hid (show (fnExactSignText.signOf x ++ (⟨#[48]⟩ : ByteArray)).data.toList = fmtL x by rw [data_add, hdat, fmt_num nx, body_zero k])
      generalize fnExactSignText.signOf x = g at *
      have ha := fun w => run_string_add_sum (P := Tryz.prog) (w := w) g ⟨#[48]⟩ (by rw [hsz]; decide)
      clear nx k hdat hsz us
      generalize widen x = r at *
      have Hw := Lib.hid (And.intro hwn hfin)
      clear hwn hfin
      have c1 := fun w => isNaN_any r w
      have c2 := fun w => isInf_any r w hwl Hw.out.1
      rw [Hw.out.1] at c1
      rw [Hw.out.2] at c2
      go_enter Tryz.func72, Tryz.ntmps72
      go_wp2_with fail
      refine (c1 _).mono ?_
      rintro e w1 ⟨rfl, hw1⟩
      subst w1
      go_wp2_with fail
      refine (c2 _).mono ?_
      rintro e w1 ⟨rfl, hw1⟩
      subst w1
      go_wp2_with fail
      refine (cs _).mono ?_
      rintro e w2 ⟨rfl, n, hw2⟩
      subst w2
      go_wp2_with fail
      go_ret
      exact fmt_ret Hf.out (below_dr (Below.refl _ _) _)
    · rw [decide_eq_true k.1] at hfin
      have hz := (Spl.nonzero_facts x k.1 k.2).1
      obtain ⟨h1, h2, h3, h4, h5, t, h6, h7⟩ := parts k
      have c3 := fun w => Spl.impl_main x (mOf x) t w (lt_single wx) k.1 k.2 h3 h6
      rw [← h7] at c3
      have Hf := Lib.hid (data_four k nx)
      have sm := itoa_size (e := (mOf x : Int)) (by omega) (by omega)
      have se := itoa_size (e := eOf x) (by omega) (by omega)
      have cm := fun w => Door.impl_any (mOf x : Int) (by omega) (by omega) w
      have ce := fun w => Door.impl_any (eOf x) (by omega) (by omega) w
      unfold Fmi.Out at cm ce
      generalize fnExactSignText.signOf x = g at *
      generalize (⟨(Lib.itoa (mOf x : Int)).toArray⟩ : ByteArray) = dm at *
      generalize (⟨(Lib.itoa (eOf x)).toArray⟩ : ByteArray) = de at *
      obtain ⟨a1, a2, a3⟩ := adds g dm de (by omega) sm se
      obtain ⟨m, hm⟩ : ∃ m, m = mOf x := ⟨_, rfl⟩
      obtain ⟨ee, hee⟩ : ∃ ee, ee = eOf x := ⟨_, rfl⟩
      rw [← hm] at c3 cm
      rw [← hee] at c3 ce
      clear nx k hdat hsz h1 h2 h3 h4 h5 h6 h7 sm se hm hee us
      generalize widen x = r at *
      have Hw := Lib.hid (And.intro hwn hfin)
      clear hwn hfin
      have c1 := fun w => isNaN_any r w
      have c2 := fun w => isInf_any r w hwl Hw.out.1
      rw [Hw.out.1] at c1
      rw [Hw.out.2] at c2
      go_enter Tryz.func72, Tryz.ntmps72
      go_wp2_with fail
      refine (c1 _).mono ?_
      rintro e w1 ⟨rfl, hw1⟩
      subst w1
      go_wp2_with fail
      refine (c2 _).mono ?_
      rintro e w1 ⟨rfl, hw1⟩
      subst w1
      go_wp2_with fail
      refine (c3 _).mono ?_
      rintro e w1 ⟨rfl, hb1⟩
      have Hb1 := Lib.hid hb1
      clear hb1
      go_wp2_with fail
      refine (cs _).mono ?_
      rintro e w2 ⟨rfl, n, hw2⟩
      have Hb2 := Lib.hid (show Below w.heap.size w w2 by rw [hw2]; exact below_dr Hb1.out _)
      have Ht2 := Lib.hid (show Door.Tab w2 from Door.tab_below Ht.out Hb2.out)
      clear hw2
      go_wp2_with fail
      refine (cm _ Ht2.out).mono ?_
      rintro e w3 ⟨rfl, hb3⟩
      have Hb3 := Lib.hid (Hb2.out.trans (hb3.mono Hb2.out.size))
      have Ht3 := Lib.hid (show Door.Tab w3 from Door.tab_below Ht2.out hb3)
      clear hb3
      go_wp2_with fail
      refine (ce _ Ht3.out).mono ?_
      rintro e w4 ⟨rfl, hb4⟩
      have Hb4 := Lib.hid (Hb3.out.trans (hb4.mono Hb3.out.size))
      clear hb4
      go_wp2_with fail
      go_ret
      exact fmt_ret Hf.out Hb4.out
  · have Hf := Lib.hid (show (⟨#[110, 97, 110]⟩ : ByteArray).data.toList = fmtL x by rw [fmt_nan nx])
    obtain ⟨r, n, hr, kr⟩ := run_widen_any (P := Tryz.prog) 92 60 x us Tryz.underlying60 w
    have hnr : isNaN Ieee.double r = true := by rw [hr.2.1, nx]
    have c1 := fun w => isNaN_any r w
    rw [hnr] at c1
    clear nx hr hnr us
    go_enter Tryz.func72, Tryz.ntmps72
    go_wp2_with fail
    refine (c1 _).mono ?_
    rintro e w1 ⟨rfl, hw1⟩
    subst w1
    go_wp2_with fail
    go_ret
    exact fmt_ret Hf.out (below_dr (Below.refl _ _) _)
end Go.Proofs.YtlngplohnknhjaaGreatDoor.Sng
