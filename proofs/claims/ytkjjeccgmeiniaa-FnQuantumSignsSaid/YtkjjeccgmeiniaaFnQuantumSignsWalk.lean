/- The walk of FnQuantumSigns: it returns true. -/
import Derived.Test.YtkjjeccgmeiniaaRows
import Derived.Test.YtkjjeccgmeiniaaQtmDr
namespace Go.Proofs.Ytkjjeccgmeiniaa.Qtm
open Go.RowKit Go.Proofs.Ytkjjeccgmeiniaa Go.Proofs.Ytkjjeccgmeiniaa.Flt Go.Proofs.Ytkjjeccgmeiniaa.Mth Go.Proofs.Ytkjjeccgmeiniaa.Drw
open Ieee (single double)
theorem row_ltS {w : World} {a : Option Addr} {len cap : Nat} {zs : List Int} (hr : IsRow .u8 w a len cap zs) : ∀ x, a = some x → 0 < cap → x.block < w.heap.size := by
  rintro x rfl hc
  rcases hr with ⟨e, _⟩ | ⟨y, e, h1, h2, h3, h4, h5⟩
  · cases e
  · cases e
    have h6 := h4 0 (by omega)
    have hlt := lt_of_cell h6
    simpa [Addr.add] using hlt
theorem sgnd_not (p : Int × Bool) (c : Bool) : sgnd p (!c) = (-(sgnd p c).1, (sgnd p c).2) := by
  unfold sgnd
  cases c
  · rfl
  · show (p.1, p.2) = (-(-p.1), p.2)
    rw [Int.neg_neg]
theorem qOut_finS {v x : Nat} (hx : rung single x < single.infRung) : qOut (v, true) x = sgnd (wv (qR (rung single x) (rung single v))) (sgn single x ^^ sgn single v) := by
  unfold qOut
  rw [if_pos ⟨rfl, hx⟩]
theorem qOut_neg {v x : Nat} (wx : x < 4294967296) : qOut (v, true) (Op.negFloat .f32 x) = (-(qOut (v, true) x).1, (qOut (v, true) x).2) := by
  have hw : x < 2 ^ single.width := by rw [width_single]; exact wx
  have r1 : rung single (Op.negFloat .f32 x) = rung single x := rung_neg .f32 hw
  have s1 : sgn single (Op.negFloat .f32 x) = !sgn single x := sgn_neg .f32 hw
  by_cases hx : rung single x < single.infRung
  · rw [qOut_finS hx, qOut_finS (by rw [r1]; exact hx), r1, s1, ← sgnd_not]
    congr 1
    cases sgn single x <;> cases sgn single v <;> rfl
  · rw [qOut_inf hx, qOut_inf (by rw [r1]; exact hx)]
    rfl
theorem qOut_turn {b : Bool} {R x : Nat} (hR : R < single.infRung) : qOut (single.word (!b) R, true) x = (-(qOut (single.word b R, true) x).1, (qOut (single.word b R, true) x).2) := by
  have hw := Nat.lt_trans hR (Ieee.Format.infRung_lt single)
  by_cases hx : rung single x < single.infRung
  · rw [qOut_finS hx, qOut_finS hx, rung_word single _ hw, rung_word single _ hw, sgn_word single _ hw, sgn_word single _ hw, ← sgnd_not]
    congr 1
    cases sgn single x <;> cases b <;> rfl
  · rw [qOut_inf hx, qOut_inf hx]
    rfl
theorem sgnd_bd (p : Int × Bool) (c : Bool) (h : 0 ≤ p.1 ∧ p.1 ≤ 1000000001) : -1000000001 ≤ (sgnd p c).1 ∧ (sgnd p c).1 ≤ 1000000001 := by
  unfold sgnd
  cases c
  · show -1000000001 ≤ p.1 ∧ p.1 ≤ 1000000001
    omega
  · show -1000000001 ≤ -p.1 ∧ -p.1 ≤ 1000000001
    omega
theorem qOut_bd (u : Nat × Bool) (x : Nat) : -1000000001 ≤ (qOut u x).1 ∧ (qOut u x).1 ≤ 1000000001 := by
  unfold qOut
  by_cases h : u.2 = true ∧ rung single x < single.infRung
  · rw [if_pos h]
    exact sgnd_bd _ _ (wv_bound _)
  · rw [if_neg h]
    exact ⟨by decide, by decide⟩
end Go.Proofs.Ytkjjeccgmeiniaa.Qtm
namespace Go.Proofs.Ytkjjeccgmeiniaa.fnQuantumSigns
open Go.ChangeShapes Go.WideShapes Go.ChangeAt Go.RowKit Go.Proofs.Ytkjjeccgmeiniaa Go.Proofs.Ytkjjeccgmeiniaa.Flt Go.Proofs.Ytkjjeccgmeiniaa.Mth Go.Proofs.Ytkjjeccgmeiniaa.Drw Go.Proofs.Ytkjjeccgmeiniaa.Qtm
open Ieee (single double)
set_option linter.unusedVariables false
set_option linter.unusedSimpArgs false
set_option maxRecDepth 20000
theorem plus_eq : (plus.toList == [45]) = false := by rw [plus_l]; rfl
theorem minus_eq : (minus.toList == [45]) = true := by rw [minus_l]; rfl
set_option maxHeartbeats 3200000 in
theorem walk (a : Option Addr) (len cap : Nat) (zs : List Int) (w : World) (hr : IsRow .u8 w a len cap zs) :
    Calls Try.prog 4 #[.slice a len cap] w fun x w' => x = .returned (.bool true) ∧ Below w.heap.size w w' := by
  by_cases hl : (len : Int) ≤ 1048576
  · have hd := Lib.hid (drawUnit_any a len cap zs w hr (row_ltS hr))
    clear hr
    go_enter Try.func4, Try.ntmps4
    go_wp2_with fail
    refine (Drw.big_no _ _ _ _ hl).mono ?_
    rintro e w' ⟨rfl, hw'⟩
    subst w'
    go_wp2_with fail
    refine hd.out.mono ?_
    rintro e w1 ⟨b, m, k, x, y, z, p, q, r, ⟨m1, m2, k1, k2⟩, ⟨⟨wx, _⟩, _⟩, rfl, hb1⟩
    obtain ⟨hu, v2, v3, v4⟩ := unit_drawn (b := b) m1 m2 k1 k2
    obtain ⟨hu', _, _, _⟩ := unit_drawn (b := !b) m1 m2 k1 k2
    have hbd := qOut_bd (single.word b (uRung m k), true) x
    have hng := qOut_neg (v := single.word b (uRung m k)) (lt_single wx)
    have htn := qOut_turn (b := b) (x := x) v2
    have hq1 := fun W => impl_quant (if b = true then minus else plus) m k x W
    have hq2 := fun W => impl_quant (if b = true then minus else plus) m k (Op.negFloat .f32 x) W
    have hq3 := fun W => impl_quant (if (!b) = true then minus else plus) m k x W
    have hq4 := fun W => spec_quant (if b = true then minus else plus) m k x W
    unfold QOut at hq1 hq2 hq3 hq4
    simp only [hu] at hq1 hq2 hq4
    simp only [hu'] at hq3
    simp only [hng] at hq2
    simp only [htn] at hq3
    generalize qOut (single.word b (uRung m k), true) x = o at *
    obtain ⟨n, ok⟩ := o
    dsimp only at hbd hq1 hq2 hq3 hq4
    obtain ⟨bd1, bd2⟩ := hbd
    have hs1 := hb1.size
    have Hb1 := Lib.hid hb1
    clear hb1 v2 v3 v4 m1 m2 k1 k2 hu hu' hd hng htn
    generalize hX : Op.negFloat .f32 x = X at *
    cases b
    · have p45 := plus_eq
      simp only [Bool.false_eq_true, if_false, Bool.not_false, Bool.not_true, if_true] at hq1 hq2 hq3 hq4 ⊢
      have hq5 : ∀ W, Calls Try.prog 14 #[.float .f32 x, uv ⟨#[45]⟩ m k] W fun y w' => y = .returned (.tuple #[.int .i64 (-n), .bool ok]) ∧ Below W.heap.size W w' := hq3
      clear hq3
      have HU := Lib.hid ((show UB w1.heap.size plus m k w (w1.alloc (.cells #[.string plus, .int .i64 m, .int .i64 k] 25)) from ⟨Hb1.out.alloc hs1 _, Ub.new plus m k w1 _⟩).alloc (.cells #[.string ⟨#[45]⟩, .int .i64 m, .int .i64 k] 25))
      have HO := Ub.new ⟨#[45]⟩ m k (w1.alloc (.cells #[.string plus, .int .i64 m, .int .i64 k] 25)) 25
      rw [size_al] at HO
      have HO := Lib.hid HO
      unfold uv at *
      generalize plus = sg at *
      go_wp2_with fail
      refine (hq1 _).mono ?_
      rintro e w2 ⟨rfl, hb2⟩
      have HU2 := Lib.hid (HU.out.next hb2)
      have HO2 := Lib.hid (HO.out.keep hb2)
      clear hb2 HU HO hq1
      obtain ⟨c0, c1, c2⟩ := HU2.out.2
      obtain ⟨e0, e1, e2⟩ := HO2.out
      go_wp2_with fail
      refine (hq2 _).mono ?_
      rintro e w3 ⟨rfl, hb3⟩
      have HU3 := Lib.hid (HU2.out.next hb3)
      have HO3 := Lib.hid (HO2.out.keep hb3)
      clear hb3 HU2 HO2 hq2 c0 c1 c2 e0 e1 e2
      obtain ⟨c0, c1, c2⟩ := HU3.out.2
      obtain ⟨e0, e1, e2⟩ := HO3.out
      go_wp2_with fail
      refine (hq5 _).mono ?_
      rintro e w4 ⟨rfl, hb4⟩
      have HU4 := Lib.hid (HU3.out.next hb4)
      clear hb4 HU3 HO3 hq5 c0 c1 c2 e0 e1 e2
      obtain ⟨c0, c1, c2⟩ := HU4.out.2
      go_wp2_with fail
      refine (hq4 _).mono ?_
      rintro e w5 ⟨rfl, hb5⟩
      have HU5 := Lib.hid (HU4.out.next hb5)
      clear hb5 HU4 hq4 c0 c1 c2
      cases ok
      all_goals
        go_wp2_with fail
        go_ret
        exact ⟨rfl, HU5.out.1⟩
    · have p45 := minus_eq
      simp only [Bool.false_eq_true, if_false, Bool.not_false, Bool.not_true, if_true] at hq1 hq2 hq3 hq4 ⊢
      have hq5 : ∀ W, Calls Try.prog 14 #[.float .f32 x, uv ⟨#[43]⟩ m k] W fun y w' => y = .returned (.tuple #[.int .i64 (-n), .bool ok]) ∧ Below W.heap.size W w' := hq3
      clear hq3
      have HU := Lib.hid ((show UB w1.heap.size minus m k w (w1.alloc (.cells #[.string minus, .int .i64 m, .int .i64 k] 25)) from ⟨Hb1.out.alloc hs1 _, Ub.new minus m k w1 _⟩).alloc (.cells #[.string ⟨#[43]⟩, .int .i64 m, .int .i64 k] 25))
      have HO := Ub.new ⟨#[43]⟩ m k (w1.alloc (.cells #[.string minus, .int .i64 m, .int .i64 k] 25)) 25
      rw [size_al] at HO
      have HO := Lib.hid HO
      unfold uv at *
      generalize minus = sg at *
      go_wp2_with fail
      refine (hq1 _).mono ?_
      rintro e w2 ⟨rfl, hb2⟩
      have HU2 := Lib.hid (HU.out.next hb2)
      have HO2 := Lib.hid (HO.out.keep hb2)
      clear hb2 HU HO hq1
      obtain ⟨c0, c1, c2⟩ := HU2.out.2
      obtain ⟨e0, e1, e2⟩ := HO2.out
      go_wp2_with fail
      refine (hq2 _).mono ?_
      rintro e w3 ⟨rfl, hb3⟩
      have HU3 := Lib.hid (HU2.out.next hb3)
      have HO3 := Lib.hid (HO2.out.keep hb3)
      clear hb3 HU2 HO2 hq2 c0 c1 c2 e0 e1 e2
      obtain ⟨c0, c1, c2⟩ := HU3.out.2
      obtain ⟨e0, e1, e2⟩ := HO3.out
      go_wp2_with fail
      refine (hq5 _).mono ?_
      rintro e w4 ⟨rfl, hb4⟩
      have HU4 := Lib.hid (HU3.out.next hb4)
      clear hb4 HU3 HO3 hq5 c0 c1 c2 e0 e1 e2
      obtain ⟨c0, c1, c2⟩ := HU4.out.2
      go_wp2_with fail
      refine (hq4 _).mono ?_
      rintro e w5 ⟨rfl, hb5⟩
      have HU5 := Lib.hid (HU4.out.next hb5)
      clear hb5 HU4 hq4 c0 c1 c2
      cases ok
      all_goals
        go_wp2_with fail
        go_ret
        exact ⟨rfl, HU5.out.1⟩
  · go_enter Try.func4, Try.ntmps4
    go_wp2_with fail
    refine (Drw.big_yes _ _ _ _ (by omega)).mono ?_
    rintro e w' ⟨rfl, hw'⟩
    subst w'
    go_wp2_with fail
    go_ret
    exact ⟨rfl, Below.refl _ _⟩
end Go.Proofs.Ytkjjeccgmeiniaa.fnQuantumSigns
