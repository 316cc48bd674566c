/- The walk of FnEquivalence: it returns true. -/
import Derived.Test.YtkjjeccgmeiniaaRows
import Derived.Test.YtkjjeccgmeiniaaQtmP
namespace Go.Proofs.Ytkjjeccgmeiniaa.Qtm
open Go.RowKit Go.Proofs.Ytkjjeccgmeiniaa Go.Proofs.Ytkjjeccgmeiniaa.Flt Go.Proofs.Ytkjjeccgmeiniaa.Mth Go.Proofs.Ytkjjeccgmeiniaa.Drw
theorem row_ltE {w : World} {a : Option Addr} {len cap : Nat} {zs : List Int} (hr : IsRow .u8 w a len cap zs) : ∀ x, a = some x → 0 < cap → x.block < w.heap.size := by
  rintro x rfl hc
  rcases hr with ⟨e, _⟩ | ⟨y, e, h1, h2, h3, h4, h5⟩
  · cases e
  · cases e
    have h6 := h4 0 (by omega)
    have hlt := lt_of_cell h6
    simpa [Addr.add] using hlt
theorem eqP_self (u : Nat × Bool) (x y : Nat) : eqP u x y x y = (pO u x y).2 := by
  unfold eqP
  rw [decide_eq_true rfl, Bool.and_true, Bool.and_self]
theorem eqP_symm (u : Nat × Bool) (x y z t : Nat) : eqP u x y z t = eqP u z t x y := by
  unfold eqP
  rw [Bool.and_comm (pO u x y).2, decide_eq_decide.2 eq_comm]
theorem eqP_trans (u : Nat × Bool) {x y z t p q : Nat} (h1 : eqP u x y z t = true) (h2 : eqP u z t p q = true) : eqP u x y p q = true := by
  unfold eqP at *
  simp only [Bool.and_eq_true, decide_eq_true_eq] at *
  exact ⟨⟨h1.1.1, h2.1.2⟩, h1.2.trans h2.2⟩
end Go.Proofs.Ytkjjeccgmeiniaa.Qtm
namespace Go.Proofs.Ytkjjeccgmeiniaa.fnEquivalence
open Go.ChangeShapes Go.WideShapes Go.ChangeAt Go.RowKit Go.Proofs.Ytkjjeccgmeiniaa Go.Proofs.Ytkjjeccgmeiniaa.Flt Go.Proofs.Ytkjjeccgmeiniaa.Mth Go.Proofs.Ytkjjeccgmeiniaa.Drw Go.Proofs.Ytkjjeccgmeiniaa.Qtm
open Ieee (single double)
set_option linter.unusedVariables false
set_option linter.unusedSimpArgs false
set_option maxRecDepth 20000
set_option maxHeartbeats 6400000 in
theorem walk (a : Option Addr) (len cap : Nat) (zs : List Int) (w : World) (hr : IsRow .u8 w a len cap zs) :
    Calls Try.prog 5 #[.slice a len cap] w fun x w' => x = .returned (.bool true) ∧ Below w.heap.size w w' := by
  by_cases hl : (len : Int) ≤ 1048576
  · have hd := Lib.hid (drawUnit_any a len cap zs w hr (row_ltE hr))
    clear hr
    go_enter Try.func5, Try.ntmps5
    go_wp2_with fail
    refine (Drw.big_no _ _ _ _ hl).mono ?_
    rintro e w' ⟨rfl, hw'⟩
    subst w'
    go_wp2_with fail
    refine hd.out.mono ?_
    rintro e w1 ⟨b, m, k, x, y, z, p, q, r, _, _, rfl, hb1⟩
    obtain ⟨s, hs⟩ : ∃ s, (if b = true then minus else plus) = s := ⟨_, rfl⟩
    rw [hs]
    have h1 := fun W => implPair_any s m k x y W
    have h2 := fun W => specPair_any s m k x y W
    unfold P3 at h1 h2
    have e1 := fun W => equal_any s m k x y x y W
    have e2 := fun W => equal_any s m k x y z p W
    have e3 := fun W => equal_any s m k z p x y W
    have e4 := fun W => equal_any s m k z p q r W
    have e5 := fun W => equal_any s m k x y q r W
    generalize uOut s m k = u at *
    simp only [eqP_self] at e1
    simp only [eqP_symm u z p x y] at e3
    have htr : ¬ (eqP u x y z p = true ∧ eqP u z p q r = true ∧ eqP u x y q r = false) := fun h => by
      have := eqP_trans u h.1 h.2.1
      rw [h.2.2] at this
      cases this
    generalize eqP u x y z p = c1 at *
    generalize eqP u z p q r = c2 at *
    generalize eqP u x y q r = c3 at *
    obtain ⟨⟨⟨n, i⟩, ok⟩, ho⟩ : ∃ o, pO u x y = o := ⟨_, rfl⟩
    simp only [ho] at h1 h2 e1
    have hs1 := hb1.size
    have HU := Lib.hid (show UB w1.heap.size s m k w (w1.alloc (.cells #[.string s, .int .i64 m, .int .i64 k] 25)) from ⟨hb1.alloc hs1 _, Ub.new s m k w1 _⟩)
    clear hb1 hs ho hd
    unfold uv at *
    go_wp2_with fail
    refine (h1 _).mono ?_
    rintro e w2 ⟨rfl, hb2⟩
    have HU2 := Lib.hid (HU.out.next hb2)
    clear hb2 HU h1
    obtain ⟨a0, a1, a2⟩ := HU2.out.2
    go_wp2_with fail
    refine (h2 _).mono ?_
    rintro e w3 ⟨rfl, hb3⟩
    have HU3 := Lib.hid (HU2.out.next hb3)
    clear hb3 HU2 h2 a0 a1 a2
    have U3 := Lib.hid HU3.out.2
    obtain ⟨a0, a1, a2⟩ := HU3.out.2
    generalize w1.heap.size = R at *
    cases ok
    all_goals
      go_wp2_with fail
      go_region_held (fun w' => w'.cell? ⟨R, 0, none⟩ = some (.string s) ∧ w'.cell? ⟨R, 1, none⟩ = some (.int .i64 m) ∧ w'.cell? ⟨R, 2, none⟩ = some (.int .i64 k))
        (first | (with_reducible exact V4.out) | (with_reducible exact V5.out) | (with_reducible exact V6.out) | exact U3.out)
        (first
          | (go_at_call 18; (with_reducible refine (e1 _).mono ?_); rintro e w4 ⟨rfl, hb4⟩; have HU4 := Lib.hid ((HU3.out.drewN 1).next hb4); have V4 := Lib.hid (show w4.cell? ⟨R, 0, none⟩ = some (.string s) ∧ w4.cell? ⟨R, 1, none⟩ = some (.int .i64 m) ∧ w4.cell? ⟨R, 2, none⟩ = some (.int .i64 k) from HU4.out.2); clear hb4)
          | (go_at_call 18; (with_reducible refine (e2 _).mono ?_); rintro e w5 ⟨rfl, hb5⟩; have HU5 := Lib.hid (HU4.out.next hb5); have V5 := Lib.hid (show w5.cell? ⟨R, 0, none⟩ = some (.string s) ∧ w5.cell? ⟨R, 1, none⟩ = some (.int .i64 m) ∧ w5.cell? ⟨R, 2, none⟩ = some (.int .i64 k) from HU5.out.2); clear hb5)
          | (go_at_call 18; (with_reducible refine (e3 _).mono ?_); rintro e w6 ⟨rfl, hb6⟩; have HU6 := Lib.hid (HU5.out.next hb6); have V6 := Lib.hid (show w6.cell? ⟨R, 0, none⟩ = some (.string s) ∧ w6.cell? ⟨R, 1, none⟩ = some (.int .i64 m) ∧ w6.cell? ⟨R, 2, none⟩ = some (.int .i64 k) from HU6.out.2); clear hb6))
      all_goals
        clear a0 a1 a2 HU4 HU5
        obtain ⟨a0, a1, a2⟩ := HU6.out.2
        cases c1
        · go_wp2_with fail
          refine (e2 _).mono ?_
          rintro e w7 ⟨rfl, hb7⟩
          have HU7 := Lib.hid (HU6.out.next hb7)
          clear hb7
          go_wp2_with fail
          go_ret
          exact ⟨rfl, HU7.out.1⟩
        · go_wp2_with fail
          refine (e2 _).mono ?_
          rintro e w7 ⟨rfl, hb7⟩
          have HU7 := Lib.hid (HU6.out.next hb7)
          clear hb7 a0 a1 a2
          obtain ⟨a0, a1, a2⟩ := HU7.out.2
          go_wp2_with fail
          refine (e4 _).mono ?_
          rintro e w8 ⟨rfl, hb8⟩
          have HU8 := Lib.hid (HU7.out.next hb8)
          clear hb8 a0 a1 a2
          obtain ⟨a0, a1, a2⟩ := HU8.out.2
          cases c2
          · go_wp2_with fail
            go_ret
            exact ⟨rfl, HU8.out.1⟩
          · cases c3
            · exact absurd htr (by simp)
            · go_wp2_with fail
              refine (e5 _).mono ?_
              rintro e w9 ⟨rfl, hb9⟩
              have HU9 := Lib.hid (HU8.out.next hb9)
              clear hb9
              go_wp2_with fail
              go_ret
              exact ⟨rfl, HU9.out.1⟩
  · go_enter Try.func5, Try.ntmps5
    go_wp2_with fail
    refine (Drw.big_yes _ _ _ _ (by omega)).mono ?_
    rintro e w' ⟨rfl, hw'⟩
    subst w'
    go_wp2_with fail
    go_ret
    exact ⟨rfl, Below.refl _ _⟩
end Go.Proofs.Ytkjjeccgmeiniaa.fnEquivalence
