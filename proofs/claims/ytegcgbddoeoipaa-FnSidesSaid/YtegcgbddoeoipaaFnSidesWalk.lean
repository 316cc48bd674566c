/- The walk of FnSides: it returns true. -/
import Derived.Test.YtegcgbddoeoipaaRows
import Derived.Test.YtegcgbddoeoipaaCpx
import Derived.Test.YtegcgbddoeoipaaDrawC
namespace Go.Proofs.Ytegcgbddoeoipaa.fnSides
open Go.ChangeShapes Go.WideShapes Go.ChangeAt Go.RowKit Go.Proofs.Ytegcgbddoeoipaa Go.Proofs.Ytegcgbddoeoipaa.Flt Go.Proofs.Ytegcgbddoeoipaa.Mth Go.Proofs.Ytegcgbddoeoipaa.Cpx
set_option linter.unusedVariables false
theorem pos_ngt {k : FloatKind} {o : Option Nat} (h : pos k o = true) : ngt k o = false := by
  cases o with
  | none => cases h
  | some r =>
    simp only [pos, ngt] at *
    have := of_decide_eq_true h
    exact decide_eq_false (by omega)
theorem dif_turn (x y u v : Nat) : pos .f64 (dif x y u v) = ngt .f64 (dif u v x y) ∧ ngt .f64 (dif x y u v) = pos .f64 (dif u v x y) := by
  unfold dif
  rw [fo_mul_comm .f64 (can .f64 u) (can .f64 y), fo_mul_comm .f64 (can .f64 v) (can .f64 x)]
  exact ⟨sub_anti _ _ _, (sub_anti _ _ _).symm⟩
theorem side_turn (x y u v : Nat) : side x y u v = -side u v x y := by
  obtain ⟨h1, h2⟩ := dif_turn x y u v
  unfold side
  rw [h1, h2]
  cases h3 : pos .f64 (dif u v x y)
  · cases ngt .f64 (dif u v x y) <;> rfl
  · rw [pos_ngt h3]; rfl
theorem side_self (x y : Nat) : side x y x y = 0 := by
  have h1 := sub_self_pos (fo .mul .f64 (can .f64 x) (can .f64 y))
  have h2 := sub_self_ngt (fo .mul .f64 (can .f64 x) (can .f64 y))
  unfold side dif
  rw [fo_mul_comm .f64 (can .f64 y) (can .f64 x), h1, h2]; rfl
theorem side_one : side 4607182418800017408 0 0 4607182418800017408 = 1 := by decide +kernel
theorem nrm_neg (x : Nat) {y : Nat} (hy : y < 18446744073709551616) : nrm x (Op.negFloat .f64 y) = nrm x y := by
  unfold nrm; rw [fo_mul_neg .f64 (by rw [show FloatKind.f64.format = Ieee.double from rfl, width_double]; exact hy) (by rw [show FloatKind.f64.format = Ieee.double from rfl, width_double]; exact hy)]
theorem side_three (x y u v : Nat) : side x y u v = 1 ∨ side x y u v = -1 ∨ side x y u v = 0 := by
  unfold side
  split
  · exact .inl rfl
  · split
    · exact .inr (.inl rfl)
    · exact .inr (.inr rfl)
set_option maxHeartbeats 1600000 in
theorem walk (a : Option Addr) (len cap : Nat) (zs : List Int) (w : World) (hr : IsRow .u8 w a len cap zs) :
    Calls Try.prog 7 #[.slice a len cap] w fun x w' => x = .returned (.bool true) ∧ Below w.heap.size w w' := by
  by_cases hl : (len : Int) ≤ 1048576
  · go_enter Try.func7, Try.ntmps7
    go_wp2_with fail
    refine (Drw.big_no _ _ _ _ hl).mono ?_
    rintro e w' ⟨rfl, rfl⟩
    go_wp2_with fail
    refine (Drw.draw_side a len cap zs _ hr).mono ?_
    rintro e w1 ⟨x, y, u, v, ⟨wx, wy⟩, ⟨wu, wv⟩, rfl, hb1⟩
    have Hb1 := Lib.hid hb1
    clear hb1 hr
    go_wp2_with fail
    refine (norm_any x y _).mono ?_
    rintro e w2 ⟨n, n1, wn, cn, rfl, rfl⟩
    go_wp2_with fail
    refine (conj_any x y _).mono ?_
    rintro e w2 ⟨rfl, rfl⟩
    go_wp2_with fail
    refine (norm_any x (Op.negFloat .f64 y) _).mono ?_
    rintro e w2 ⟨m, m1, wm, cm, rfl, rfl⟩
    have hnm : can .f64 n = can .f64 m := by rw [cn, cm, nrm_neg x (lt_double wy)]
    have c1 := fun W => side_any x y u v W
    have c2 := fun W => side_any u v x y W
    have c3 := fun W => side_any x y x y W
    have c4 := fun W => side_any 4607182418800017408 0 0 4607182418800017408 W
    rw [side_self] at c3
    rw [side_one] at c4
    have ht := side_turn x y u v
    have h3 := side_three u v x y
    generalize side x y u v = S at c1 ht
    generalize side u v x y = T at c2 ht h3
    subst ht
    clear cn cm
    have en := eq64 n m
    have nn := ne64 n n
    have nm := ne64 m m
    rw [eqW_self, Bool.not_not] at nn nm
    cases hn : isNaN Ieee.double n
    · rw [can_num (k := .f64) hn] at hnm
      obtain ⟨rfl, _⟩ := can_some (k := .f64) hnm.symm
      rw [eqW_self, hn] at en
      clear nn nm hn hnm
      rcases h3 with rfl | rfl | rfl
      all_goals
        go_wp2_with (first
          | (go_at_call 27; (with_reducible refine (c1 _).mono ?_); rintro e w2 ⟨rfl, j, rfl⟩)
          | (go_at_call 27; (with_reducible refine (c2 _).mono ?_); rintro e w2 ⟨rfl, j, rfl⟩)
          | (go_at_call 27; (with_reducible refine (c3 _).mono ?_); rintro e w2 ⟨rfl, j, rfl⟩)
          | (go_at_call 27; (with_reducible refine (c4 _).mono ?_); rintro e w2 ⟨rfl, j, rfl⟩))
        go_ret
        exact ⟨rfl, below_drewN Hb1.out _⟩
    · rw [can_nan (k := .f64) hn] at hnm
      have hm := can_none (k := .f64) hnm.symm
      have hm' : isNaN Ieee.double m = true := hm
      rw [eqW_nan _ (by rw [hn]; rfl)] at en
      rw [hn] at nn
      rw [hm'] at nm
      clear hn hnm hm hm'
      rcases h3 with rfl | rfl | rfl
      all_goals
        go_wp2_with (first
          | (go_at_call 27; (with_reducible refine (c1 _).mono ?_); rintro e w2 ⟨rfl, j, rfl⟩)
          | (go_at_call 27; (with_reducible refine (c2 _).mono ?_); rintro e w2 ⟨rfl, j, rfl⟩)
          | (go_at_call 27; (with_reducible refine (c3 _).mono ?_); rintro e w2 ⟨rfl, j, rfl⟩)
          | (go_at_call 27; (with_reducible refine (c4 _).mono ?_); rintro e w2 ⟨rfl, j, rfl⟩))
        go_ret
        exact ⟨rfl, below_drewN Hb1.out _⟩
  · go_enter Try.func7, Try.ntmps7
    go_wp2_with fail
    refine (Drw.big_yes _ _ _ _ (by omega)).mono ?_
    rintro e w' ⟨rfl, rfl⟩
    go_wp2_with fail
    go_ret
    exact ⟨rfl, Below.refl _ _⟩
end Go.Proofs.Ytegcgbddoeoipaa.fnSides
