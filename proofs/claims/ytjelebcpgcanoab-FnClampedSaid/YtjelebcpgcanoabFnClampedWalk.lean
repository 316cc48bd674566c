/- The walk of FnClamped: it returns true. -/
import Derived.Test.YtjelebcpgcanoabRows
import Derived.Test.YtjelebcpgcanoabDrawN
import Derived.Test.YtjelebcpgcanoabFnExactClampWalk
namespace Go.Proofs.Ytjelebcpgcanoab.fnClamped
open Go.ChangeShapes Go.WideShapes Go.ChangeAt Go.RowKit Go.Proofs.Ytjelebcpgcanoab Go.Proofs.Ytjelebcpgcanoab.Drw
open Go.Proofs.Ytjelebcpgcanoab.fnExactClamp (clamped impl_any)
set_option linter.unusedVariables false
/-- three ints have been drawn -/
def ThreeOut (w : World) (e : Ending) (w' : World) : Prop := ∃ n a b : Int, e = .returned (.tuple #[.int .i64 n, .int .i64 a, .int .i64 b]) ∧ Below w.heap.size w w'
set_option maxHeartbeats 400000 in
theorem draw_any (a : Option Addr) (len cap : Nat) (zs : List Int) (w : World) (hr : IsRow .u8 w a len cap zs) :
    Calls Try.prog 17 #[.slice a len cap] w (ThreeOut w) := by
  go_enter Try.func17, Try.ntmps17
  go_wp2_with fail
  refine (new_any a len cap zs _ hr).mono ?_
  rintro e w1 ⟨rfl, hc, hb⟩
  have Hb := Lib.hid hb
  have B1 := Lib.hid hb.size
  clear hb hr
  go_wp2_with fail
  refine (once_any _ _ _ _ hc (by omega)).mono ?_
  rintro e w2 ⟨b, rfl, hc2, ho2⟩
  have Ho2 := Lib.hid ho2
  clear hc ho2
  cases b
  · go_wp2_with fail
    refine (below_any _ _ _ _ hc2 (by omega)).mono ?_
    rintro e w3 ⟨x, x0, x1, rfl, hc3, ho3⟩
    have Ho3 := Lib.hid (Ho2.out.trans ho3)
    clear hc2 ho3 x1
    go_wp2_with fail
    refine (below_any _ _ _ _ hc3 (by omega)).mono ?_
    rintro e w4 ⟨y, y0, y1, rfl, hc4, ho4⟩
    have Ho4 := Lib.hid (Ho3.out.trans ho4)
    clear hc3 ho4 y1
    go_wp2_with fail
    refine (below_any _ _ _ _ hc4 (by omega)).mono ?_
    rintro e w5 ⟨z, z0, z1, rfl, hc5, ho5⟩
    have Ho5 := Lib.hid (Ho4.out.trans ho5)
    clear hc4 ho5 z1 hc5
    go_wp2_with fail
    go_ret3
    exact ⟨_, _, _, rfl, Hb.out.trans (Ho5.out.below (Nat.le_refl _) B1.out)⟩
  · go_wp2_with fail
    refine (number_any _ _ _ hc2).mono ?_
    rintro e w3 ⟨x, rfl, hc3, ho3⟩
    have Ho3 := Lib.hid (Ho2.out.trans ho3)
    clear hc2 ho3
    go_wp2_with fail
    refine (number_any _ _ _ hc3).mono ?_
    rintro e w4 ⟨y, rfl, hc4, ho4⟩
    have Ho4 := Lib.hid (Ho3.out.trans ho4)
    clear hc3 ho4
    go_wp2_with fail
    refine (number_any _ _ _ hc4).mono ?_
    rintro e w5 ⟨z, rfl, hc5, ho5⟩
    have Ho5 := Lib.hid (Ho4.out.trans ho5)
    clear hc4 ho5 hc5
    go_wp2_with fail
    go_ret3
    exact ⟨_, _, _, rfl, Hb.out.trans (Ho5.out.below (Nat.le_refl _) B1.out)⟩
set_option maxHeartbeats 400000 in
theorem walk (a : Option Addr) (len cap : Nat) (zs : List Int) (w : World) (hr : IsRow .u8 w a len cap zs) :
    Calls Try.prog 7 #[.slice a len cap] w fun x w' => x = .returned (.bool true) ∧ Below w.heap.size w w' := by
  by_cases hl : (len : Int) ≤ 1048576
  · go_enter Try.func7, Try.ntmps7
    go_wp2_with fail
    refine (big_no _ _ _ _ hl).mono ?_
    rintro e w' ⟨rfl, rfl⟩
    go_wp2_with fail
    refine (draw_any a len cap zs _ hr).mono ?_
    rintro e w1 ⟨n, lo, hi, rfl, hb1⟩
    have Hb1 := Lib.hid hb1
    clear hb1 hr
    have h735 : clamped 7 3 5 = 5 := by decide
    go_wp2_with fail
    refine (impl_any n lo hi _).mono ?_
    rintro e w2 ⟨rfl, rfl⟩
    by_cases h : hi < lo
    · have hc : clamped n lo hi = lo := by unfold clamped; rw [if_pos h]
      go_wp2_with fail
      refine (impl_any 7 3 5 _).mono ?_
      rintro e w2 ⟨rfl, rfl⟩
      go_wp2_with fail
      go_ret
      exact ⟨rfl, Hb1.out⟩
    · have hlo : lo ≤ clamped n lo hi := by unfold clamped; rw [if_neg h]; split <;> (try split) <;> omega
      have hhi : clamped n lo hi ≤ hi := by unfold clamped; rw [if_neg h]; split <;> (try split) <;> omega
      have hcc : clamped (clamped n lo hi) lo hi = clamped n lo hi := by
        generalize clamped n lo hi = x at *
        unfold clamped; rw [if_neg h, if_neg (by omega), if_neg (by omega)]
      have Hcc := Lib.hid hcc
      clear hcc
      by_cases h1 : n < lo
      · go_wp2_with fail
        refine (impl_any _ lo hi _).mono ?_
        rintro e w2 ⟨rfl, rfl⟩
        rw [Hcc.out]
        go_wp2_with fail
        refine (impl_any 7 3 5 _).mono ?_
        rintro e w2 ⟨rfl, rfl⟩
        go_wp2_with fail
        go_ret
        exact ⟨rfl, Hb1.out⟩
      · by_cases h2 : hi < n
        · go_wp2_with fail
          refine (impl_any _ lo hi _).mono ?_
          rintro e w2 ⟨rfl, rfl⟩
          rw [Hcc.out]
          go_wp2_with fail
          refine (impl_any 7 3 5 _).mono ?_
          rintro e w2 ⟨rfl, rfl⟩
          go_wp2_with fail
          go_ret
          exact ⟨rfl, Hb1.out⟩
        · have hcn : clamped n lo hi = n := by unfold clamped; rw [if_neg h, if_neg h1, if_neg h2]
          go_wp2_with fail
          refine (impl_any _ lo hi _).mono ?_
          rintro e w2 ⟨rfl, rfl⟩
          go_wp2_with fail
          refine (impl_any 7 3 5 _).mono ?_
          rintro e w2 ⟨rfl, rfl⟩
          go_wp2_with fail
          go_ret
          exact ⟨rfl, Hb1.out⟩
  · go_enter Try.func7, Try.ntmps7
    go_wp2_with fail
    refine (big_yes _ _ _ _ (by omega)).mono ?_
    rintro e w' ⟨rfl, rfl⟩
    go_wp2_with fail
    go_ret
    exact ⟨rfl, Below.refl _ _⟩
end Go.Proofs.Ytjelebcpgcanoab.fnClamped
