/- The walk of FnQuantumBack: it returns true. -/
import Derived.Test.YtkjjeccgmeiniaaRows
import Derived.Test.YtkjjeccgmeiniaaQtmDr
namespace Go.Proofs.Ytkjjeccgmeiniaa.Qtm
open Go.RowKit Go.Proofs.Ytkjjeccgmeiniaa Go.Proofs.Ytkjjeccgmeiniaa.Flt Go.Proofs.Ytkjjeccgmeiniaa.Mth Go.Proofs.Ytkjjeccgmeiniaa.Drw
open Ieee (single double)
theorem qOut_fin {v x : Nat} (hx : rung single x < single.infRung) : qOut (v, true) x = sgnd (wv (qR (rung single x) (rung single v))) (sgn single x ^^ sgn single v) := by
  unfold qOut
  rw [if_pos ⟨rfl, hx⟩]
theorem sgnd_back {n : Int} {Q : Nat} (h : whole Q = some n.natAbs) : sgnd (wv Q) (decide (n < 0)) = (n, true) := by
  have e : wv Q = ((n.natAbs : Int), true) := by unfold wv; rw [h]
  rw [e]
  unfold sgnd
  clear h e
  by_cases hneg : n < 0
  · rw [decide_eq_true hneg, if_pos rfl]
    exact congrArg (fun z => (z, true)) (by omega)
  · rw [decide_eq_false hneg, if_neg Bool.false_ne_true]
    exact congrArg (fun z => (z, true)) (by omega)
theorem whole_back {n : Int} {v : Nat} (hn : n.natAbs ≤ 1000000) (hv : rung single v < single.infRung) (h0 : rung single v ≠ 0) (r1 : rung single (inU n v) = rr single (n.natAbs * mg single (rung single v)) 1) (r2 : rung single (inU n v) < single.infRung) :
    whole (qR (rung single (inU n v)) (rung single v)) = some n.natAbs := by
  have hp : 0 < mg single (rung single v) := Nat.pos_of_ne_zero fun e => h0 ((mg_eq_zero single).1 e)
  rw [qR_rr r2 hv h0, r1]
  exact back_num hn hp
theorem xor_back (a b : Bool) : (a ^^ b ^^ b) = a := by cases a <;> cases b <;> rfl
/-- so many units are so many units -/
theorem back_out {n : Int} {v : Nat} (hn : n.natAbs ≤ 1000000) (hv : rung single v < single.infRung) (h0 : rung single v ≠ 0) (hb : mg single (rung single v) ≤ 2 ^ 233) : qOut (v, true) (inU n v) = (n, true) := by
  obtain ⟨r1, r2, r3⟩ := inU_fin hn hv hb
  have hq := whole_back hn hv h0 r1 r2
  rw [qOut_fin r2, r3, xor_back]
  exact sgnd_back hq
theorem row_lt {w : World} {a : Option Addr} {len cap : Nat} {zs : List Int} (hr : IsRow .u8 w a len cap zs) : ∀ x, a = some x → 0 < cap → x.block < w.heap.size := by
  rintro x rfl hc
  rcases hr with ⟨e, _⟩ | ⟨y, e, h1, h2, h3, h4, h5⟩
  · cases e
  · cases e
    have h6 := h4 0 (by omega)
    have hlt := lt_of_cell h6
    simpa [Addr.add] using hlt
end Go.Proofs.Ytkjjeccgmeiniaa.Qtm
namespace Go.Proofs.Ytkjjeccgmeiniaa.fnQuantumBack
open Go.ChangeShapes Go.WideShapes Go.ChangeAt Go.RowKit Go.Proofs.Ytkjjeccgmeiniaa Go.Proofs.Ytkjjeccgmeiniaa.Flt Go.Proofs.Ytkjjeccgmeiniaa.Mth Go.Proofs.Ytkjjeccgmeiniaa.Drw Go.Proofs.Ytkjjeccgmeiniaa.Qtm
open Ieee (single double)
set_option linter.unusedVariables false
set_option linter.unusedSimpArgs false
set_option maxRecDepth 20000
set_option maxHeartbeats 1600000 in
theorem walk (a : Option Addr) (len cap : Nat) (zs : List Int) (w : World) (hr : IsRow .u8 w a len cap zs) :
    Calls Try.prog 3 #[.slice a len cap] w fun x w' => x = .returned (.bool true) ∧ Below w.heap.size w w' := by
  by_cases hl : (len : Int) ≤ 1048576
  · have ha := row_lt hr
    have hd := Lib.hid (drawUnit_any a len cap zs w hr ha)
    have hr2 := Lib.hid (fun w1 (h : Below w.heap.size w w1) => IsRow.below hr ha h)
    have Ha := Lib.hid ha
    clear ha hr
    go_enter Try.func3, Try.ntmps3
    go_wp2_with fail
    refine (Drw.big_no _ _ _ _ hl).mono ?_
    rintro e w' ⟨rfl, hw'⟩
    subst w'
    go_wp2_with fail
    refine hd.out.mono ?_
    rintro e w1 ⟨b, m, k, x, y, z, p, q, r, ⟨m1, m2, k1, k2⟩, _, rfl, hb1⟩
    obtain ⟨hu, v2, v3, v4⟩ := unit_drawn (b := b) m1 m2 k1 k2
    have v1 : rung single (single.word b (uRung m k)) = uRung m k := rung_word single b (Nat.lt_trans v2 (Ieee.Format.infRung_lt single))
    rw [← v1] at v2 v3 v4
    obtain ⟨s, hs⟩ : ∃ s, (if b = true then minus else plus) = s := ⟨_, rfl⟩
    rw [hs] at hu ⊢
    generalize single.word b (uRung m k) = v at *
    have hiu := fun W => impl_unit s m k W
    unfold UOut at hiu
    simp only [hu] at hiu
    have hin := fun (n : Int) W (h : n.natAbs ≤ 1000000) => impl_units s m k n v W hu h v2 v4
    have hq := fun x W => impl_quant s m k x W
    unfold QOut at hq
    simp only [hu] at hq
    have hback := Lib.hid (fun (n : Int) (h : n.natAbs ≤ 1000000) => back_out h v2 v3 v4)
    have hr1 := Lib.hid (hr2.out w1 hb1)
    have hs1 := hb1.size
    have HU := Lib.hid (show UB w1.heap.size s m k w (w1.alloc (.cells #[.string s, .int .i64 m, .int .i64 k] 25)) from ⟨hb1.alloc hb1.size _, Ub.new s m k w1 _⟩)
    clear hb1 v1 v2 v3 v4 hs hr2 m1 m2 k1 k2 hu hd
    unfold uv at *
    go_wp2_with fail
    have hr3 := IsRow.below hr1.out (fun x hx hc => Nat.lt_of_lt_of_le (Ha.out x hx hc) hs1) ((Below.refl _ _).alloc (Nat.le_refl _) (.cells #[.string s, .int .i64 m, .int .i64 k] 25))
    refine (drawN_any a len cap zs _ hr3 (row_lt hr3)).mono ?_
    rintro e w2 ⟨n, s', m', k', rfl, hb2⟩
    have H2 := Lib.hid (HU.out.next hb2)
    clear hb2 hr3 HU
    unfold uv at *
    have H3 := Lib.hid (H2.out.alloc (.cells #[.string s', .int .i64 m', .int .i64 k'] 25))
    obtain ⟨c0, c1, c2⟩ := H3.out.2
    clear H2
    by_cases n1 : 1000000 < n
    · go_wp2_with fail
      refine (hiu _).mono ?_
      rintro e w3 ⟨rfl, hb3⟩
      have H4 := Lib.hid (H3.out.next hb3)
      clear hb3
      go_wp2_with fail
      go_ret
      exact ⟨rfl, H4.out.1⟩
    · by_cases n2 : n < -1000000
      · go_wp2_with fail
        refine (hiu _).mono ?_
        rintro e w3 ⟨rfl, hb3⟩
        have H4 := Lib.hid (H3.out.next hb3)
        clear hb3
        go_wp2_with fail
        go_ret
        exact ⟨rfl, H4.out.1⟩
      · have hn : n.natAbs ≤ 1000000 := by omega
        have hbk := hback.out n hn
        have hin' := fun W => hin n W hn
        have hq' := fun W => hq (inU n v) W
        simp only [hbk] at hq'
        generalize inU n v = X at *
        clear hin hq hbk hback hn
        go_wp2_with fail
        refine (hin' _).mono ?_
        rintro e w3 ⟨rfl, hb3⟩
        have H4 := Lib.hid (H3.out.next hb3)
        clear hb3 c0 c1 c2
        obtain ⟨c0, c1, c2⟩ := H4.out.2
        go_wp2_with fail
        refine (hq' _).mono ?_
        rintro e w4 ⟨rfl, hb4⟩
        have H5 := Lib.hid (H4.out.next hb4)
        clear hb4
        go_wp2_with fail
        go_ret
        exact ⟨rfl, H5.out.1⟩
  · go_enter Try.func3, Try.ntmps3
    go_wp2_with fail
    refine (Drw.big_yes _ _ _ _ (by omega)).mono ?_
    rintro e w' ⟨rfl, hw'⟩
    subst w'
    go_wp2_with fail
    go_ret
    exact ⟨rfl, Below.refl _ _⟩
end Go.Proofs.Ytkjjeccgmeiniaa.fnQuantumBack
