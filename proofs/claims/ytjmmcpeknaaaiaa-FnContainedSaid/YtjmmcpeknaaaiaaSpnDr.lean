/- Several texts in one: PickQ, Mil, SpnJ, SpnT, SpnK, AvgE, AvgT, AvgL, SpnD. -/
import Derived.Test.YtjmmcpeknaaaiaaPick
import Derived.Test.YtjmmcpeknaaaiaaFltV
import Derived.Test.YtjmmcpeknaaaiaaFltX
import Derived.Test.YtjmmcpeknaaaiaaFltT
import Derived.Test.YtjmmcpeknaaaiaaMathZ
import Derived.Test.YtjmmcpeknaaaiaaSpnQ
import Derived.Test.YtjmmcpeknaaaiaaMake
import Derived.Test.YtjmmcpeknaaaiaaSpnI
import Derived.Test.YtjmmcpeknaaaiaaFltG
import Derived.Laws.FloatArith
import Derived.Test.YtjmmcpeknaaaiaaSpnB
import Derived.Test.YtjmmcpeknaaaiaaAvgP
import Derived.Test.YtjmmcpeknaaaiaaFlsN
import Derived.Test.YtjmmcpeknaaaiaaSpnE
/- Contracts of the model's draws of truth values, and of a number of a told kind out of a list. -/
namespace Go.Proofs.Ytjmmcpeknaaaiaa.Drw
open Go.ChangeShapes Go.WideShapes Go.ChangeAt Go.RowKit Go.Proofs.Ytjmmcpeknaaaiaa
set_option linter.unusedVariables false
/-- a truth value has been drawn -/
def OnceOut' (base B : Nat) (w : World) (e : Ending) (w' : World) : Prop := ∃ b : Bool, e = .returned (.bool b) ∧ Cur base w' B ∧ Only B w w'
theorem once_any' (base B : Nat) (n : Int) (w : World) (hc : Cur base w B) (hn : n ≤ 9223372036854775807) :
    Calls Try.prog 96 #[.pointer (some ⟨B, 0, none⟩), .int .i64 n] w (OnceOut' base B w) := by
  go_enter Try.func96, Try.ntmps96
  go_wp2_with fail
  refine (below_any base B _ _ hc hn).mono ?_
  rintro e w1 ⟨r, r0, r1, rfl, hc1, ho1⟩
  have Hc1 := Lib.hid hc1
  have Ho1 := Lib.hid ho1
  clear hc1 ho1 hc r1
  go_wp2_with fail
  go_ret
  exact ⟨_, rfl, Hc1.out, Ho1.out⟩
/-- some int of a kind has been picked -/
def PickQ (Q : Int → Prop) (base B : Nat) (w : World) (e : Ending) (w' : World) : Prop := ∃ r : Int, Q r ∧ e = .returned (.int .i64 r) ∧ Cur base w' B ∧ Only B w w'
theorem pick_q (Q : Int → Prop) (base B L n : Nat) (xs : Array Value) (T : TypeId) (w : World) (hc : Cur base w B) (hn : 0 < n) (hn' : n ≤ 1000000) (hL : w.heap[L]? = some (.cells xs T (0, 0))) (hne : L ≠ B)
    (hx : ∀ i, i < n → ∃ v : Int, xs[i]? = some (.int .i64 v) ∧ Q v) :
    Calls Try.prog 97 #[.pointer (some ⟨B, 0, none⟩), .slice (some ⟨L, 0, none⟩) n n] w (PickQ Q base B w) := by
  have Hx := Lib.hid hx
  have HL := Lib.hid hL
  have hlt := lt_of_block hL
  clear hx hL
  go_enter Try.func97, Try.ntmps97
  go_wp2_with fail
  refine (below_any base B _ _ hc (by omega)).mono ?_
  rintro e w1 ⟨r, r0, r1, rfl, hc1, ho1⟩
  obtain ⟨k, rfl⟩ := Int.eq_ofNat_of_zero_le r0
  have hk : k < n := by have := r1 (by omega); omega
  obtain ⟨v, hv, hq⟩ := Hx.out k hk
  have hcell : w1.cell? ⟨L, k, none⟩ = some (.int .i64 v) := by
    rw [ho1.cell (p := ⟨L, k, none⟩) hlt hne]; simp [World.cell?, HL.out, hv]
  have Hc1 := Lib.hid hc1
  have Ho1 := Lib.hid ho1
  have HQ := Lib.hid hq
  clear hc1 ho1 r1 hc hv hq
  go_wp2_with fail
  go_ret
  exact ⟨v, HQ.out, rfl, Hc1.out, Ho1.out⟩
end Go.Proofs.Ytjmmcpeknaaaiaa.Drw
/- The model's draw of a small single: finite. -/
namespace Go.Proofs.Ytjmmcpeknaaaiaa.Drw
open Go.ChangeShapes Go.WideShapes Go.ChangeAt Go.RowKit Go.Proofs.Ytjmmcpeknaaaiaa Go.Proofs.Ytjmmcpeknaaaiaa.Flt Go.Proofs.Ytjmmcpeknaaaiaa.Mth
open Ieee (single double)
set_option linter.unusedVariables false
/-! small numbers -/
theorem natRung_lt {c : Nat} (h : c ≤ 32767) : natRung c < single.infRung := by
  have := (natRung_mg h).2
  have e : single.infRung = 2139095040 := by decide
  omega
theorem natRung_ne {c : Nat} (h0 : 1 ≤ c) (h : c ≤ 32767) : natRung c ≠ 0 := fun e => by
  have h1 := (natRung_mg h).1
  rw [e, mg_zero] at h1
  have := P149_pos
  have : 0 < c * P149 := Nat.mul_pos h0 this
  omega
theorem ofInt_nat {c : Nat} (h : c ≤ 32767) : floatOfInt .f32 (c : Int) = natRung c := by
  rw [ofInt32, show decide ((c : Int) < 0) = false from decide_eq_false (by omega), Int.natAbs_natCast, word_false]; rfl
theorem ofInt_rung {n : Int} (h : n.natAbs ≤ 32767) : rung single (floatOfInt .f32 n) = natRung n.natAbs := by
  rw [ofInt32]
  have hl : min (rr single (n.natAbs * P149) 1) single.infRung ≤ single.infRung := Nat.min_le_right _ _
  exact rung_word single _ (Nat.lt_of_le_of_lt hl (inf_lt single))
theorem natRung_self {c : Nat} (h : c ≤ 32767) : rung single (natRung c) = natRung c := by
  have hl := (natRung_mg h).2
  exact pos_rung (r := natRung c) (by omega)
theorem mild_fin {n : Int} {y : Nat} (hn : n.natAbs ≤ 200) (h1 : 1 ≤ y) (h2 : y ≤ 16) : ∃ r, floatBits .quo .f32 (floatOfInt .f32 n) (floatOfInt .f32 (y : Int)) = some r ∧ r < 4294967296 ∧ rung single r < single.infRung := by
  rw [ofInt_nat (by omega)]
  have r1 := ofInt_rung (n := n) (by omega)
  have e2 := natRung_self (c := y) (by omega)
  have h := div_rr single (by decide) (x := floatOfInt .f32 n) (y := natRung y) (by rw [r1]; exact natRung_lt (by omega)) (by rw [e2]; exact natRung_lt (by omega)) (by rw [e2]; exact natRung_ne h1 (by omega))
  rw [r1, e2] at h
  have hle : quoRung single (natRung n.natAbs) (natRung y) ≤ natRung n.natAbs := by
    refine quo_le_of (natRung_ne h1 (by omega)) (t := natRung n.natAbs) ?_
    refine Nat.mul_le_mul_left _ ?_
    rw [(natRung_mg (show y ≤ 32767 by omega)).1]
    exact Nat.le_mul_of_pos_left _ h1
  have hlt := Nat.lt_of_le_of_lt hle (natRung_lt (show n.natAbs ≤ 32767 by omega))
  refine ⟨_, h, word_lt32 _ (Nat.lt_trans hlt (inf_lt single)), ?_⟩
  rw [rung_word single _ (Nat.lt_trans hlt (inf_lt single))]
  exact hlt
/-- a small number has been drawn -/
def MildF (base B : Nat) (w : World) (e : Ending) (w' : World) : Prop := ∃ r : Nat, (r < 4294967296 ∧ rung single r < single.infRung) ∧ e = .returned (.float .f32 r) ∧ Cur base w' B ∧ Only B w w'
theorem seven_q {Q : Int → Prop} {a b c d e f g : Int} (ha : Q a) (hb : Q b) (hc : Q c) (hd : Q d) (he : Q e) (hf : Q f) (hg : Q g) : ∀ i, i < 7 → ∃ v : Int, (#[Value.int .i64 a, .int .i64 b, .int .i64 c, .int .i64 d, .int .i64 e, .int .i64 f, .int .i64 g])[i]? = some (.int .i64 v) ∧ Q v
  | 0, _ => ⟨_, rfl, ha⟩ | 1, _ => ⟨_, rfl, hb⟩ | 2, _ => ⟨_, rfl, hc⟩ | 3, _ => ⟨_, rfl, hd⟩ | 4, _ => ⟨_, rfl, he⟩ | 5, _ => ⟨_, rfl, hf⟩ | 6, _ => ⟨_, rfl, hg⟩
  | n + 7, h => by omega
def Sml (m : Nat) (y : Int) : Prop := ∃ c : Nat, y = (c : Int) ∧ 1 ≤ c ∧ c ≤ m
set_option maxHeartbeats 800000 in
theorem mildF_any (base B : Nat) (w : World) (hc : Cur base w B) :
    Calls Try.prog 89 #[.pointer (some ⟨B, 0, none⟩)] w (MildF base B w) := by
  go_enter Try.func89, Try.ntmps89
  go_wp2_with fail
  refine (below_any base B _ _ hc (by omega)).mono ?_
  rintro e w1 ⟨r, r0, r1, rfl, hc1, ho1⟩
  have r2 := r1 (by omega)
  have Hc1 := Lib.hid hc1
  have Ho1 := Lib.hid ho1
  clear hc1 ho1 hc r1
  go_wp2_with fail
  have hlt := Hc1.out.lt
  refine (pick_q (Sml 16) base B w1.heap.size 7 _ _ _ (Hc1.out.alloc _) (by omega) (by omega) (block_new _ _) (by omega) (seven_q ⟨1, rfl, by omega, by omega⟩ ⟨1, rfl, by omega, by omega⟩ ⟨2, rfl, by omega, by omega⟩ ⟨4, rfl, by omega, by omega⟩ ⟨3, rfl, by omega, by omega⟩ ⟨10, rfl, by omega, by omega⟩ ⟨16, rfl, by omega, by omega⟩)).mono ?_
  rintro e w2 ⟨y, ⟨c, rfl, c1, c2⟩, rfl, hc2, ho2⟩
  have Hc2 := Lib.hid hc2
  have Ho2 := Lib.hid (((Ho1.out.alloc _)).trans ho2)
  clear hc2 ho2 hlt
  obtain ⟨u, k1, k2⟩ := mild_fin (n := r - 200) (y := c) (by omega) c1 c2
  have kq := fun W => run_float_arith (P := Try.prog) W .quo 24 .f32 _ _ _ k1
  have K2 := Lib.hid k2
  clear k1 k2
  go_wp2_with fail
  go_ret
  exact ⟨_, K2.out, rfl, Hc2.out, Ho2.out⟩
theorem wid_fin {x r : Nat} (hf : rung single x < single.infRung) (h : Wid x r) : r < 18446744073709551616 ∧ isFinD r = true := by
  have hn : isNaN single x = false := decide_eq_false (by omega)
  refine ⟨h.1, ?_⟩
  rw [h.2.2 hn, isFin_widen]
  exact decide_eq_true hf
end Go.Proofs.Ytjmmcpeknaaaiaa.Drw
/- Plain facts for the drawn spans: small numbers, sums, made singles, the next single of a small one. -/
namespace Go.Proofs.Ytjmmcpeknaaaiaa.Spn
open Go.RowKit Go.Proofs.Ytjmmcpeknaaaiaa.Flt Go.Proofs.Ytjmmcpeknaaaiaa.Drw
open Ieee (single double)
set_option linter.unusedVariables false
set_option linter.unusedSimpArgs false
/-- at most 2 to the power of 24 -/
def R24 : Nat := 1266679808
def S24 (x : Nat) : Prop := x < 4294967296 ∧ rung single x ≤ R24
theorem S24.sm {x : Nat} (h : S24 x) : Sm x := ⟨h.1, by have := h.2; unfold R24 at this; unfold R25; omega⟩
theorem r200 : natRung 200 ≤ R24 ∧ mg single R24 + mg single (natRung 200) ≤ mg single R25 := by decide +kernel
theorem natRung_le {c : Nat} (h : c ≤ 200) : natRung c ≤ natRung 200 := by
  rw [← mg_le_iff single, (natRung_mg (show c ≤ 32767 by omega)).1, (natRung_mg (show 200 ≤ 32767 by omega)).1]
  exact Nat.mul_le_mul_right _ h
/-- the quotient of two small whole numbers -/
theorem mild_sm {n : Int} {y : Nat} (hn : n.natAbs ≤ 200) (h1 : 1 ≤ y) (h2 : y ≤ 16) : ∃ r, floatBits .quo .f32 (floatOfInt .f32 n) (floatOfInt .f32 (y : Int)) = some r ∧ r < 4294967296 ∧ rung single r ≤ natRung 200 ∧ (0 ≤ n → sgn single r = false) := by
  rw [ofInt_nat (c := y) (by omega)]
  have r1 := ofInt_rung (n := n) (by omega)
  have e2 := natRung_self (c := y) (by omega)
  have h := div_rr single (by decide) (x := floatOfInt .f32 n) (y := natRung y) (by rw [r1]; exact natRung_lt (by omega)) (by rw [e2]; exact natRung_lt (by omega)) (by rw [e2]; exact natRung_ne h1 (by omega))
  rw [r1, e2] at h
  have hle : quoRung single (natRung n.natAbs) (natRung y) ≤ natRung n.natAbs := by
    refine quo_le_of (natRung_ne h1 (by omega)) (t := natRung n.natAbs) ?_
    refine Nat.mul_le_mul_left _ ?_
    rw [(natRung_mg (show y ≤ 32767 by omega)).1]
    exact Nat.le_mul_of_pos_left _ h1
  have hlt := Nat.lt_of_le_of_lt hle (natRung_lt (show n.natAbs ≤ 32767 by omega))
  have hw := Nat.lt_trans hlt (inf_lt single)
  refine ⟨_, h, word_lt32 _ hw, ?_, fun h0 => ?_⟩
  · rw [rung_word single _ hw]
    exact Nat.le_trans hle (natRung_le hn)
  · rw [sgn_word single _ hw]
    have s1 : sgn single (floatOfInt .f32 n) = false := by
      rw [ofInt32, show decide (n < 0) = false from decide_eq_false (by omega)]
      exact sgn_word single false (Nat.lt_of_le_of_lt (Nat.min_le_right _ _) (inf_lt single))
    have s2 : sgn single (natRung y) = false := by
      have hl := natRung_lt (show y ≤ 32767 by omega)
      have := inf_lt single
      unfold sgn
      rw [Nat.div_eq_of_lt (by omega)]; rfl
    rw [s1, s2]; rfl
/-- a small number and a small one that is not below 0 -/
theorem add_up {a q : Nat} (ha : S24 a) (hq : rung single q ≤ natRung 200) (hs : sgn single q = false) : ∃ r, floatBits .add .f32 a q = some r ∧ Sm r ∧ vW a ≤ vW r := by
  have hqi := natRung_lt (show 200 ≤ 32767 by omega)
  have haf := fnS_iff.1 ha.sm.fn
  obtain ⟨r, h1, h2, h3, h4, h5⟩ := add_val haf (show rung single q < single.infRung by omega)
  have ma := (mg_le_iff single).2 ha.2
  have mq := (mg_le_iff single).2 hq
  have hb : (sv single a + sv single q).natAbs ≤ mg single R25 := by
    have e1 := sv_abs single a
    have e2 := sv_abs single q
    have := r200.2
    omega
  have hr : rung single r ≤ R25 := by
    rw [h4]
    exact Nat.le_trans (Nat.min_le_left _ _) (rr_le single R25 Nat.one_pos (by rw [Nat.mul_one]; exact hb))
  refine ⟨r, h1, ⟨h2, hr⟩, ?_⟩
  rw [vW_le ha.sm.fn (Sm.fn ⟨h2, hr⟩), h5]
  have q0 : 0 ≤ sv single q := by unfold sv; rw [hs]; simp
  have := rnd_mono (show sv single a ≤ sv single a + sv single q by omega)
  rw [rnd_sv (Nat.le_of_lt haf)] at this
  exact this
theorem amount_A {c q : Nat} {e : Int} (hc : c < 9007199254740992) (hq : (q : Int) = 149 + e) (h0 : e ≤ -1) : Mks.amount (c : Int) e = A c q := by
  unfold Mks.amount
  rw [ofIntA hc]
  obtain ⟨k, hk⟩ : ∃ k : Nat, k = 149 := ⟨149, rfl⟩
  rw [← hk, scale_A hc (by omega) (by omega), show ((k : Int) + e).toNat = q by omega]
theorem made_of {s : ByteArray} {a x : Nat} (h : floatToFloatBits .f64 a .f32 = some x) : Mks.made s a = if eqW double (widen x) a = true then Sgd.out s x else (0, false) := by
  unfold Mks.made
  rw [h]
theorem z24 : S24 0 := ⟨by omega, by rw [rung_zero]; exact Nat.zero_le _⟩
theorem e24 : mg single R24 = 16777216 * 2 ^ 149 := by decide +kernel
theorem made_s24 {s : ByteArray} (hp : (s.toList == [43]) = true) {a R : Nat} (h : floatToFloatBits .f64 a .f32 = some R) (hR : R ≤ R24) : S24 (Mks.made s a).1 := by
  have hR' := hR
  unfold R24 at hR'
  rw [made_of h]
  cases eqW double (widen R) a
  · exact z24
  · rw [if_pos rfl]
    unfold Sgd.out
    rw [if_pos hp]
    exact ⟨by show R < _; omega, by show rung single R ≤ _; rw [pos_rung (by omega)]; exact hR⟩
/-- what is made of a sign +, a mantissa and a small exponent -/
theorem make_s24 {s : ByteArray} (hp : (s.toList == [43]) = true) {m e : Int} (h1 : 0 ≤ m) (h2 : m ≤ 16777215) (h3 : -60 ≤ e) (h4 : e ≤ -1) : S24 (Mks.out s m e).1 := by
  obtain ⟨c, rfl⟩ := Int.eq_ofNat_of_zero_le h1
  have hc : c ≤ 16777215 := by omega
  obtain ⟨q, hq⟩ : ∃ q : Nat, (q : Int) = 149 + e := ⟨(149 + e).toNat, by omega⟩
  obtain ⟨R, hR⟩ := mg_surj single q c (by rw [binade_single]; omega)
  have hRle : R ≤ R24 := by
    rw [← mg_le_iff single, hR, e24]
    exact Nat.mul_le_mul (by omega) (Nat.pow_le_pow_right (by omega) (by omega))
  have hRi : R < single.infRung := by unfold R24 at hRle; rw [inf_single]; omega
  obtain ⟨_, _, h⟩ := made_nrw (s := c) (q := q) (by omega) (by omega) hRi hR
  unfold Mks.out
  rw [if_pos ⟨h1, h2, by omega, by omega⟩, amount_A (by omega) hq h4]
  exact made_s24 hp h hRle
/-- the next one of a small single -/
theorem nu_sm {x : Nat} (h : S24 x) : Sm (nuW x) ∧ vW x ≤ vW (nuW x) := by
  have hf := fnS_iff.1 h.sm.fn
  have hxi : ¬ (sgn single x = false ∧ rung single x = single.infRung) := fun e => by omega
  obtain ⟨u1, u2, u3, _⟩ := nu_facts (fn_num h.sm.fn) hxi
  have h2 := h.2
  unfold R24 at h2
  have hsw := sw_single
  have hr : rung single (nuW x) ≤ R25 := by
    unfold R25 nuW
    cases hs : sgn single x
    · rw [if_pos rfl, if_neg (by omega), rung_word single _ (by omega)]; omega
    · rw [if_neg (by simp)]
      by_cases c0 : rung single x = 0
      · rw [if_pos c0, rung_word single _ (by omega)]; omega
      · by_cases c1 : rung single x = 1
        · rw [if_neg c0, if_pos c1, rung_zero]; omega
        · rw [if_neg c0, if_neg c1, rung_word single _ (by omega)]; omega
  have hS : Sm (nuW x) := ⟨u2, hr⟩
  refine ⟨hS, ?_⟩
  rw [vW_le h.sm.fn hS.fn]
  omega
end Go.Proofs.Ytjmmcpeknaaaiaa.Spn
/- The next single in the model: l07Parts, l07Made, NextUp of a finite single whose next one is finite. -/
namespace Go.Proofs.Ytjmmcpeknaaaiaa.Spn
open Go.ChangeShapes Go.WideShapes Go.ChangeAt Go.RowKit Go.Deep Go.Proofs.Ytjmmcpeknaaaiaa Go.Proofs.Ytjmmcpeknaaaiaa.Flt Go.Proofs.Ytjmmcpeknaaaiaa.Mth
open Ieee (single double)
set_option linter.unusedVariables false
set_option linter.unusedSimpArgs false
set_option maxRecDepth 20000
theorem c24 : mg Ieee.double 4715268809856909312 = 2 ^ (W + 173) := mg_const (by decide) (by decide) (by decide)
theorem c23 : mg Ieee.double 4710765210229538816 = 2 ^ (W + 172) := mg_const (by decide) (by decide) (by decide)
theorem pw (s p : Nat) (h : s < 16777216) (hp : p ≤ 148) : s * 2 ^ p < 2 ^ 172 := by
  have h1 : 2 ^ p ≤ 2 ^ 148 := Nat.pow_le_pow_right (by omega) hp
  calc s * 2 ^ p ≤ s * 2 ^ 148 := Nat.mul_le_mul_left _ h1
    _ < 16777216 * 2 ^ 148 := Nat.mul_lt_mul_of_pos_right h (Nat.two_pow_pos _)
    _ = 2 ^ 172 := by decide
theorem pw' (s p : Nat) (h : s < 16777216) (hp : p ≤ 149) : s * 2 ^ p < 2 ^ 173 := by
  have h1 : 2 ^ p ≤ 2 ^ 149 := Nat.pow_le_pow_right (by omega) hp
  calc s * 2 ^ p ≤ s * 2 ^ 149 := Nat.mul_le_mul_left _ h1
    _ < 16777216 * 2 ^ 149 := Nat.mul_lt_mul_of_pos_right h (Nat.two_pow_pos _)
    _ = 2 ^ 173 := by decide
theorem pg (s p : Nat) (h : 8388608 ≤ s) (hp : 150 ≤ p) : 2 ^ 173 ≤ s * 2 ^ p := by
  have h1 : 2 ^ 150 ≤ 2 ^ p := Nat.pow_le_pow_right (by omega) hp
  calc 2 ^ 173 = 8388608 * 2 ^ 150 := by decide
    _ ≤ s * 2 ^ 150 := Nat.mul_le_mul_right _ h
    _ ≤ s * 2 ^ p := Nat.mul_le_mul_left _ h1
theorem pg' (s : Nat) (h : 8388608 ≤ s) : 2 ^ 172 ≤ s * 2 ^ 149 := by
  calc 2 ^ 172 = 8388608 * 2 ^ 149 := by decide
    _ ≤ s * 2 ^ 149 := Nat.mul_le_mul_right _ h
/-- the tests of the two loops -/
theorem t24 (s p : Nat) (h : s < 16777216) (hp : p ≤ 400) : (FloatKind.f64.format.order (A s p) 4715268809856909312 == some .gt || FloatKind.f64.format.order (A s p) 4715268809856909312 == some .eq) = decide (2 ^ 173 ≤ s * 2 ^ p) := by
  have := A_cmp (m := s) (q := p) (n := 173) (by omega) (by omega) (show 4715268809856909312 < 9218868437227405312 by decide) c24
  rw [gt64, eq64, this.2.1, this.2.2, Bool.eq_iff_iff]
  generalize s * 2 ^ p = u
  generalize 2 ^ 173 = v
  simp
  omega
theorem t23 (s p : Nat) (h : s < 16777216) (hp : p ≤ 400) : (FloatKind.f64.format.order (A s p) 4710765210229538816 == some .lt) = decide (s * 2 ^ p < 2 ^ 172) := by
  have := A_cmp (m := s) (q := p) (n := 172) (by omega) (by omega) (show 4710765210229538816 < 9218868437227405312 by decide) c23
  rw [lt64]; exact this.1
theorem run_up {m p : Nat} (hm : m < 9007199254740992) (hp : p + 1 ≤ 1000) (w : World) : (binOp .mul 28 (.float .f64 (A m p)) (.float .f64 4611686018427387904)).run Try.prog w = .ok (.float .f64 (A m (p + 1))) w := by
  have h := (mul2_bits (nan_A (m := m) (q := p) hm (by omega))).1
  rw [mul2_A hm hp] at h
  exact run_float_arith (P := Try.prog) w .mul 28 .f64 _ _ _ h
theorem run_dn {m p : Nat} (hm : m < 9007199254740992) (hp : p + 1 ≤ 1000) (w : World) : (binOp .quo 28 (.float .f64 (A m (p + 1))) (.float .f64 4611686018427387904)).run Try.prog w = .ok (.float .f64 (A m p)) w := by
  have h := (div2_bits (nan_A (m := m) (q := p + 1) hm (by omega))).1
  rw [div2_A hm hp] at h
  exact run_float_arith (P := Try.prog) w .quo 28 .f64 _ _ _ h
theorem run_ofint {m : Nat} (hm : m < 9007199254740992) (w : World) : (convert 3 28 (.int .i64 (m : Int))).run Try.prog w = .ok (.float .f64 (A m 149)) w := by
  have h : (convert 3 28 (.int .i64 (m : Int))).run Try.prog w = .ok (.float .f64 (floatOfInt .f64 (m : Int))) w := by
    simp [convert, run_underlying Try.underlying3, run_underlying Try.underlying28, Conv.intToFloat]
    rfl
  rw [h, ofIntA hm]
set_option maxHeartbeats 800000 in
theorem made_any (m q R : Nat) (w : World) (hm : m ≤ 16777216) (hq : q ≤ 300) (hR : R < single.infRung) (h : mg single R = m * 2 ^ q) :
    Calls Try.prog 80 #[.int .i64 (m : Int), .int .i64 ((q : Int) - 149)] w fun e w' => e = .returned (.float .f32 R) ∧ w' = w := by
  obtain ⟨n1, n2, n3⟩ := made_nrw hm hq hR h
  have kn := run_convert_float_float (P := Try.prog) w 28 24 .f64 .f32 _ _ (by rw [Try.underlying28]; rfl) Try.underlying24 n3
  have Kn := Lib.hid kn
  have ki := run_ofint (m := m) (by omega)
  have ku := Lib.hid (fun p hp w => run_up (m := m) (p := p) (by omega) hp w)
  have kd := Lib.hid (fun p hp w => run_dn (m := m) (p := p) (by omega) hp w)
  clear n1 n2 n3 h hR kn
  obtain ⟨E, hE⟩ : ∃ E : Int, E = (q : Int) - 149 := ⟨_, rfl⟩
  rw [← hE]
  have He := Lib.hid hE
  have hE1 : E ≤ 151 := by omega
  have hE2 : -149 ≤ E := by omega
  clear hE
  go_enter Try.func80, Try.ntmps80
  go_wp2_with fail
  go_loop [5, 6] (fun av kv => ∃ k : Nat, (k : Int) ≤ max E 0 ∧ kv = .int .i64 k ∧ av = .float .f64 (A m (149 + k))) (fun _ kv => (E - intOf kv).toNat)
  case atStart => exact ⟨0, by omega, rfl, rfl⟩
  case round =>
    obtain ⟨k, hk, rfl, rfl⟩ := hrel
    by_cases hlt : (k : Int) < E
    · have hmul := ku.out (149 + k) (by omega) w
      go_wp2_with fail
      go_round
      case rel => exact ⟨k + 1, by omega, by go_num, rfl⟩
      case measure => simp [intOf]; omega
    · have Hke := Lib.hid (show k = E.toNat by omega)
      have hkk : k ≤ 151 := by omega
      clear hk
      go_wp2_with fail
      go_loop [5, 7] (fun av kv => ∃ j : Nat, (j : Int) ≤ max (-E) 0 ∧ kv = .int .i64 (-(j : Int)) ∧ av = .float .f64 (A m (149 + k - j))) (fun _ kv => (intOf kv - E).toNat)
      case atStart => exact ⟨0, by omega, rfl, rfl⟩
      case round =>
        obtain ⟨j, hj, rfl, rfl⟩ := hrel
        by_cases hlt2 : E < -(j : Int)
        · have hj1 : 1 ≤ 149 + k - j := by omega
          have hdiv := kd.out (149 + k - j - 1) (by omega) w
          rw [show 149 + k - j - 1 + 1 = 149 + k - j by omega] at hdiv
          have hs : 149 + k - j - 1 = 149 + k - (j + 1) := by omega
          rw [hs] at hdiv
          clear hs
          go_wp2_with fail
          go_round
          case rel => exact ⟨j + 1, by omega, by congr 1; omega, rfl⟩
          case measure => simp [intOf]; omega
        · have hqq : 149 + k - j = q := by have := He.out; have := Hke.out; omega
          have kn := Kn.out
          rw [hqq]
          clear hqq hj
          generalize A m q = v at *
          go_wp2_with fail
          go_ret
          exact ⟨rfl, rfl⟩
set_option maxHeartbeats 800000 in
theorem parts_any (s q : Nat) (w : World) (hs : s < 16777216) (hq : q ≤ 253) (hge : 0 < q → 8388608 ≤ s) :
    Calls Try.prog 81 #[.float .f64 (A s q)] w fun e w' => e = .returned (.tuple #[.int .i64 (s : Int), .int .i64 ((q : Int) - 149)]) ∧ w' = w := by
  have ku := Lib.hid (fun p hp w => run_up (m := s) (p := p) (by omega) hp w)
  have kd := Lib.hid (fun p hp w => run_dn (m := s) (p := p) (by omega) hp w)
  have kc := Lib.hid (run_convert_float_int (P := Try.prog) w 28 3 .f64 .i64 _ _ (by rw [Try.underlying28]; rfl) Try.underlying3 (toInt_A (m := s) (by omega)))
  have T24 := Lib.hid (fun p hp => t24 s p hs hp)
  have T23 := Lib.hid (fun p hp => t23 s p hs hp)
  have Pw := Lib.hid (fun p hp => pw s p hs hp)
  have Pw' := Lib.hid (fun p hp => pw' s p hs hp)
  have Pg := Lib.hid (fun p hp => fun h : 8388608 ≤ s => pg s p h hp)
  have Pg' := Lib.hid (fun h : 8388608 ≤ s => pg' s h)
  have Hge := Lib.hid hge
  clear hge
  go_enter Try.func81, Try.ntmps81
  go_wp2_with fail
  go_loop [0, 4] (fun av kv => ∃ k : Nat, k ≤ q - 149 ∧ kv = .int .i64 k ∧ av = .float .f64 (A s (q - k))) (fun _ kv => (q - (intOf kv).toNat))
  case atStart => exact ⟨0, Nat.zero_le _, rfl, rfl⟩
  case round =>
    obtain ⟨k, hk, rfl, rfl⟩ := hrel
    have ht := T24.out (q - k) (by omega)
    by_cases hlt : 150 ≤ q - k
    · rw [decide_eq_true (Pg.out (q - k) hlt (Hge.out (by omega)))] at ht
      have hdiv := kd.out (q - (k + 1)) (by omega) w
      rw [show q - (k + 1) + 1 = q - k by omega] at hdiv
      go_wp2_with fail
      go_round
      case rel => exact ⟨k + 1, by omega, by go_num, rfl⟩
      case measure => simp [intOf]; omega
    · rw [decide_eq_false (by have := Pw'.out (q - k) (by omega); omega)] at ht
      have Hk := Lib.hid (show q - k = min q 149 ∧ (k : Int) = (q : Int) - ((min q 149 : Nat) : Int) by omega)
      go_wp2_with fail
      clear ht
      go_loop [0, 4] (fun av kv => ∃ p : Nat, p ≤ 149 ∧ kv = .int .i64 ((q : Int) - (p : Int)) ∧ av = .float .f64 (A s p)) (fun _ kv => (149 - ((q : Int) - intOf kv)).toNat)
      case atStart => exact ⟨min q 149, by omega, by rw [Hk.out.2], by rw [Hk.out.1]⟩
      case round =>
        obtain ⟨p, hp, rfl, rfl⟩ := hrel
        have ht := T23.out p (by omega)
        by_cases hlt2 : p ≤ 148
        · rw [decide_eq_true (Pw.out p hlt2)] at ht
          have hmul := ku.out p (by omega) w
          have he : (-149 : Int) < (q : Int) - (p : Int) := by omega
          go_wp2_with fail
          go_round
          case rel => exact ⟨p + 1, by omega, by congr 1; omega, rfl⟩
          case measure => simp [intOf]; omega
        · obtain rfl : p = 149 := by omega
          have kc := kc.out
          generalize A s 149 = v at *
          by_cases h0 : 0 < q
          · rw [decide_eq_false (by have := Pg'.out (Hge.out h0); omega)] at ht
            go_wp2_with fail
            go_ret2
            exact ⟨rfl, rfl⟩
          · have he : ¬ (-149 : Int) < (q : Int) - ((149 : Nat) : Int) := by omega
            cases hb : decide (s * 2 ^ 149 < 2 ^ 172)
            all_goals
              rw [hb] at ht
              clear hb
              go_wp2_with fail
              go_ret2
              exact ⟨rfl, rfl⟩
/-- of a finite single whose next one is finite the model's NextUp gives the next one -/
theorem inf_quo (w : World) : (binOp .quo 24 (.float .f32 1065353216) (.float .f32 0)).run Try.prog w = .ok (.float .f32 2139095040) w :=
  run_float_arith (P := Try.prog) w .quo 24 .f32 _ _ _ (by decide +kernel)
theorem ninf_quo (w : World) : (binOp .quo 24 (.float .f32 3212836864) (.float .f32 0)).run Try.prog w = .ok (.float .f32 4286578688) w :=
  run_float_arith (P := Try.prog) w .quo 24 .f32 _ _ _ (by decide +kernel)
theorem mg1 : mg single 1 = 1 * 2 ^ 0 := by decide
theorem fin_ne {x y : Nat} (hx : fnS x = true) (hy : rung single y = single.infRung) : (FloatKind.f32.format.order x y == some .eq) = false := by
  rw [eq32]
  unfold eqW
  have h1 := (mg_lt_iff single).2 (fnS_iff.1 hx)
  have e : sv single x ≠ sv single y := by
    rcases sv_cases x with ⟨_, e1⟩ | ⟨_, e1⟩ <;> rcases sv_cases y with ⟨_, e2⟩ | ⟨_, e2⟩ <;> rw [hy] at e2 <;> omega
  rw [decide_eq_false e, Bool.and_false]
theorem ord_gt {x : Nat} (hx : isNaN single x = false) (h0 : rung single x ≠ 0) : (FloatKind.f32.format.order x 0 == some .gt) = !sgn single x := by
  rw [gt32]
  unfold ltW
  rw [hx, nan_zero, sv_zero]
  have mp : 0 < mg single (rung single x) := Nat.pos_of_ne_zero fun e => h0 ((mg_eq_zero single).1 e)
  rcases sv_cases x with ⟨hs, e⟩ | ⟨hs, e⟩
  · rw [e, hs]
    simp only [Bool.not_false, Bool.true_and]
    exact decide_eq_true (by omega)
  · rw [e, hs]
    simp only [Bool.not_false, Bool.true_and, Bool.not_true]
    exact decide_eq_false (by omega)
theorem run_wid' {x : Nat} (h : isNaN single x = false) (w : World) : (convert 24 28 (.float .f32 x)).run Try.prog w = .ok (.float .f64 (widen x)) w :=
  run_widen (P := Try.prog) 24 28 x (by rw [Try.underlying24]; rfl) Try.underlying28 h w
set_option maxHeartbeats 1600000 in
theorem spec_next (x : Nat) (w : World) (wx : x < 4294967296) (hx : fnS x = true) (hy : fnS (nuW x) = true) :
    Calls Try.prog 41 #[.float .f32 x] w fun e w' => e = .returned (.float .f32 (nuW x)) ∧ w' = w := by
  have nx := fn_num hx
  have hr := fnS_iff.1 hx
  have q1 := inf_quo
  have q2 := ninf_quo
  have hself : (FloatKind.f32.format.order x x != some .eq) = false := by rw [ne32, eqW_self, nx]; rfl
  have o1 : (FloatKind.f32.format.order x 2139095040 == some .eq) = false := fin_ne hx (by decide)
  have o2 : (FloatKind.f32.format.order x 4286578688 == some .eq) = false := fin_ne hx (by decide)
  have oz : (FloatKind.f32.format.order x 0 == some .eq) = decide (rung single x = 0) := by rw [eq32, eqW_zero _ nx]
  by_cases h0 : rung single x = 0
  · rw [decide_eq_true h0] at oz
    have en : nuW x = 1 := by
      unfold nuW
      rw [h0]
      cases hs : sgn single x
      · rw [if_pos rfl, if_neg (by rw [inf_single]; omega)]; rfl
      · rw [if_neg (by simp), if_pos rfl]; rfl
    rw [en]
    have hm := fun w => made_any 1 0 1 w (by omega) (by omega) (by rw [inf_single]; omega) mg1
    rw [show ((0 : Nat) : Int) - 149 = -149 from rfl, show ((1 : Nat) : Int) = 1 from rfl] at hm
    clear h0 en hx hy nx hr wx
    go_enter Try.func41, Try.ntmps41
    go_wp2_with fail
    refine (hm _).mono ?_
    rintro e w9 ⟨rfl, hw9⟩
    subst w9
    go_wp2_with fail
    go_ret
    exact ⟨rfl, rfl⟩
  · rw [decide_eq_false h0] at oz
    have hxi : ¬ (sgn single x = false ∧ rung single x = single.infRung) := fun e => by omega
    have og := (ord_gt nx h0)
    have hs24 := ss_single (rung single x)
    have hq := qq_lt_single hr
    have hge := fun h => ss_single_ge (r := rung single x) h
    have hw : rung single x < single.signWeight := Nat.lt_trans hr (inf_lt single)
    cases hs : sgn single x
    · rw [hs, Bool.not_false] at og
      have en : nuW x = rung single x + 1 := by unfold nuW; rw [if_pos hs, if_neg (by omega)]; rfl
      have hlt : rung single x + 1 < single.infRung := by
        have h := fnS_iff.1 hy
        rw [en] at h
        have : rung single (rung single x + 1) = rung single x + 1 := by
          have h2 := inf_lt single
          unfold rung at *
          exact Nat.mod_eq_of_lt (by omega)
        omega
      rw [en]
      have hp := fun w => parts_any (ss single (rung single x)) (qq single (rung single x)) w hs24 hq hge
      have hm := fun w => made_any (ss single (rung single x) + 1) (qq single (rung single x)) (rung single x + 1) w (by omega) (by omega) hlt (mg_next _)
      have kw := run_wid' nx
      have ew : widen x = A (ss single (rung single x)) (qq single (rung single x)) := by rw [widen_A hr, hs]; rfl
      rw [ew] at kw
      clear h0 en hx hy nx hr wx hxi hge hw hs hlt ew hq
      generalize A (ss single (rung single x)) (qq single (rung single x)) = v at *
      generalize ss single (rung single x) = s at *
      generalize qq single (rung single x) = q at *
      generalize rung single x + 1 = R at *
      go_enter Try.func41, Try.ntmps41
      go_wp2_with fail
      refine (hp _).mono ?_
      rintro e w9 ⟨rfl, hw9⟩
      subst w9
      go_wp2_with fail
      refine (hm _).mono ?_
      rintro e w9 ⟨rfl, hw9⟩
      subst w9
      go_wp2_with fail
      go_ret
      exact ⟨rfl, rfl⟩
    · rw [hs, Bool.not_true] at og
      have h1r : 1 ≤ rung single x := by omega
      obtain ⟨p1, p2, p3, p4⟩ := mg_prev h1r
      have wn := ng_lt wx
      have nn : isNaN single (Op.negFloat .f32 x) = false := by rw [ng_num wx]; exact nx
      have rn := ng_rung wx
      have sn := ng_sgn wx
      rw [hs, Bool.not_true] at sn
      have kw := run_wid' nn
      have ew : widen (Op.negFloat .f32 x) = A (ss single (rung single x)) (qq single (rung single x)) := by
        rw [widen_A (by rw [rn]; exact hr), sn, rn]; rfl
      rw [ew] at kw
      have hp := fun w => parts_any (ss single (rung single x)) (qq single (rung single x)) w hs24 hq hge
      have hs' : ¬ sgn single x = false := by rw [hs]; simp
      by_cases c1 : rung single x = 1
      · have en : nuW x = 0 := by unfold nuW; rw [if_neg hs', if_neg h0, if_pos c1]
        rw [en]
        have e1 : ss single (rung single x) = 1 := by rw [c1]; decide
        rw [e1] at hp kw
        generalize qq single (rung single x) = q at *
        generalize A 1 q = v at *
        have hp' : ∀ w, Calls Try.prog 81 #[.float .f64 v] w fun e w' => e = .returned (.tuple #[.int .i64 1, .int .i64 ((q : Int) - 149)]) ∧ w' = w := hp
        clear h0 en hx hy nx hr wx hxi hge hw hs ew hq hs24 hs' c1 p1 p2 p3 p4 wn nn rn sn e1 h1r hp
        go_enter Try.func41, Try.ntmps41
        go_wp2_with fail
        refine (hp' _).mono ?_
        rintro e w9 ⟨rfl, hw9⟩
        subst w9
        go_wp2_with fail
        go_ret
        exact ⟨rfl, rfl⟩
      · have en : nuW x = single.word true (rung single x - 1) := by unfold nuW; rw [if_neg hs', if_neg h0, if_neg c1]
        have hd1 : dnS (rung single x) ≠ 1 := fun e => c1 (p2.1 e)
        have hqd : dnQ (rung single x) ≤ 300 := by unfold dnQ; split <;> omega
        have hm := fun w => made_any (dnS (rung single x) - 1) (dnQ (rung single x)) (rung single x - 1) w (by omega) hqd (by omega) p1
        have eng : Op.negFloat .f32 (rung single x - 1) = single.word true (rung single x - 1) := by
          have := ng_word false (q := rung single x - 1) (by omega)
          exact this
        rw [en, ← eng]
        have Hd := Lib.hid (And.intro hd1 p3)
        have edS : dnS (rung single x) = if ss single (rung single x) = 8388608 ∧ 0 < qq single (rung single x) then 16777216 else ss single (rung single x) := rfl
        have edQ : dnQ (rung single x) = if ss single (rung single x) = 8388608 ∧ 0 < qq single (rung single x) then qq single (rung single x) - 1 else qq single (rung single x) := rfl
        generalize dnS (rung single x) = S at *
        generalize dnQ (rung single x) = Q at *
        clear en eng p1 p2 p3 p4 hd1 hqd hx hy nx hr wx hxi hw hs ew hs' c1 wn nn rn sn h1r
        generalize A (ss single (rung single x)) (qq single (rung single x)) = v at *
        generalize rung single x - 1 = R at *
        generalize ss single (rung single x) = s at *
        generalize qq single (rung single x) = q at *
        by_cases c2 : s = 8388608 ∧ 0 < q
        · rw [if_pos c2] at edS edQ
          obtain ⟨c2, c3⟩ := c2
          subst edS edQ
          have c4 : (-149 : Int) < (q : Int) - 149 := by omega
          have hm' : ∀ w, Calls Try.prog 80 #[.int .i64 16777215, .int .i64 ((q : Int) - 149 - 1)] w fun e w' => e = .returned (.float .f32 R) ∧ w' = w := by
            intro w
            have h := hm w
            rw [show ((q - 1 : Nat) : Int) - 149 = (q : Int) - 149 - 1 by omega] at h
            exact h
          have hp' : ∀ w, Calls Try.prog 81 #[.float .f64 v] w fun e w' => e = .returned (.tuple #[.int .i64 8388608, .int .i64 ((q : Int) - 149)]) ∧ w' = w := by
            intro w
            have h := hp w
            rw [c2] at h
            exact h
          clear hm hp h0 hge hs24 c2 c3
          go_enter Try.func41, Try.ntmps41
          go_wp2_with fail
          refine (hp' _).mono ?_
          rintro e w9 ⟨rfl, hw9⟩
          subst w9
          go_wp2_with fail
          refine (hm' _).mono ?_
          rintro e w9 ⟨rfl, hw9⟩
          subst w9
          go_wp2_with fail
          go_ret
          exact ⟨rfl, rfl⟩
        · rw [if_neg c2] at edS edQ
          subst edS edQ
          have c5 : ¬ (S : Int) = 1 := by have := Hd.out.1; omega
          have hm' : ∀ w, Calls Try.prog 80 #[.int .i64 ((S : Int) - 1), .int .i64 ((Q : Int) - 149)] w fun e w' => e = .returned (.float .f32 R) ∧ w' = w := by
            intro w
            have h := hm w
            rw [show ((S - 1 : Nat) : Int) = (S : Int) - 1 by have := Hd.out.2; omega] at h
            exact h
          by_cases c6 : (S : Int) = 8388608
          · have c7 : ¬ (-149 : Int) < (Q : Int) - 149 := by omega
            have c8 : S = 8388608 := by omega
            have hm2 : ∀ w, Calls Try.prog 80 #[.int .i64 8388607, .int .i64 ((Q : Int) - 149)] w fun e w' => e = .returned (.float .f32 R) ∧ w' = w := by
              intro w
              have h := hm' w
              rw [c8] at h
              exact h
            have hp2 : ∀ w, Calls Try.prog 81 #[.float .f64 v] w fun e w' => e = .returned (.tuple #[.int .i64 8388608, .int .i64 ((Q : Int) - 149)]) ∧ w' = w := by
              intro w
              have h := hp w
              rw [c8] at h
              exact h
            clear hm hm' hp h0 hge c2 c6 c8 c5 hs24 Hd
            go_enter Try.func41, Try.ntmps41
            go_wp2_with fail
            refine (hp2 _).mono ?_
            rintro e w9 ⟨rfl, hw9⟩
            subst w9
            go_wp2_with fail
            refine (hm2 _).mono ?_
            rintro e w9 ⟨rfl, hw9⟩
            subst w9
            go_wp2_with fail
            go_ret
            exact ⟨rfl, rfl⟩
          · clear hm h0 hge c2
            go_enter Try.func41, Try.ntmps41
            go_wp2_with fail
            refine (hp _).mono ?_
            rintro e w9 ⟨rfl, hw9⟩
            subst w9
            go_wp2_with fail
            refine (hm' _).mono ?_
            rintro e w9 ⟨rfl, hw9⟩
            subst w9
            go_wp2_with fail
            go_ret
            exact ⟨rfl, rfl⟩
end Go.Proofs.Ytjmmcpeknaaaiaa.Spn
/- The model's draw of a span: valid, of small ends. -/
namespace Go.Proofs.Ytjmmcpeknaaaiaa.Spn
open Go.ChangeShapes Go.WideShapes Go.ChangeAt Go.RowKit Go.Deep Go.Proofs.Ytjmmcpeknaaaiaa Go.Proofs.Ytjmmcpeknaaaiaa.Flt Go.Proofs.Ytjmmcpeknaaaiaa.Mth Go.Proofs.Ytjmmcpeknaaaiaa.Drw
open Ieee (single double)
set_option linter.unusedVariables false
set_option linter.unusedSimpArgs false
set_option maxRecDepth 20000
/-- a small single has been drawn -/
def MildS (base B : Nat) (w : World) (e : Ending) (w' : World) : Prop := ∃ r : Nat, S24 r ∧ e = .returned (.float .f32 r) ∧ Cur base w' B ∧ Only B w w'
set_option maxHeartbeats 800000 in
theorem mildS_any (base B : Nat) (w : World) (hc : Cur base w B) :
    Calls Try.prog 89 #[.pointer (some ⟨B, 0, none⟩)] w (MildS base B w) := by
  go_enter Try.func89, Try.ntmps89
  go_wp2_with fail
  refine (below_any base B _ _ hc (by omega)).mono ?_
  rintro e w1 ⟨r, r0, r1, rfl, hc1, ho1⟩
  have r2 := r1 (by omega)
  have Hc1 := Lib.hid hc1
  have Ho1 := Lib.hid ho1
  clear hc1 ho1 hc r1
  go_wp2_with fail
  have hlt := Hc1.out.lt
  refine (pick_q (Sml 16) base B w1.heap.size 7 _ _ _ (Hc1.out.alloc _) (by omega) (by omega) (block_new _ _) (by omega) (seven_q ⟨1, rfl, by omega, by omega⟩ ⟨1, rfl, by omega, by omega⟩ ⟨2, rfl, by omega, by omega⟩ ⟨4, rfl, by omega, by omega⟩ ⟨3, rfl, by omega, by omega⟩ ⟨10, rfl, by omega, by omega⟩ ⟨16, rfl, by omega, by omega⟩)).mono ?_
  rintro e w2 ⟨y, ⟨c, rfl, c1, c2⟩, rfl, hc2, ho2⟩
  have Hc2 := Lib.hid hc2
  have Ho2 := Lib.hid (((Ho1.out.alloc _)).trans ho2)
  clear hc2 ho2 hlt
  obtain ⟨u, k1, k3, k4, _⟩ := mild_sm (n := r - 200) (y := c) (by omega) c1 c2
  have k2 : S24 u := ⟨k3, Nat.le_trans k4 r200.1⟩
  clear k3 k4
  have kq := fun W => run_float_arith (P := Try.prog) W .quo 24 .f32 _ _ _ k1
  have K2 := Lib.hid k2
  clear k1 k2
  go_wp2_with fail
  go_ret
  exact ⟨_, K2.out, rfl, Hc2.out, Ho2.out⟩
theorem three_q {Q : Int → Prop} {a b c : Int} (ha : Q a) (hb : Q b) (hc : Q c) : ∀ i, i < 3 → ∃ v : Int, (#[Value.int .i64 a, .int .i64 b, .int .i64 c])[i]? = some (.int .i64 v) ∧ Q v
  | 0, _ => ⟨_, rfl, ha⟩ | 1, _ => ⟨_, rfl, hb⟩ | 2, _ => ⟨_, rfl, hc⟩
  | n + 3, h => by omega
theorem Blk.only {B : Nat} {w w' : World} {R : Nat} {vs : Array Value} {T : TypeId} (h : Blk w R vs T) (ho : Only B w w') (hne : R ≠ B) : Blk w' R vs T := (ho.block R h.lt hne).trans h
theorem Only.setNew {B : Nat} {w w1 : World} (ho : Only B w w1) {a : Addr} (ha : w.heap.size ≤ a.block) (u : Value) : Only B w (w1.setCell a u) :=
  ⟨ho.os, ho.tape, ho.output, by rw [show (w1.setCell a u).heap.size = w1.heap.size by simp [World.setCell]]; exact ho.size, fun k hk hkB => by rw [Below.heap_setCell w1 a u k (by omega)]; exact ho.block k hk hkB⟩
/-- a valid span of small ends has been drawn -/
def SpanD (base B : Nat) (w : World) (e : Ending) (w' : World) : Prop := ∃ x y : Nat, Sm x ∧ Sm y ∧ vW x ≤ vW y ∧ e = .returned (pv x y) ∧ Cur base w' B ∧ Only B w w'
theorem cur_set {base B : Nat} {w : World} (hc : Cur base w B) {R : Nat} (hR : base ≤ R) (hn : R ≠ B) (o : Nat) (u : Value) : Cur base (w.setCell ⟨R, o, none⟩ u) B := by
  obtain ⟨hB, a, len, cap, zs, i, h, hb, h0, h1, hr, ha⟩ := hc
  exact Cur.mk' hB hr ha (Below.setCell (Below.refl _ _) hR _) h0 h1 ((Below.heap_setCell _ _ _ _ (by show B ≠ R; omega)).trans hb)
theorem fin_cur {base B : Nat} {w w5 : World} (hc : Cur base w5 B) (ho : Only B w w5) (hlt : B < w.heap.size) (u v : Value) :
    Cur base ((w5.setCell ⟨w.heap.size, 0, none⟩ u).setCell ⟨w.heap.size, 1, none⟩ v) B ∧ Only B w ((w5.setCell ⟨w.heap.size, 0, none⟩ u).setCell ⟨w.heap.size, 1, none⟩ v) := by
  refine ⟨?_, Only.setNew (Only.setNew ho (Nat.le_refl _) u) (Nat.le_refl _) v⟩
  have hB := hc.hB
  exact cur_set (cur_set hc (by omega) (by omega) _ _) (by omega) (by omega) _ _
set_option maxHeartbeats 1600000 in
theorem span_any (base B : Nat) (w : World) (hc : Cur base w B) : Calls Try.prog 68 #[.pointer (some ⟨B, 0, none⟩)] w (SpanD base B w) := by
  have Hlt := Lib.hid hc.lt
  have hp : ((⟨#[43]⟩ : ByteArray).toList == [43]) = true := by decide +kernel
  have Hp := Lib.hid hp
  clear hp
  go_enter Try.func68, Try.ntmps68
  go_wp2_with fail
  refine (mildS_any base B _ (hc.alloc _)).mono ?_
  rintro e w1 ⟨a0, ha0, rfl, hc1, ho1⟩
  have Ha0 := Lib.hid ha0
  have HC1 := Lib.hid (And.intro hc1 (And.intro (((Only.refl B w).alloc _).trans ho1) (Blk.only (B := B) (vs := #[.float .f32 0, .float .f32 0]) (T := 32) (Blk.new rfl) ho1 (by have := Hlt.out; omega))))
  clear hc1 ho1 ha0 hc
  go_wp2_with fail
  refine (once_any' base B 3 _ HC1.out.1 (by omega)).mono ?_
  rintro e w2 ⟨b3, rfl, hc2, ho2⟩
  have HC2 := Lib.hid (And.intro hc2 (And.intro (HC1.out.2.1.trans ho2) (HC1.out.2.2.only ho2 (by have := Hlt.out; omega))))
  clear hc2 ho2
  cases b3
  · have Ha := Ha0
    have HC := HC2
    go_wp2_with fail
    refine (below_any base B _ _ HC.out.1 (by omega)).mono ?_
    rintro e w3 ⟨n, m0, m1, rfl, hc3, ho3⟩
    have m2 : n < 60 := m1 (by omega)
    have HC3 := Lib.hid (And.intro hc3 (And.intro (HC.out.2.1.trans ho3) (HC.out.2.2.only ho3 (by have := Hlt.out; omega))))
    clear hc3 ho3 m1
    go_wp2_with fail
    have hl3 := HC3.out.1.lt
    refine (pick_q (Sml 16) base B w3.heap.size 3 _ _ _ (HC3.out.1.alloc _) (by omega) (by omega) (block_new _ _) (by omega) (three_q ⟨1, rfl, by omega, by omega⟩ ⟨3, rfl, by omega, by omega⟩ ⟨16, rfl, by omega, by omega⟩)).mono ?_
    rintro e w4 ⟨_, ⟨y, rfl, y1, y2⟩, rfl, hc4, ho4⟩
    have HC4 := Lib.hid (And.intro hc4 (And.intro ((HC3.out.2.1.alloc _).trans ho4) ((HC3.out.2.2.alloc _).only ho4 (by have := Hlt.out; omega))))
    clear hc4 ho4 hl3
    obtain ⟨q, kq0, q1, q2, q3⟩ := mild_sm (n := n) (y := y) (by omega) y1 y2
    obtain ⟨r, kr0, r1, r2⟩ := add_up Ha.out q2 (q3 m0)
    have kq := fun w => run_float_arith (P := Try.prog) w .quo 24 .f32 _ _ _ kq0
    have kr := fun w => run_float_arith (P := Try.prog) w .add 24 .f32 _ _ _ kr0
    have Hr := Lib.hid (And.intro r1 r2)
    clear kq0 kr0 q1 q2 q3 r1 r2
    go_wp2_with fail
    refine (once_any' base B 5 _ HC4.out.1 (by omega)).mono ?_
    rintro e w5 ⟨b5, rfl, hc5, ho5⟩
    have HC5 := Lib.hid (And.intro hc5 (And.intro (HC4.out.2.1.trans ho5) (HC4.out.2.2.only ho5 (by have := Hlt.out; omega))))
    clear hc5 ho5
    have t0 := HC5.out.2.2.cell 0 rfl
    have t1 := HC5.out.2.2.cell 1 rfl
    have z0 := HC5.out.2.2.free 0
    have z1 := HC5.out.2.2.free 1
    cases b5
    · go_wp2_with fail
      obtain ⟨d0, d1, _⟩ := HC5.out.2.2.two a0 r
      refine bodyPost_ret (by simp [results, Try.results68, go_sem, d0, d1]; try rfl) rfl ?_
      exact ⟨a0, r, Ha.out.sm, Hr.out.1, Hr.out.2, rfl, fin_cur HC5.out.1 HC5.out.2.1 Hlt.out _ _⟩
    · have hn := fun w => spec_next a0 w Ha.out.1 Ha.out.sm.fn (nu_sm Ha.out).1.fn
      go_wp2_with fail
      refine (hn _).mono ?_
      rintro e w9 ⟨rfl, hw9⟩
      subst w9
      go_wp2_with fail
      obtain ⟨d0, d1, _⟩ := HC5.out.2.2.two a0 (nuW a0)
      refine bodyPost_ret (by simp [results, Try.results68, go_sem, d0, d1]; try rfl) rfl ?_
      exact ⟨a0, nuW a0, Ha.out.sm, (nu_sm Ha.out).1, (nu_sm Ha.out).2, rfl, fin_cur HC5.out.1 HC5.out.2.1 Hlt.out _ _⟩
  · go_wp2_with fail
    refine (below_any base B _ _ HC2.out.1 (by omega)).mono ?_
    rintro e w6 ⟨i, i0, i1, rfl, hc6, ho6⟩
    have i2 : i < 16777215 := i1 (by omega)
    have HC6 := Lib.hid (And.intro hc6 (And.intro (HC2.out.2.1.trans ho6) (HC2.out.2.2.only ho6 (by have := Hlt.out; omega))))
    clear hc6 ho6 i1
    go_wp2_with fail
    refine (below_any base B _ _ HC6.out.1 (by omega)).mono ?_
    rintro e w7 ⟨j, j0, j1, rfl, hc7, ho7⟩
    have j2 : j < 60 := j1 (by omega)
    have HC7 := Lib.hid (And.intro hc7 (And.intro (HC6.out.2.1.trans ho7) (HC6.out.2.2.only ho7 (by have := Hlt.out; omega))))
    clear hc7 ho7 j1
    have Hmk := Lib.hid (make_s24 Hp.out (m := 1 + i) (e := j - 60) (by omega) (by omega) (by omega) (by omega))
    go_wp2_with fail
    refine (Mks.spec_any _ _ _ _).mono ?_
    rintro e w8 ⟨rfl, nn, hw8⟩
    have HC := Lib.hid (show Cur base w8 B ∧ Only B w w8 ∧ Blk w8 w.heap.size #[.float .f32 0, .float .f32 0] 32 by rw [hw8]; exact ⟨HC7.out.1.drewN _, HC7.out.2.1.drewN _, HC7.out.2.2.drewN _⟩)
    clear hw8
    obtain ⟨⟨a, ok⟩, ho⟩ : ∃ o, Mks.out ⟨#[43]⟩ (1 + i) (j - 60) = o := ⟨_, rfl⟩
    rw [ho] at Hmk ⊢
    have Ha := Lib.hid (show S24 a from Hmk.out)
    clear Hmk ho i0 i2 j0 j2
    dsimp only
    go_wp2_with fail
    refine (below_any base B _ _ HC.out.1 (by omega)).mono ?_
    rintro e w3 ⟨n, m0, m1, rfl, hc3, ho3⟩
    have m2 : n < 60 := m1 (by omega)
    have HC3 := Lib.hid (And.intro hc3 (And.intro (HC.out.2.1.trans ho3) (HC.out.2.2.only ho3 (by have := Hlt.out; omega))))
    clear hc3 ho3 m1
    go_wp2_with fail
    have hl3 := HC3.out.1.lt
    refine (pick_q (Sml 16) base B w3.heap.size 3 _ _ _ (HC3.out.1.alloc _) (by omega) (by omega) (block_new _ _) (by omega) (three_q ⟨1, rfl, by omega, by omega⟩ ⟨3, rfl, by omega, by omega⟩ ⟨16, rfl, by omega, by omega⟩)).mono ?_
    rintro e w4 ⟨_, ⟨y, rfl, y1, y2⟩, rfl, hc4, ho4⟩
    have HC4 := Lib.hid (And.intro hc4 (And.intro ((HC3.out.2.1.alloc _).trans ho4) ((HC3.out.2.2.alloc _).only ho4 (by have := Hlt.out; omega))))
    clear hc4 ho4 hl3
    obtain ⟨q, kq0, q1, q2, q3⟩ := mild_sm (n := n) (y := y) (by omega) y1 y2
    obtain ⟨r, kr0, r1, r2⟩ := add_up Ha.out q2 (q3 m0)
    have kq := fun w => run_float_arith (P := Try.prog) w .quo 24 .f32 _ _ _ kq0
    have kr := fun w => run_float_arith (P := Try.prog) w .add 24 .f32 _ _ _ kr0
    have Hr := Lib.hid (And.intro r1 r2)
    clear kq0 kr0 q1 q2 q3 r1 r2
    go_wp2_with fail
    refine (once_any' base B 5 _ HC4.out.1 (by omega)).mono ?_
    rintro e w5 ⟨b5, rfl, hc5, ho5⟩
    have HC5 := Lib.hid (And.intro hc5 (And.intro (HC4.out.2.1.trans ho5) (HC4.out.2.2.only ho5 (by have := Hlt.out; omega))))
    clear hc5 ho5
    have t0 := HC5.out.2.2.cell 0 rfl
    have t1 := HC5.out.2.2.cell 1 rfl
    have z0 := HC5.out.2.2.free 0
    have z1 := HC5.out.2.2.free 1
    cases b5
    · go_wp2_with fail
      obtain ⟨d0, d1, _⟩ := HC5.out.2.2.two a r
      refine bodyPost_ret (by simp [results, Try.results68, go_sem, d0, d1]; try rfl) rfl ?_
      exact ⟨a, r, Ha.out.sm, Hr.out.1, Hr.out.2, rfl, fin_cur HC5.out.1 HC5.out.2.1 Hlt.out _ _⟩
    · have hn := fun w => spec_next a w Ha.out.1 Ha.out.sm.fn (nu_sm Ha.out).1.fn
      go_wp2_with fail
      refine (hn _).mono ?_
      rintro e w9 ⟨rfl, hw9⟩
      subst w9
      go_wp2_with fail
      obtain ⟨d0, d1, _⟩ := HC5.out.2.2.two a (nuW a)
      refine bodyPost_ret (by simp [results, Try.results68, go_sem, d0, d1]; try rfl) rfl ?_
      exact ⟨a, nuW a, Ha.out.sm, (nu_sm Ha.out).1, (nu_sm Ha.out).2, rfl, fin_cur HC5.out.1 HC5.out.2.1 Hlt.out _ _⟩
end Go.Proofs.Ytjmmcpeknaaaiaa.Spn
/- Plain facts: how far a sum that is rounded at each step lies from the exact one; the sum in order and the sum by halves. No program stands here. -/
namespace Go.Proofs.Ytjmmcpeknaaaiaa.Flt
open Ieee Go.RowKit
set_option linter.unusedVariables false
theorem frac_double : 2 ^ double.fractionBits = 4503599627370496 := by decide
/-- the error of one rounding -/
theorem rnd_err {z : Int} (h : rgD z.natAbs < double.infRung) : 9007199254740992 * (rndD z - z).natAbs ≤ z.natAbs + 4503599627370496 := by
  have h1 := rr_hi double (N := z.natAbs) (D := 1) (by omega)
  have h2 := rr_lo double (N := z.natAbs) (D := 1) (by omega)
  rw [frac_double, Nat.mul_one, Nat.mul_one] at h1 h2
  have e : rr double z.natAbs 1 = rgD z.natAbs := by
    unfold rgD at h ⊢
    omega
  rw [e] at h1 h2
  rw [rnd_eqD]
  generalize mg double (rgD z.natAbs) = m at *
  split <;> omega
/-- a sum that was reached by k roundings: 'p' exactly, of amounts that come to 's' -/
structure Er (B : Nat) (k a : Nat) (p : Int) (am : Nat) : Prop where
  e : 4503599627370496 * (sv double a - p).natAbs ≤ k * B
  s : p.natAbs ≤ am
  b : am + 4503599627370496 ≤ B
theorem Er.add {B k j a b r : Nat} {p q : Int} {s t : Nat} (h : Er B k a p s) (g : Er B j b q t) (hst : s + t + 4503599627370496 ≤ B) (hk : k + j ≤ 1000) (hr : sv double r = rndD (sv double a + sv double b)) (hf : rgD (sv double a + sv double b).natAbs < double.infRung) : Er B (k + j + 1) r (p + q) (s + t) := by
  obtain ⟨e1, s1, b1⟩ := h
  obtain ⟨e2, s2, b2⟩ := g
  have h3 := rnd_err hf
  refine ⟨?_, by omega, hst⟩
  rw [hr]
  clear hr
  generalize sv double a = u at *
  generalize sv double b = v at *
  generalize rndD (u + v) = w at *
  have m1 : k * B + j * B ≤ 1000 * B := by
    rw [← Nat.add_mul]; exact Nat.mul_le_mul_right _ hk
  have m2 : (k + j + 1) * B = k * B + j * B + B := by rw [Nat.add_mul, Nat.add_mul, Nat.one_mul]
  rw [m2]
  generalize k * B = kb at *
  generalize j * B = jb at *
  omega
theorem Er.mono {B k j a : Nat} {p : Int} {s : Nat} (h : Er B k a p s) (hk : k ≤ j) : Er B j a p s := ⟨Nat.le_trans h.e (Nat.mul_le_mul_right _ hk), h.s, h.b⟩
theorem Er.leaf {B x : Nat} (h : (vW x).natAbs + 4503599627370496 ≤ B) : Er B 0 (widen x) (vW x) (vW x).natAbs := ⟨by unfold vW; simp, Nat.le_refl _, h⟩
theorem Er.zero {B : Nat} (h : 4503599627370496 ≤ B) : Er B 0 0 0 0 := ⟨by rw [show sv double 0 = 0 from (sv_eq_zero double).2 (by decide)]; simp, by simp, by omega⟩
/-- the exact sum, and the sum of the amounts -/
def exS (xs : List Nat) : Int := (xs.map vW).sum
def amS (xs : List Nat) : Nat := (xs.map fun x => (vW x).natAbs).sum
theorem amS_app (xs ys : List Nat) : amS (xs ++ ys) = amS xs + amS ys := by unfold amS; simp
theorem exS_app (xs ys : List Nat) : exS (xs ++ ys) = exS xs + exS ys := by unfold exS; simp
/-- the sum by halves -/
def halF : Nat → List Nat → Nat
  | 0, _ => 0
  | f + 1, xs => if xs.length = 0 then 0 else if xs.length = 1 then widen (xs.getD 0 0) else addW (halF f (xs.take (xs.length / 2))) (halF f (xs.drop (xs.length / 2)))
theorem Bd.add {lo hi k j a b : Nat} (hlo : fnS lo = true) (hhi : fnS hi = true) (h : Bd lo hi k a) (g : Bd lo hi j b) (hk : k + j ≤ 30000) :
    floatBits .add .f64 a b = some (addW a b) ∧ Bd lo hi (k + j) (addW a b) ∧ sv double (addW a b) = rndD (sv double a + sv double b) ∧ rgD (sv double a + sv double b).natAbs < double.infRung := by
  obtain ⟨r, e1, e2, e3, e4, e5⟩ := add_valD h.f g.f
  have hr : addW a b = r := by unfold addW; rw [e1]; rfl
  rw [hr]
  have m1 : ((k + j : Nat) : Int) * vW lo = (k : Int) * vW lo + (j : Int) * vW lo := by rw [Int.natCast_add, Int.add_mul]
  have m2 : ((k + j : Nat) : Int) * vW hi = (k : Int) * vW hi + (j : Int) * vW hi := by rw [Int.natCast_add, Int.add_mul]
  have b1 := h.l
  have b2 := h.h
  have b3 := g.l
  have b4 := g.h
  obtain ⟨⟨p1, p2⟩, p3⟩ := rnd_between (z := sv double a + sv double b) hlo hhi hk (by omega) (by omega)
  exact ⟨e1, ⟨e2, by rw [e4]; exact p3, by rw [e5]; exact p1, by rw [e5]; exact p2⟩, e5, p3⟩
theorem Bd.leaf {lo hi x : Nat} (hlo : fnS lo = true) (hhi : fnS hi = true) (hx : fnS x = true) (h1 : sv single lo ≤ sv single x) (h2 : sv single x ≤ sv single hi) : Bd lo hi 1 (widen x) := by
  refine ⟨widen_wl x, ?_, ?_, ?_⟩
  · rw [rung_widen, if_pos (fnS_iff.1 hx)]; exact (wr_spec (fnS_iff.1 hx)).1
  · rw [Int.natCast_one, Int.one_mul]; exact (vW_le hlo hx).2 h1
  · rw [Int.natCast_one, Int.one_mul]; exact (vW_le hx hhi).2 h2
/-- all elements lie between -/
def Btw (lo hi : Nat) (xs : List Nat) : Prop := ∀ x ∈ xs, fnS x = true ∧ sv single lo ≤ sv single x ∧ sv single x ≤ sv single hi
theorem sum_er {lo hi B : Nat} (hlo : fnS lo = true) (hhi : fnS hi = true) : ∀ (ys xs : List Nat) (a : Nat), Bd lo hi xs.length a → Er B xs.length a (exS xs) (amS xs) → Btw lo hi ys → xs.length + ys.length ≤ 1000 → amS (xs ++ ys) + 4503599627370496 ≤ B →
    Bd lo hi (xs.length + ys.length) (sumF a ys) ∧ Er B (xs.length + ys.length) (sumF a ys) (exS (xs ++ ys)) (amS (xs ++ ys))
  | [], xs, a, h, g, _, _, _ => by rw [List.append_nil]; exact ⟨h, g⟩
  | y :: r, xs, a, h, g, hb, hk, hB => by
    obtain ⟨f, l, u⟩ := hb y (by simp)
    simp only [List.length_cons] at hk ⊢
    have e : xs ++ y :: r = (xs ++ [y]) ++ r := by simp
    rw [e] at hB ⊢
    have hB' : amS (xs ++ [y]) + 4503599627370496 ≤ B := by rw [amS_app] at hB; omega
    have hy : amS [y] = (vW y).natAbs := by simp [amS]
    have hy2 : exS [y] = vW y := by simp [exS]
    rw [amS_app, hy] at hB'
    obtain ⟨_, b1, b2, b3⟩ := h.add hlo hhi (Bd.leaf hlo hhi f l u) (by omega)
    have g1 := g.add (Er.leaf (B := B) (x := y) (by omega)) hB' (by omega) b2 b3
    have hl : (xs ++ [y]).length = xs.length + 1 := by simp
    have := sum_er hlo hhi r (xs ++ [y]) (addW a (widen y)) (by rw [hl]; exact b1) (by rw [hl, amS_app, exS_app, hy, hy2]; exact g1) (fun x hx => hb x (by simp [hx])) (by rw [hl]; omega) hB
    rw [hl] at this
    rw [show xs.length + (r.length + 1) = xs.length + 1 + r.length by omega]
    exact this
theorem hal_er {lo hi B : Nat} (hlo : fnS lo = true) (hhi : fnS hi = true) : ∀ (f : Nat) (xs : List Nat), xs.length ≤ f → xs.length ≤ 1000 → Btw lo hi xs → amS xs + 4503599627370496 ≤ B → Bd lo hi xs.length (halF f xs) ∧ Er B (xs.length - 1) (halF f xs) (exS xs) (amS xs)
  | 0, xs, h0, _, _, hB => by
    have : xs = [] := List.length_eq_zero_iff.1 (by omega)
    subst this
    exact ⟨Bd.zero lo hi, Er.zero (by simp [amS] at hB; omega)⟩
  | f + 1, xs, h0, hk, hb, hB => by
    unfold halF
    by_cases l0 : xs.length = 0
    · have : xs = [] := List.length_eq_zero_iff.1 l0
      subst this
      exact ⟨Bd.zero lo hi, Er.zero (by simp [amS] at hB; omega)⟩
    · rw [if_neg l0]
      by_cases l1 : xs.length = 1
      · obtain ⟨x, rfl⟩ := List.length_eq_one_iff.1 l1
        obtain ⟨fx, l, u⟩ := hb x (by simp)
        rw [if_pos l1]
        have hy : amS [x] = (vW x).natAbs := by simp [amS]
        have hy2 : exS [x] = vW x := by simp [exS]
        rw [hy] at hB ⊢
        rw [hy2]
        exact ⟨Bd.leaf hlo hhi fx l u, Er.leaf hB⟩
      · rw [if_neg l1]
        obtain ⟨k, hk2⟩ : ∃ k, xs.length / 2 = k := ⟨_, rfl⟩
        rw [hk2]
        have t1 : (xs.take k).length = k := by rw [List.length_take]; omega
        have t2 : (xs.drop k).length = xs.length - k := List.length_drop
        have hsp : amS xs = amS (xs.take k) + amS (xs.drop k) := by rw [← amS_app, List.take_append_drop]
        have hsp2 : exS xs = exS (xs.take k) + exS (xs.drop k) := by rw [← exS_app, List.take_append_drop]
        obtain ⟨b1, g1⟩ := hal_er (B := B) hlo hhi f (xs.take k) (by omega) (by omega) (fun x hx => hb x (List.mem_of_mem_take hx)) (by omega)
        obtain ⟨b2, g2⟩ := hal_er (B := B) hlo hhi f (xs.drop k) (by omega) (by omega) (fun x hx => hb x (List.mem_of_mem_drop hx)) (by omega)
        obtain ⟨_, b3, b4, b5⟩ := b1.add hlo hhi b2 (by omega)
        have g3 := g1.add g2 (by omega) (by omega) b4 b5
        rw [hsp, hsp2]
        constructor
        · rw [show xs.length = (xs.take k).length + (xs.drop k).length by omega]; exact b3
        · exact g3.mono (by omega)
end Go.Proofs.Ytjmmcpeknaaaiaa.Flt
/- Plain facts: the sum in order and the sum by halves differ by less than a million-millionth of the sum of the amounts. No program stands here. -/
namespace Go.Proofs.Ytjmmcpeknaaaiaa.Flt
open Ieee Go.RowKit
set_option linter.unusedVariables false
theorem lt_w32 {x : Nat} (h : x < 4294967296) : x < 2 ^ FloatKind.f32.format.width := by rw [show FloatKind.f32.format = single from rfl, width_single]; exact h
abbrev ng32 (x : Nat) : Nat := Op.negFloat .f32 x
theorem ng32_fn {x : Nat} (h : x < 4294967296) : fnS (ng32 x) = fnS x := by
  unfold fnS
  rw [show rung single (ng32 x) = rung single x from rung_neg .f32 (lt_w32 h)]
theorem ng32_sv {x : Nat} (h : x < 4294967296) : sv single (ng32 x) = -sv single x := by
  unfold sv
  rw [show rung single (ng32 x) = rung single x from rung_neg .f32 (lt_w32 h), show sgn single (ng32 x) = !sgn single x from sgn_neg .f32 (lt_w32 h)]
  cases sgn single x <;> simp
theorem ng32_vW {x : Nat} (h : x < 4294967296) (hf : fnS x = true) : vW (ng32 x) = -vW x := by
  rw [vW_eq hf, vW_eq (by rw [ng32_fn h]; exact hf), show rung single (ng32 x) = rung single x from rung_neg .f32 (lt_w32 h), show sgn single (ng32 x) = !sgn single x from sgn_neg .f32 (lt_w32 h)]
  cases sgn single x <;> simp
theorem vW_neg {x : Nat} (hf : fnS x = true) : vW x < 0 ↔ sv single x < 0 := by
  have h0 : fnS 0 = true := by decide
  have z : sv single 0 = 0 := (sv_eq_zero single).2 (by decide)
  have zW : vW 0 = 0 := by rw [vW_eq h0, show rung single 0 = 0 by decide]; decide +kernel
  have := vW_le h0 hf
  rw [z, zW] at this
  omega
/-- one amount more -/
def mosW (s x : Nat) : Nat := if sv single x < 0 then (floatBits .sub .f64 s (widen x)).getD 0 else addW s (widen x)
def mosF (a : Nat) (xs : List Nat) : Nat := xs.foldl mosW a
theorem mosF_snoc (a : Nat) (xs : List Nat) (x : Nat) : mosF a (xs ++ [x]) = mosW (mosF a xs) x := by unfold mosF; simp
/-- the words between the greatest single and its negative -/
def hiW : Nat := 2139095039
def loW : Nat := 4286578687
theorem hiW_fn : fnS hiW = true ∧ fnS loW = true := by decide
theorem all_btw {x : Nat} (h : fnS x = true) : sv single loW ≤ sv single x ∧ sv single x ≤ sv single hiW := by
  have hr := fnS_iff.1 h
  rw [inf_single] at hr
  have hm : mg single (rung single x) ≤ mg single 2139095039 := mg_le single (by omega)
  have e1 : sv single hiW = ((mg single 2139095039 : Nat) : Int) := by unfold sv; rw [show sgn single hiW = false by decide, show rung single hiW = 2139095039 by decide]; rfl
  have e2 : sv single loW = -((mg single 2139095039 : Nat) : Int) := by unfold sv; rw [show sgn single loW = true by decide, show rung single loW = 2139095039 by decide]; rfl
  rw [e1, e2]
  unfold sv
  generalize mg single 2139095039 = M at *
  generalize mg single (rung single x) = m at *
  split <;> omega
def Fin32 (xs : List Nat) : Prop := ∀ x ∈ xs, fnS x = true ∧ x < 4294967296
theorem Fin32.btw {xs : List Nat} (h : Fin32 xs) : Btw loW hiW xs := fun x hx => ⟨(h x hx).1, all_btw (h x hx).1⟩
theorem fn0 : fnS 0 = true := by decide
theorem sv0 : sv single 0 = 0 := (sv_eq_zero single).2 (by decide)
theorem vW0 : vW 0 = 0 := by rw [vW_eq fn0, show rung single 0 = 0 by decide]; decide +kernel
theorem mos_step {k a x B : Nat} {p : Int} {s : Nat} (h : Bd 0 hiW k a) (g : Er B k a p s) (hx : fnS x = true ∧ x < 4294967296) (hk : k + 1 ≤ 1000) (hB : s + (vW x).natAbs + 4503599627370496 ≤ B) :
    (if sv single x < 0 then floatBits .sub .f64 a (widen x) = some (mosW a x) else floatBits .add .f64 a (widen x) = some (mosW a x)) ∧ Bd 0 hiW (k + 1) (mosW a x) ∧ Er B (k + 1) (mosW a x) (p + ((vW x).natAbs : Int)) (s + (vW x).natAbs) := by
  obtain ⟨hf, hw⟩ := hx
  have hn : fnS (ng32 x) = true := by rw [ng32_fn hw]; exact hf
  have f0 := fn0
  have z0 := sv0
  by_cases hneg : sv single x < 0
  · rw [if_pos hneg]
    have hv := (vW_neg hf).2 hneg
    have e : vW (ng32 x) = ((vW x).natAbs : Int) := by rw [ng32_vW hw hf]; omega
    have ea : (vW (ng32 x)).natAbs = (vW x).natAbs := by rw [e]; omega
    have b1 : sv single 0 ≤ sv single (ng32 x) := by rw [z0, ng32_sv hw]; omega
    have b2 := (all_btw hn).2
    obtain ⟨_, c1, c2, c3⟩ := h.add f0 hiW_fn.1 (Bd.leaf f0 hiW_fn.1 hn b1 b2) (by omega)
    have fx : rung double (widen x) < double.infRung := by
      rw [rung_widen, if_pos (fnS_iff.1 hf)]; exact (wr_spec (fnS_iff.1 hf)).1
    obtain ⟨r, e1, e2, e3, e4, e5⟩ := sub_valD h.f fx
    have hr : mosW a x = r := by unfold mosW; rw [if_pos hneg, e1]; rfl
    have hz : sv double a - sv double (widen x) = sv double a + sv double (widen (ng32 x)) := by
      show sv double a - vW x = sv double a + vW (ng32 x)
      rw [ng32_vW hw hf]; omega
    rw [hz] at e4 e5
    have gl := Er.leaf (B := B) (x := ng32 x) (by rw [ea]; omega)
    rw [ea, e] at gl
    rw [hr]
    refine ⟨e1, ⟨e2, by rw [e4]; exact c3, ?_, ?_⟩, ?_⟩
    · rw [e5, ← c2]; exact c1.l
    · rw [e5, ← c2]; exact c1.h
    · exact g.add gl hB (by omega) e5 c3
  · rw [if_neg hneg]
    have hv : ¬ vW x < 0 := fun h' => hneg ((vW_neg hf).1 h')
    have e : vW x = ((vW x).natAbs : Int) := by omega
    have b1 : sv single 0 ≤ sv single x := by rw [z0]; omega
    have b2 := (all_btw hf).2
    obtain ⟨c0, c1, c2, c3⟩ := h.add f0 hiW_fn.1 (Bd.leaf f0 hiW_fn.1 hf b1 b2) (by omega)
    have hr : mosW a x = addW a (widen x) := by unfold mosW; rw [if_neg hneg]
    have gl := Er.leaf (B := B) (x := x) (by omega)
    rw [hr]
    refine ⟨c0, c1, ?_⟩
    have := g.add gl hB (by omega) c2 c3
    rw [← e]; exact this
theorem mos_er {B : Nat} : ∀ (ys xs : List Nat) (a : Nat), Bd 0 hiW xs.length a → Er B xs.length a (amS xs : Int) (amS xs) → Fin32 ys → xs.length + ys.length ≤ 1000 → amS (xs ++ ys) + 4503599627370496 ≤ B →
    Bd 0 hiW (xs.length + ys.length) (mosF a ys) ∧ Er B (xs.length + ys.length) (mosF a ys) (amS (xs ++ ys) : Int) (amS (xs ++ ys))
  | [], xs, a, h, g, _, _, _ => by rw [List.append_nil]; exact ⟨h, g⟩
  | y :: r, xs, a, h, g, hb, hk, hB => by
    simp only [List.length_cons] at hk ⊢
    have e : xs ++ y :: r = (xs ++ [y]) ++ r := by simp
    rw [e] at hB ⊢
    have hB' : amS (xs ++ [y]) + 4503599627370496 ≤ B := by rw [amS_app] at hB; omega
    have hy : amS [y] = (vW y).natAbs := by simp [amS]
    rw [amS_app, hy] at hB'
    obtain ⟨_, b1, b2⟩ := mos_step h g (hb y (by simp)) (by omega) hB'
    have hl : (xs ++ [y]).length = xs.length + 1 := by simp
    have := mos_er r (xs ++ [y]) (mosW a y) (by rw [hl]; exact b1) (by rw [hl, amS_app, hy, Int.natCast_add]; exact b2) (fun x hx => hb x (by simp [hx])) (by rw [hl]; omega) hB
    rw [hl] at this
    rw [show xs.length + (r.length + 1) = xs.length + 1 + r.length by omega]
    exact this
theorem amS_mul : ∀ (xs : List Nat), (∀ x ∈ xs, fnS x = true) → ∃ m, amS xs = m * 2 ^ W
  | [], _ => ⟨0, by simp [amS]⟩
  | x :: r, h => by
    obtain ⟨m, hm⟩ := amS_mul r (fun y hy => h y (by simp [hy]))
    have hf := h x (by simp)
    have e : amS (x :: r) = (vW x).natAbs + amS r := by simp [amS]
    refine ⟨mg single (rung single x) + m, ?_⟩
    rw [e, hm, vW_abs hf, (wr_spec (fnS_iff.1 hf)).2, Nat.add_mul]
theorem amS_big {xs : List Nat} (h : ∀ x ∈ xs, fnS x = true) : amS xs = 0 ∨ 4503599627370496 ≤ amS xs := by
  obtain ⟨m, hm⟩ := amS_mul xs h
  have hp : 4503599627370496 ≤ 2 ^ W := by
    rw [show (4503599627370496 : Nat) = 2 ^ 52 by decide]
    exact Nat.pow_le_pow_right (by omega) (by rw [W_eq]; omega)
  rw [hm]
  generalize 2 ^ W = p at *
  rcases m with _ | m
  · left; rw [Nat.zero_mul]
  · right
    have := Nat.le_mul_of_pos_left p (show 0 < m + 1 by omega)
    omega
theorem amS_zero : ∀ {xs : List Nat}, amS xs = 0 → ∀ x ∈ xs, vW x = 0
  | [], _, x, hx => by simp at hx
  | y :: r, h, x, hx => by
    have e : amS (y :: r) = (vW y).natAbs + amS r := by simp [amS]
    rw [e] at h
    rcases List.mem_cons.1 hx with rfl | h'
    · omega
    · exact amS_zero (by omega) x h'
/-- a million-millionth -/
def cW : Nat := 4427486594234968593
theorem cW_big : PV ≤ mg double (rung double cW) * 1099511627776 := by decide +kernel
theorem cW_f : rung double cW < double.infRung ∧ sgn double cW = false := by decide +kernel
theorem two_sums {xs : List Nat} (h : Fin32 xs) (hn : xs.length ≤ 64) :
    (sv double (sumF 0 xs) - sv double (halF xs.length xs)).natAbs * PV ≤ (sv double (mosF 0 xs)).natAbs * mg double (rung double cW) ∧ 0 ≤ sv double (mosF 0 xs) := by
  have hf : ∀ x ∈ xs, fnS x = true := fun x hx => (h x hx).1
  obtain ⟨B, hB⟩ : ∃ B, amS xs + 4503599627370496 = B := ⟨_, rfl⟩
  have z0 : amS [] = 0 := by simp [amS]
  have z1 : exS [] = 0 := by simp [exS]
  obtain ⟨b1, g1⟩ := sum_er (B := B) hiW_fn.2 hiW_fn.1 xs [] 0 (Bd.zero _ _) (by rw [z0, z1]; exact Er.zero (by omega)) h.btw (by simp; omega) (by rw [List.nil_append]; omega)
  obtain ⟨b2, g2⟩ := hal_er (B := B) hiW_fn.2 hiW_fn.1 xs.length xs (Nat.le_refl _) (by omega) h.btw (by omega)
  obtain ⟨b3, g3⟩ := mos_er (B := B) xs [] 0 (Bd.zero 0 hiW) (by rw [z0]; exact Er.zero (by omega)) h (by simp; omega) (by rw [List.nil_append]; omega)
  rw [List.nil_append] at g1 g3
  simp only [List.length_nil, Nat.zero_add] at g1 g3 b1 b3
  have e1 := g1.e
  have e2 := (g2.mono (Nat.sub_le _ 1)).e
  have e3 := g3.e
  have m1 : xs.length * B ≤ 64 * B := Nat.mul_le_mul_right _ hn
  have hc := cW_big
  have hp := b3.l
  rw [vW0, Int.mul_zero] at hp
  refine ⟨?_, hp⟩
  rcases amS_big hf with h0 | h0
  · -- all are zeros
    have hz : Btw 0 0 xs := fun x hx => by
      have := amS_zero h0 x hx
      have zW := vW0
      have a1 := (vW_le fn0 (hf x hx)).1 (by omega)
      have a2 := (vW_le (hf x hx) fn0).1 (by omega)
      exact ⟨hf x hx, a1, a2⟩
    have c1 := Bd.sum fn0 fn0 xs 0 0 (Bd.zero 0 0) hz (by omega)
    have c2 := (hal_er (B := B) fn0 fn0 xs.length xs (Nat.le_refl _) (by omega) hz (by omega)).1
    have l1 := c1.l
    have l2 := c1.h
    have l3 := c2.l
    have l4 := c2.h
    rw [vW0, Int.mul_zero] at l1 l2 l3 l4
    rw [show sv double (sumF 0 xs) - sv double (halF xs.length xs) = 0 by omega, Int.natAbs_zero, Nat.zero_mul]
    exact Nat.zero_le _
  · generalize sv double (sumF 0 xs) = A at *
    generalize sv double (halF xs.length xs) = H at *
    generalize sv double (mosF 0 xs) = Mo at *
    generalize xs.length * B = nB at *
    generalize exS xs = T at *
    generalize mg double (rung double cW) = c at *
    have k1 : (A - H).natAbs * 1099511627776 ≤ Mo.natAbs := by omega
    have k2 : (A - H).natAbs * PV ≤ (A - H).natAbs * (c * 1099511627776) := Nat.mul_le_mul_left _ hc
    have k3 : (A - H).natAbs * (c * 1099511627776) = (A - H).natAbs * 1099511627776 * c := by ac_rfl
    exact Nat.le_trans k2 (k3 ▸ Nat.mul_le_mul_right _ k1)
end Go.Proofs.Ytjmmcpeknaaaiaa.Flt
/- Sums in order and means of the model, at a seat without PairSum: made by program out of XAvgM. -/
namespace Go.Proofs.Ytjmmcpeknaaaiaa.Avg
open Go.ChangeShapes Go.WideShapes Go.ChangeAt Go.RowKit Go.Deep Go.Proofs.Ytjmmcpeknaaaiaa Go.Proofs.Ytjmmcpeknaaaiaa.Flt Go.Proofs.Ytjmmcpeknaaaiaa.Mth Go.Proofs.Ytjmmcpeknaaaiaa.Sgl
open Ieee (single double)
set_option linter.unusedVariables false
/-- the elements -/
def els (n : Nat) (X : Nat → Nat) : List Nat := (List.range n).map X
theorem els_len (n : Nat) (X : Nat → Nat) : (els n X).length = n := by unfold els; simp
theorem els_succ (n : Nat) (X : Nat → Nat) : els (n + 1) X = els n X ++ [X n] := by unfold els; rw [List.range_succ]; simp
theorem els_app (n m : Nat) (X : Nat → Nat) : els (n + m) X = els n X ++ els m (fun i => X (n + i)) := by
  unfold els; rw [List.range_add]; simp
theorem els_take {n k : Nat} (h : k ≤ n) (X : Nat → Nat) : (els n X).take k = els k X := by
  obtain ⟨m, rfl⟩ : ∃ m, n = k + m := ⟨n - k, by omega⟩
  rw [els_app, List.take_left' (els_len _ _)]
theorem els_drop {n k : Nat} (h : k ≤ n) (X : Nat → Nat) : (els n X).drop k = els (n - k) (fun i => X (k + i)) := by
  obtain ⟨m, rfl⟩ : ∃ m, n = k + m := ⟨n - k, by omega⟩
  rw [els_app, List.drop_left' (els_len _ _), Nat.add_sub_cancel_left]
theorem els_mem {n : Nat} {X : Nat → Nat} {x : Nat} (h : x ∈ els n X) : ∃ i, i < n ∧ x = X i := by
  unfold els at h
  obtain ⟨i, hi, rfl⟩ := List.mem_map.1 h
  exact ⟨i, List.mem_range.1 hi, rfl⟩
theorem els_congr {n : Nat} {X Y : Nat → Nat} (h : ∀ i, i < n → X i = Y i) : els n X = els n Y := by
  unfold els
  exact List.map_congr_left fun i hi => h i (List.mem_range.1 hi)
/-- a good list -/
def goodB (n : Nat) (X : Nat → Nat) : Bool := decide (n ≤ 64) && (List.range n).all fun i => finB (X i)
theorem good_fail {n k : Nat} {X : Nat → Nat} (hk : k < n) (h : finB (X k) = false) : false = goodB n X := by
  symm
  unfold goodB
  rw [Bool.and_eq_false_iff]
  right
  rw [List.all_eq_false]
  exact ⟨k, by simpa using hk, by rw [h]; simp⟩
theorem good_all {n : Nat} {X : Nat → Nat} (h1 : n ≤ 64) (h : ∀ j, j < n → finB (X j) = true) : true = goodB n X := by
  symm
  unfold goodB
  rw [decide_eq_true h1, Bool.true_and, List.all_eq_true]
  intro j hj
  exact h j (by simpa using hj)
theorem good_out {n : Nat} {X : Nat → Nat} (h : 64 < n) : false = goodB n X := by
  unfold goodB; rw [decide_eq_false (by omega)]; rfl
theorem good_iff {n : Nat} {X : Nat → Nat} : goodB n X = true ↔ n ≤ 64 ∧ ∀ j, j < n → finB (X j) = true := by
  unfold goodB
  rw [Bool.and_eq_true, decide_eq_true_iff, List.all_eq_true]
  constructor
  · rintro ⟨a, b⟩; exact ⟨a, fun j hj => b j (List.mem_range.2 hj)⟩
  · rintro ⟨a, b⟩; exact ⟨a, fun j hj => b j (List.mem_range.1 hj)⟩
/-! every finite single lies between these two -/
theorem fn_hi : fnS 2139095039 = true := by decide
theorem fn_lo : fnS 4286578687 = true := by decide
theorem all_btw {x : Nat} (h : fnS x = true) : fnS x = true ∧ sv single 4286578687 ≤ sv single x ∧ sv single x ≤ sv single 2139095039 := by
  have r := fnS_iff.1 h
  rw [show single.infRung = 2139095040 by decide] at r
  have h1 : mg single (rung single x) ≤ mg single 2139095039 := mg_le single (by omega)
  have e1 : sv single 2139095039 = ((mg single 2139095039 : Nat) : Int) := by
    unfold sv
    rw [show sgn single 2139095039 = false by decide, show rung single 2139095039 = 2139095039 by decide]; rfl
  have e2 : sv single 4286578687 = -((mg single 2139095039 : Nat) : Int) := by
    unfold sv
    rw [show sgn single 4286578687 = true by decide, show rung single 4286578687 = 2139095039 by decide]; rfl
  rw [e1, e2]
  unfold sv
  generalize mg single 2139095039 = m at *
  refine ⟨h, ?_, ?_⟩ <;> (split <;> omega)
theorem good_btw {n : Nat} {X : Nat → Nat} (h : ∀ j, j < n → finB (X j) = true) : Btw 4286578687 2139095039 (els n X) := by
  intro x hx
  obtain ⟨i, hi, rfl⟩ := els_mem hx
  exact all_btw (h i hi)
theorem sum_bd {n : Nat} {X : Nat → Nat} (hn : n ≤ 64) (h : ∀ j, j < n → finB (X j) = true) : Bd 4286578687 2139095039 n (sumF 0 (els n X)) := by
  have := Bd.sum fn_lo fn_hi (els n X) 0 0 (Bd.zero _ _) (good_btw h) (by rw [els_len]; omega)
  rw [els_len, Nat.zero_add] at this
  exact this
theorem sum_step {n : Nat} {X : Nat → Nat} (hn : n < 64) (h : ∀ j, j < n → finB (X j) = true) (hx : finB (X n) = true) : floatBits .add .f64 (sumF 0 (els n X)) (widen (X n)) = some (sumF 0 (els (n + 1) X)) := by
  obtain ⟨f, l, u⟩ := all_btw (x := X n) hx
  rw [els_succ, sumF_snoc]
  exact ((sum_bd (by omega) h).step fn_lo fn_hi f l u (by omega)).1
/-! the sum by halves -/
theorem hal_fuel : ∀ (f g : Nat) (xs : List Nat), xs.length ≤ f → xs.length ≤ g → halF f xs = halF g xs
  | 0, 0, xs, _, _ => rfl
  | 0, g + 1, xs, h, _ => by
    have : xs = [] := List.length_eq_zero_iff.1 (by omega)
    subst this
    rfl
  | f + 1, 0, xs, _, h => by
    have : xs = [] := List.length_eq_zero_iff.1 (by omega)
    subst this
    rfl
  | f + 1, g + 1, xs, h1, h2 => by
    unfold halF
    by_cases l0 : xs.length = 0
    · rw [if_pos l0, if_pos l0]
    · rw [if_neg l0, if_neg l0]
      by_cases l1 : xs.length = 1
      · rw [if_pos l1, if_pos l1]
      · rw [if_neg l1, if_neg l1]
        have t1 : (xs.take (xs.length / 2)).length = xs.length / 2 := by rw [List.length_take]; omega
        have t2 : (xs.drop (xs.length / 2)).length = xs.length - xs.length / 2 := List.length_drop
        rw [hal_fuel f g _ (by rw [t1]; omega) (by rw [t1]; omega), hal_fuel f g _ (by rw [t2]; omega) (by rw [t2]; omega)]
/-- the sum by halves of so many elements -/
def halN (n : Nat) (X : Nat → Nat) : Nat := halF n (els n X)
theorem halN_zero (X : Nat → Nat) : halN 0 X = 0 := rfl
theorem halN_one (X : Nat → Nat) : halN 1 X = widen (X 0) := by
  have e : els 1 X = [X 0] := rfl
  unfold halN
  rw [e]
  unfold halF
  rw [if_neg (by simp), if_pos (by simp), List.getD_cons_zero]
theorem halN_step {n k : Nat} (X : Nat → Nat) (h : 2 ≤ n) (hk : n / 2 = k) : halN n X = addW (halN k X) (halN (n - k) (fun i => X (k + i))) := by
  obtain ⟨f, rfl⟩ : ∃ f, n = f + 1 := ⟨n - 1, by omega⟩
  unfold halN
  conv => lhs; unfold halF
  rw [els_len, if_neg (by omega), if_neg (by omega), hk, els_take (by omega), els_drop (by omega)]
  rw [hal_fuel f k _ (by rw [els_len]; omega) (by rw [els_len]; omega), hal_fuel f (f + 1 - k) _ (by rw [els_len]; omega) (by rw [els_len]; omega)]
theorem hal_bd : ∀ (n : Nat) (X : Nat → Nat), n ≤ 64 → (∀ j, j < n → finB (X j) = true) → Bd 4286578687 2139095039 n (halN n X) := by
  intro n
  induction n using Nat.strongRecOn with
  | ind n ih =>
    intro X hn h
    by_cases l0 : n = 0
    · subst l0; rw [halN_zero]; exact Bd.zero _ _
    · by_cases l1 : n = 1
      · subst l1
        obtain ⟨f, l, u⟩ := all_btw (x := X 0) (h 0 (by omega))
        rw [halN_one]
        exact Bd.leaf fn_lo fn_hi f l u
      · obtain ⟨k, hk⟩ : ∃ k, n / 2 = k := ⟨_, rfl⟩
        rw [halN_step X (by omega) hk]
        have a := ih k (by omega) X (by omega) (fun j hj => h j (by omega))
        have b := ih (n - k) (by omega) (fun i => X (k + i)) (by omega) (fun j hj => h (k + j) (by omega))
        have := (a.add fn_lo fn_hi b (by omega)).2.1
        rwa [show k + (n - k) = n by omega] at this
theorem hal_step {n k : Nat} {X : Nat → Nat} (h2 : 2 ≤ n) (hn : n ≤ 64) (hk : n / 2 = k) (h : ∀ j, j < n → finB (X j) = true) :
    floatBits .add .f64 (halN k X) (halN (n - k) (fun i => X (k + i))) = some (halN n X) := by
  have a := hal_bd k X (by omega) (fun j hj => h j (by omega))
  have b := hal_bd (n - k) (fun i => X (k + i)) (by omega) (fun j hj => h (k + j) (by omega))
  rw [halN_step X h2 hk]
  exact (a.add fn_lo fn_hi b (by omega)).1
/-! the program of the model -/
theorem good_any (a : Option Addr) (len cap : Nat) (X : Nat → Nat) (w : World) (hl : len ≤ 1048576) (h : LstF w a len X) :
    Calls Try.prog 112 #[.slice a len cap] w fun e w' => e = .returned (.bool (goodB len X)) ∧ ∃ n, w' = w.drewN n := by
  by_cases h64 : 64 < len
  · go_enter Try.func112, Try.ntmps112
    go_wp2
    go_ret
    exact ⟨ret_bool (good_out h64), 0, rfl⟩
  · have H := Lib.hid h
    clear h
    go_enter Try.func112, Try.ntmps112
    go_wp2
    go_loopw [3] (fun i wr => ∃ k m : Nat, i = .int .i64 k ∧ k ≤ len ∧ wr = w.drewN m ∧ Hid (∀ j, j < k → finB (X j) = true))
      (fun i _ => len - (intOf i).toNat)
    case atStart => exact ⟨0, 0, rfl, Nat.zero_le _, rfl, Lib.hid fun j hj => absurd hj (Nat.not_lt_zero _)⟩
    case round =>
      obtain ⟨k, m, rfl, hk, hwr, hall⟩ := hrel
      subst hwr
      by_cases hkl : k < len
      · obtain ⟨b, off, ha, hlt, hc⟩ : ∃ b off, a = some ⟨b, off, none⟩ ∧ b < w.heap.size ∧ CellsF w b off len X := by
          rcases H.out.2 with e | e
          · omega
          · exact e
        subst ha
        have a0 := hc k hkl
        have k1 := fun w => run_widX (P := Try.prog) 24 28 (X k) (by rw [Try.underlying24]; rfl) Try.underlying28 w
        clear hc
        go_wp2_with fail
        refine (fineS_any _ _).mono ?_
        rintro e w1 ⟨rfl, n, rfl⟩
        rw [isFin_wid (widX_wid (X k) _)]
        cases c5 : finB (X k)
        · have Hno := Lib.hid (good_fail hkl c5)
          go_wp2_with fail
          go_ret
          exact ⟨ret_bool Hno.out, m + ndr (X k) + n, by first | rfl | rw [World.drewN_drewN, World.drewN_drewN]⟩
        · have Hc5 := Lib.hid c5
          clear c5 k1
          go_wp2_with fail
          go_roundw
          case rel => exact ⟨k + 1, m + ndr (X k) + n, by go_num, by omega, by first | rfl | rw [World.drewN_drewN, World.drewN_drewN], Lib.hid fun j hj => by
            by_cases e : j = k
            · rw [e]; exact Hc5.out
            · exact hall.out j (by omega)⟩
          case measure => simp [intOf]; omega
      · obtain rfl : k = len := by omega
        go_wp2
        go_ret
        exact ⟨ret_bool (good_all (by omega) hall.out), m, rfl⟩
theorem LstF.cells {w : World} {a : Option Addr} {len : Nat} {X : Nat → Nat} (h : LstF w a len X) (h0 : 0 < len) : ∃ b off, a = some ⟨b, off, none⟩ ∧ b < w.heap.size ∧ CellsF w b off len X := by
  rcases h.2 with e | e
  · omega
  · exact e
/-- what SumInOrder answers -/
def sumN (n : Nat) (X : Nat → Nat) : Nat := if goodB n X = true then sumF 0 (els n X) else 0
theorem run_widF {x : Nat} (h : finB x = true) (w : World) : (convert 24 28 (.float .f32 x)).run Try.prog w = .ok (.float .f64 (widen x)) w := by
  have hn : isNaN single x = false := fin_num h
  have := run_widX (P := Try.prog) 24 28 x (by rw [Try.underlying24]; rfl) Try.underlying28 w
  have hw := widX_wid x w
  rw [hw.2.2 hn] at this
  rw [this]
  have e0 : ndr x = 0 := by unfold ndr; rw [hn]; rfl
  rw [e0]
  rfl
set_option maxHeartbeats 400000 in
theorem spec_sum (a : Option Addr) (len cap : Nat) (X : Nat → Nat) (w : World) (hl : len ≤ 1048576) (h : LstF w a len X) :
    Calls Try.prog 99 #[.slice a len cap] w fun e w' => e = .returned (.tuple #[.float .f64 (sumN len X), .bool (goodB len X)]) ∧ ∃ n, w' = w.drewN n := by
  have H := Lib.hid h
  clear h
  cases hg : goodB len X
  · have Hs := Lib.hid (show 0 = sumN len X by unfold sumN; rw [if_neg (by rw [hg]; exact Bool.false_ne_true)])
    go_enter Try.func99, Try.ntmps99
    go_wp2_with fail
    refine (good_any _ _ _ X _ hl H.out).mono ?_
    rintro e w1 ⟨rfl, n, rfl⟩
    rw [hg]
    go_wp2_with fail
    go_ret2
    exact ⟨by rw [← Hs.out]; rfl, n, rfl⟩
  · have Hs := Lib.hid (show sumF 0 (els len X) = sumN len X by unfold sumN; rw [if_pos hg])
    obtain ⟨h64, hfin⟩ := good_iff.1 hg
    have Hfin := Lib.hid hfin
    clear hfin
    go_enter Try.func99, Try.ntmps99
    go_wp2_with fail
    refine (good_any _ _ _ X _ hl H.out).mono ?_
    rintro e w1 ⟨rfl, n, rfl⟩
    rw [hg]
    clear hg
    go_wp2_with fail
    go_loopw [4, 5] (fun s i wr => ∃ k : Nat, i = .int .i64 k ∧ s = .float .f64 (sumF 0 (els k X)) ∧ k ≤ len ∧ wr = w.drewN n)
      (fun _ i _ => len - (intOf i).toNat)
    case atStart => exact ⟨0, rfl, rfl, Nat.zero_le _, rfl⟩
    case round =>
      obtain ⟨k, rfl, rfl, hk, hwr⟩ := hrel
      subst hwr
      by_cases hkl : k < len
      · obtain ⟨b, off, ha, hlt, hc⟩ := LstF.cells H.out (by omega)
        subst ha
        have a0 := hc k hkl
        have k1 := run_widF (Hfin.out k hkl)
        have k2 := fun w => run_float_arith (P := Try.prog) w .add 28 .f64 _ _ _ (sum_step (by omega) (fun j hj => Hfin.out j (by omega)) (Hfin.out k hkl))
        clear hc
        generalize sumF 0 (els k X) = s0 at *
        obtain ⟨s1, hs1⟩ : ∃ s1, sumF 0 (els (k + 1) X) = s1 := ⟨_, rfl⟩
        rw [hs1] at k2
        go_wp2_with fail
        go_roundw
        case rel => exact ⟨k + 1, by go_num, by rw [hs1], by omega, by first | rfl | trivial⟩
        case measure => simp [intOf]; omega
      · obtain rfl : k = len := by omega
        go_wp2_with fail
        go_ret2
        exact ⟨by rw [← Hs.out]; rfl, n, rfl⟩
/-! the sum by halves -/
theorem run_front (b off n cap k : Nat) (w : World) (h : k ≤ cap) :
    (Instr.slice 53 (.slice (some ⟨b, off, none⟩) n cap) none (some (.int .i64 (k : Int))) none).run Try.prog w = .ok (.slice (some ⟨b, off, none⟩) k cap) w := by
  obtain ⟨i0, hi, hz0, hz1, hz2⟩ := info_partsF
  have h0 : (0 : Int) ≤ k := by omega
  have h1 : (k : Int) ≤ cap := by omega
  simp [Instr.slice, run_underlying Try.underlying53, Instr.sliceBounds, run_sliceBound, sizeOf, typeInfo, hi, h0, h1, Addr.add]
theorem run_back (b off n cap k : Nat) (w : World) (h : k < n) (hc : n ≤ cap) :
    (Instr.slice 53 (.slice (some ⟨b, off, none⟩) n cap) (some (.int .i64 (k : Int))) none none).run Try.prog w = .ok (.slice (some ⟨b, off + k, none⟩) (n - k) (cap - k)) w := by
  obtain ⟨i0, hi, hz0, hz1, hz2⟩ := info_partsF
  have h0 : (0 : Int) ≤ k := by omega
  have h1 : (k : Int) ≤ n := by omega
  simp only [Instr.slice, Instr.sliceBounds]
  simp [run_underlying Try.underlying53, run_sliceBound, sizeOf, typeInfo, hi, h0, h1, Addr.add, hz1]
  rw [if_neg (by omega)]
  by_cases h4 : k = 0
  · subst h4; simp
  · rw [if_neg h4]
set_option maxHeartbeats 400000 in
/-- what PairSum answers -/
def pairN (n : Nat) (X : Nat → Nat) : Nat := if goodB n X = true then halN n X else 0
theorem LstF.drew {w : World} {a : Option Addr} {len : Nat} {X : Nat → Nat} (h : LstF w a len X) (n : Nat) : LstF (w.drewN n) a len X := h.keep (below_drewN (Below.refl _ _) n)
set_option maxHeartbeats 400000 in
/-- what MeanOf answers -/
def meanB (n : Nat) (X : Nat → Nat) : Bool := goodB n X && decide (1 ≤ n)
def meanN (n : Nat) (X : Nat → Nat) : Nat := if meanB n X = true then meanW (sumF 0 (els n X)) n else 0
theorem mean_facts {n : Nat} {X : Nat → Nat} (h : meanB n X = true) : n ≤ 64 ∧ 1 ≤ n ∧
    floatBits .quo .f64 (sumN n X) (floatOfInt .f64 (n : Int)) = some (quoW (sumN n X) n) ∧ floatToFloatBits .f64 (quoW (sumN n X) n) .f32 = some (meanN n X) := by
  have hq := h
  unfold meanB at hq
  rw [Bool.and_eq_true, decide_eq_true_iff] at hq
  obtain ⟨hg, h1⟩ := hq
  obtain ⟨h64, hf⟩ := good_iff.1 hg
  obtain ⟨a, b, _⟩ := mean_bd fn_lo fn_hi h1 (by omega) (sum_bd h64 hf)
  unfold meanN
  rw [if_pos h]
  unfold sumN
  rw [if_pos hg]
  exact ⟨h64, h1, a, b⟩
set_option maxHeartbeats 400000 in
theorem spec_mean (a : Option Addr) (len cap : Nat) (X : Nat → Nat) (w : World) (hl : len ≤ 1048576) (h : LstF w a len X) :
    Calls Try.prog 70 #[.slice a len cap] w fun e w' => e = .returned (.tuple #[.float .f32 (meanN len X), .bool (meanB len X)]) ∧ ∃ n, w' = w.drewN n := by
  have H := Lib.hid h
  clear h
  cases hg : meanB len X
  · have Hs := Lib.hid (show 0 = meanN len X by unfold meanN; rw [if_neg (by rw [hg]; exact Bool.false_ne_true)])
    cases hq : goodB len X
    · go_enter Try.func70, Try.ntmps70
      go_wp2_with fail
      refine (spec_sum _ _ _ X _ hl H.out).mono ?_
      rintro e w1 ⟨rfl, n, rfl⟩
      rw [hq]
      go_wp2_with fail
      go_ret2
      exact ⟨by rw [← Hs.out]; rfl, n, rfl⟩
    · have h0 : Hid (len = 0) := Lib.hid <| by
        unfold meanB at hg
        rw [hq, Bool.true_and] at hg
        have := of_decide_eq_false hg
        omega
      go_enter Try.func70, Try.ntmps70
      go_wp2_with fail
      refine (spec_sum _ _ _ X _ hl H.out).mono ?_
      rintro e w1 ⟨rfl, n, rfl⟩
      rw [hq]
      have h1 : (len : Int) = 0 := by rw [h0.out]; rfl
      go_wp2_with fail
      go_ret2
      exact ⟨by rw [← Hs.out]; rfl, n, rfl⟩
  · obtain ⟨h64, h1, f1, f2⟩ := mean_facts hg
    have hq : goodB len X = true := by unfold meanB at hg; rw [Bool.and_eq_true] at hg; exact hg.1
    have k1 := fun w => run_float_arith (P := Try.prog) w .quo 28 .f64 _ _ _ f1
    have k2 := fun w => run_convert_float_float (P := Try.prog) w 28 24 .f64 .f32 _ _ (by rw [Try.underlying28]; rfl) Try.underlying24 f2
    have k3 := fun w => run_convert_int_float (P := Try.prog) w 3 28 .i64 .f64 (len : Int) (by rw [Try.underlying3]; rfl) Try.underlying28
    have e0 : ¬ (len : Int) = 0 := by omega
    clear f1 f2
    go_enter Try.func70, Try.ntmps70
    go_wp2_with fail
    refine (spec_sum _ _ _ X _ hl H.out).mono ?_
    rintro e w1 ⟨rfl, n, rfl⟩
    rw [hq]
    clear hq
    obtain ⟨m, hm⟩ : ∃ m, meanN len X = m := ⟨_, rfl⟩
    rw [hm] at k2
    have Hm := Lib.hid hm
    clear hm
    generalize sumN len X = s at *
    generalize quoW s len = q at *
    generalize floatOfInt .f64 (len : Int) = l at *
    go_wp2_with fail
    go_ret2
    exact ⟨by rw [Hm.out]; rfl, n, rfl⟩
end Go.Proofs.Ytjmmcpeknaaaiaa.Avg
/- The model's draw of two spans and a number of each. -/
namespace Go.Proofs.Ytjmmcpeknaaaiaa.Spn
open Go.ChangeShapes Go.WideShapes Go.ChangeAt Go.RowKit Go.Deep Go.Proofs.Ytjmmcpeknaaaiaa Go.Proofs.Ytjmmcpeknaaaiaa.Flt Go.Proofs.Ytjmmcpeknaaaiaa.Mth Go.Proofs.Ytjmmcpeknaaaiaa.Drw
open Go.Proofs.Ytjmmcpeknaaaiaa.Avg (meanN meanB spec_mean mean_facts)
open Ieee (single double)
set_option linter.unusedVariables false
set_option linter.unusedSimpArgs false
set_option maxRecDepth 20000
theorem row_lt {w : World} {a : Option Addr} {len cap : Nat} {zs : List Int} (h : IsRow .u8 w a len cap zs) : ∀ x, a = some x → 0 < cap → x.block < w.heap.size := by
  rintro x rfl hc
  rcases h with ⟨e, _⟩ | ⟨y, e, h1, h2, h3, h4, _⟩
  · cases e
  · cases e
    have := World.block_lt_of_cell? w _ (h4 0 (by omega))
    unfold Addr.add at this
    split at this <;> exact this
theorem mean_num {n : Nat} {X : Nat → Nat} (h : meanB n X = true) : isNaN single (meanN n X) = false ∧ meanN n X < 4294967296 := by
  obtain ⟨_, _, h1, h2⟩ := mean_facts h
  exact ⟨narrow_nan h2, floatToFloat_lt h2 (floatBits_wf h1)⟩
theorem Blk.pair {w : World} {A C x y u v : Nat} {T : TypeId} (h1 : Blk w A #[.float .f32 x, .float .f32 y] T) (h2 : Blk w C #[.float .f32 u, .float .f32 v] T) (hne : A ≠ C) (x' y' u' v' : Nat) :
    ((((w.setCell ⟨A, 0, none⟩ (.float .f32 x')).setCell ⟨A, 1, none⟩ (.float .f32 y')).setCell ⟨C, 0, none⟩ (.float .f32 u')).setCell ⟨C, 1, none⟩ (.float .f32 v')).cell? ⟨A, 0, none⟩ = some (.float .f32 x') ∧
    ((((w.setCell ⟨A, 0, none⟩ (.float .f32 x')).setCell ⟨A, 1, none⟩ (.float .f32 y')).setCell ⟨C, 0, none⟩ (.float .f32 u')).setCell ⟨C, 1, none⟩ (.float .f32 v')).cell? ⟨A, 1, none⟩ = some (.float .f32 y') ∧
    ((((w.setCell ⟨A, 0, none⟩ (.float .f32 x')).setCell ⟨A, 1, none⟩ (.float .f32 y')).setCell ⟨C, 0, none⟩ (.float .f32 u')).setCell ⟨C, 1, none⟩ (.float .f32 v')).cell? ⟨C, 0, none⟩ = some (.float .f32 u') ∧
    ((((w.setCell ⟨A, 0, none⟩ (.float .f32 x')).setCell ⟨A, 1, none⟩ (.float .f32 y')).setCell ⟨C, 0, none⟩ (.float .f32 u')).setCell ⟨C, 1, none⟩ (.float .f32 v')).cell? ⟨C, 1, none⟩ = some (.float .f32 v') := by
  have a := (h1.two x' y').2.2
  have c := Blk.other (a := ⟨A, 1, none⟩) (Blk.other (a := ⟨A, 0, none⟩) h2 (Ne.symm hne) (.float .f32 x')) (Ne.symm hne) (.float .f32 y')
  have c2 := (c.two u' v').2.2
  have a2 := Blk.other (a := ⟨C, 1, none⟩) (Blk.other (a := ⟨C, 0, none⟩) a hne (.float .f32 u')) hne (.float .f32 v')
  exact ⟨a2.cell 0 rfl, a2.cell 1 rfl, c2.cell 0 rfl, c2.cell 1 rfl⟩
/-- two valid spans of small ends and two numbers have been drawn -/
def SpansD (w : World) (e : Ending) (w' : World) : Prop := ∃ a b c d x y : Nat, (Sm a ∧ Sm b ∧ vW a ≤ vW b) ∧ (Sm c ∧ Sm d ∧ vW c ≤ vW d) ∧ (isNaN single x = false ∧ x < 4294967296) ∧ (isNaN single y = false ∧ y < 4294967296) ∧
  e = .returned (.tuple #[pv a b, pv c d, .float .f32 x, .float .f32 y]) ∧ Below w.heap.size w w'
set_option maxHeartbeats 4000000 in
theorem spans_any (a : Option Addr) (len cap : Nat) (zs : List Int) (w : World) (hr : IsRow .u8 w a len cap zs) :
    Calls Try.prog 29 #[.slice a len cap] w (SpansD w) := by
  have hrl := row_lt hr
  go_enter Try.func29, Try.ntmps29
  go_wp2_with fail
  obtain ⟨w0, hw0⟩ : ∃ w0, w0 = (w.alloc (.cells #[.float .f32 0, .float .f32 0] 32)).alloc (.cells #[.float .f32 0, .float .f32 0] 32) := ⟨_, rfl⟩
  have Hb0 := Lib.hid (show Below w.heap.size w w0 by rw [hw0]; go_grown)
  have HA0 := Lib.hid (show Blk w0 w.heap.size #[.float .f32 0, .float .f32 0] 32 ∧ Blk w0 (w.heap.size + 1) #[.float .f32 0, .float .f32 0] 32 by rw [hw0]; exact ⟨Blk.alloc (Blk.new rfl) _, Blk.new (by simp)⟩)
  have hr0 : IsRow .u8 w0 a len cap zs := Go.Proofs.Ytjmmcpeknaaaiaa.Drw.IsRow.below hr hrl Hb0.out
  rw [← hw0]
  clear hw0 hr hrl
  refine (new_any a len cap zs _ hr0).mono ?_
  rintro e w1 ⟨rfl, hc1, hb1⟩
  have HC1 := Lib.hid hc1
  have HB1 := Lib.hid (Hb0.out.trans (hb1.mono Hb0.out.size))
  have HA1 := Lib.hid (And.intro (HA0.out.1.keep hb1) (HA0.out.2.keep hb1))
  have Hz := Lib.hid (HA0.out.2.lt)
  clear hc1 hb1 hr0
  generalize w0.heap.size = B at *
  go_wp2_with fail
  refine (span_any _ _ _ HC1.out).mono ?_
  rintro e w2 ⟨a1, a2, s1, s2, s3, rfl, hc2, ho2⟩
  have HS1 := Lib.hid (And.intro s1 (And.intro s2 s3))
  have HC2 := Lib.hid hc2
  have HB2 := Lib.hid (HB1.out.trans (ho2.below (by have := Hz.out; omega) HB1.out.size))
  have HA2 := Lib.hid (And.intro (HA1.out.1.only ho2 (by have := Hz.out; omega)) (HA1.out.2.only ho2 (by have := Hz.out; omega)))
  clear s1 s2 s3 hc2 ho2
  unfold pv
  go_wp2_with fail
  refine (span_any _ _ _ (HC2.out.alloc _)).mono ?_
  rintro e w3 ⟨b1, b2, s1, s2, s3, rfl, hc3, ho3⟩
  have HS2 := Lib.hid (And.intro s1 (And.intro s2 s3))
  have HC3 := Lib.hid hc3
  have hl2 := HC2.out.lt
  have HB3 := Lib.hid ((Below.alloc HB2.out HB2.out.size _).trans (ho3.below (by have := Hz.out; omega) (Below.alloc HB2.out HB2.out.size _).size))
  have HA3 := Lib.hid (And.intro ((HA2.out.1.alloc _).only ho3 (by have := Hz.out; omega)) (And.intro ((HA2.out.2.alloc _).only ho3 (by have := Hz.out; omega)) (Blk.only (R := w2.heap.size) (vs := #[.float .f32 a1, .float .f32 a2]) (T := 32) (Blk.new rfl) ho3 (by omega))))
  clear s1 s2 s3 hc3 ho3 hl2
  unfold pv
  have t0 := HA3.out.2.2.cell 0 rfl
  have t1 := HA3.out.2.2.cell 1 rfl
  have tl := HA3.out.2.2.lt
  go_wp2_with fail
  have hlB : B < w2.heap.size := HC2.out.lt
  have hlB3 := HC3.out.lt
  have htl : w2.heap.size < w3.heap.size := HA3.out.2.2.lt
  refine (below_any _ _ 4 _ (HC3.out.alloc _) (by omega)).mono ?_
  rintro e w4 ⟨r, r0, r1, rfl, hc4, ho4⟩
  have r2 : r < 4 := r1 (by omega)
  have HB4 := Lib.hid ((Below.alloc HB3.out HB3.out.size _).trans (ho4.below (by have := Hz.out; omega) (Below.alloc HB3.out HB3.out.size _).size))
  have HA4 := Lib.hid (show Blk w4 w.heap.size #[.float .f32 0, .float .f32 0] 32 ∧ Blk w4 (w.heap.size + 1) #[.float .f32 0, .float .f32 0] 32 ∧ Blk w4 w2.heap.size #[.float .f32 a1, .float .f32 a2] 32 ∧ Blk w4 w3.heap.size #[.float .f32 b1, .float .f32 b2] 32 from
    ⟨(HA3.out.1.alloc _).only ho4 (by have := Hz.out; omega), (HA3.out.2.1.alloc _).only ho4 (by have := Hz.out; omega), (HA3.out.2.2.alloc _).only ho4 (by omega), Blk.only (Blk.new rfl) ho4 (by omega)⟩)
  have hA7 : w.heap.size + 1 < w2.heap.size := by have := Hz.out; omega
  clear hc4 ho4 r1 t0 t1 tl hlB hlB3
  generalize w2.heap.size = P7 at *
  generalize w3.heap.size = P8 at *
  have t0 := HA4.out.2.2.1.cell 0 rfl
  have t1 := HA4.out.2.2.1.cell 1 rfl
  have v0 := HA4.out.2.2.2.cell 0 rfl
  have v1 := HA4.out.2.2.2.cell 1 rfl
  have hrc : r = 0 ∨ r = 1 ∨ r = 2 ∨ r = 3 := by omega
  clear r0 r2
  have Hx := Lib.hid (And.intro (And.intro (fn_num HS1.out.1.fn) HS1.out.1.1) (And.intro (fn_num HS1.out.2.1.fn) HS1.out.2.1.1))
  have Hy := Lib.hid (And.intro (And.intro (fn_num HS2.out.1.fn) HS2.out.1.1) (And.intro (fn_num HS2.out.2.1.fn) HS2.out.2.1.1))
  clear t0 t1 v0 v1
  rcases hrc with rfl | rfl | rfl | rfl
  · have f0 := HA4.out.1.cell 0 rfl
    have f1 := HA4.out.1.cell 1 rfl
    have f2 := HA4.out.1.free 0
    have f3 := HA4.out.1.free 1
    have g0 := HA4.out.2.1.cell 0 rfl
    have g1 := HA4.out.2.1.cell 1 rfl
    have g2 := HA4.out.2.1.free 0
    have g3 := HA4.out.2.1.free 1
    have t0 := HA4.out.2.2.1.cell 0 rfl
    have t1 := HA4.out.2.2.1.cell 1 rfl
    have v0 := HA4.out.2.2.2.cell 0 rfl
    have v1 := HA4.out.2.2.2.cell 1 rfl
    go_wp2_with fail
    go_big_region
    go_wp2_with fail
    obtain ⟨d0, d1, d2, d3⟩ := Blk.pair HA4.out.1 HA4.out.2.1 (by omega) a1 a2 b1 b2
    refine bodyPost_ret (by simp [results, Try.results29, go_sem, d0, d1, d2, d3]; try rfl) rfl ?_
    refine ⟨a1, a2, b1, b2, a2, b2, HS1.out, HS2.out, Hx.out.2, Hy.out.2, rfl, ?_⟩
    (repeat' (first | exact HB4.out | refine Below.setCell ?_ ?_ _ | refine Below.drew ?_))
    all_goals (simp; try omega)
  · have f0 := HA4.out.1.cell 0 rfl
    have f1 := HA4.out.1.cell 1 rfl
    have f2 := HA4.out.1.free 0
    have f3 := HA4.out.1.free 1
    have g0 := HA4.out.2.1.cell 0 rfl
    have g1 := HA4.out.2.1.cell 1 rfl
    have g2 := HA4.out.2.1.free 0
    have g3 := HA4.out.2.1.free 1
    have t0 := HA4.out.2.2.1.cell 0 rfl
    have t1 := HA4.out.2.2.1.cell 1 rfl
    have v0 := HA4.out.2.2.2.cell 0 rfl
    have v1 := HA4.out.2.2.2.cell 1 rfl
    go_wp2_with fail
    go_big_region
    go_wp2_with fail
    obtain ⟨d0, d1, d2, d3⟩ := Blk.pair HA4.out.1 HA4.out.2.1 (by omega) a1 a2 b1 b2
    refine bodyPost_ret (by simp [results, Try.results29, go_sem, d0, d1, d2, d3]; try rfl) rfl ?_
    refine ⟨a1, a2, b1, b2, a1, b1, HS1.out, HS2.out, Hx.out.1, Hy.out.1, rfl, ?_⟩
    (repeat' (first | exact HB4.out | refine Below.setCell ?_ ?_ _ | refine Below.drew ?_))
    all_goals (simp; try omega)
  · have f0 := HA4.out.1.cell 0 rfl
    have f1 := HA4.out.1.cell 1 rfl
    have f2 := HA4.out.1.free 0
    have f3 := HA4.out.1.free 1
    have g0 := HA4.out.2.1.cell 0 rfl
    have g1 := HA4.out.2.1.cell 1 rfl
    have g2 := HA4.out.2.1.free 0
    have g3 := HA4.out.2.1.free 1
    have t0 := HA4.out.2.2.1.cell 0 rfl
    have t1 := HA4.out.2.2.1.cell 1 rfl
    have v0 := HA4.out.2.2.2.cell 0 rfl
    have v1 := HA4.out.2.2.2.cell 1 rfl
    have hlst := fun W (h : Blk W w4.heap.size #[.float .f32 a1, .float .f32 a2] 24) => spec_mean (some ⟨w4.heap.size, 0, none⟩) 2 2 (two a1 a2) W (by omega) (two_lst h (wf_single HS1.out.1.1) (wf_single HS1.out.2.1.1))
    have Hm := Lib.hid (fun h => mean_num (n := 2) (X := two a1 a2) h)
    generalize meanN 2 (two a1 a2) = m at *
    generalize meanB 2 (two a1 a2) = ok at *
    have Hl := Lib.hid hlst
    clear hlst
    go_wp2_with fail
    refine (Hl.out _ (Blk.new rfl)).mono ?_
    rintro e w5 ⟨rfl, nn, hw5⟩
    have HB5 := Lib.hid (show Below w.heap.size w w5 by rw [hw5]; exact below_drewN (Below.alloc HB4.out HB4.out.size _) _)
    have HA5 := Lib.hid (show Blk w5 w.heap.size #[.float .f32 0, .float .f32 0] 32 ∧ Blk w5 (w.heap.size + 1) #[.float .f32 0, .float .f32 0] 32 ∧ Blk w5 P7 #[.float .f32 a1, .float .f32 a2] 32 ∧ Blk w5 P8 #[.float .f32 b1, .float .f32 b2] 32 by
      rw [hw5]; exact ⟨(HA4.out.1.alloc _).drewN _, (HA4.out.2.1.alloc _).drewN _, (HA4.out.2.2.1.alloc _).drewN _, (HA4.out.2.2.2.alloc _).drewN _⟩)
    clear hw5 f0 f1 f2 f3 g0 g1 g2 g3 t0 t1 v0 v1
    have f0 := HA5.out.1.cell 0 rfl
    have f1 := HA5.out.1.cell 1 rfl
    have f2 := HA5.out.1.free 0
    have f3 := HA5.out.1.free 1
    have g0 := HA5.out.2.1.cell 0 rfl
    have g1 := HA5.out.2.1.cell 1 rfl
    have g2 := HA5.out.2.1.free 0
    have g3 := HA5.out.2.1.free 1
    have t0 := HA5.out.2.2.1.cell 0 rfl
    have t1 := HA5.out.2.2.1.cell 1 rfl
    have v0 := HA5.out.2.2.2.cell 0 rfl
    have v1 := HA5.out.2.2.2.cell 1 rfl
    cases ok
    · go_wp2_with fail
      go_big_region
      go_wp2_with fail
      obtain ⟨d0, d1, d2, d3⟩ := Blk.pair HA5.out.1 HA5.out.2.1 (by omega) a1 a2 b1 b2
      refine bodyPost_ret (by simp [results, Try.results29, go_sem, d0, d1, d2, d3]; try rfl) rfl ?_
      refine ⟨a1, a2, b1, b2, a1, b2, HS1.out, HS2.out, Hx.out.1, Hy.out.2, rfl, ?_⟩
      (repeat' (first | exact HB5.out | refine Below.setCell ?_ ?_ _ | refine Below.drew ?_))
      all_goals (simp; try omega)
    · have hm := Lib.hid (Hm.out (by first | rfl | trivial))
      go_wp2_with fail
      go_big_region
      go_wp2_with fail
      obtain ⟨d0, d1, d2, d3⟩ := Blk.pair HA5.out.1 HA5.out.2.1 (by omega) a1 a2 b1 b2
      refine bodyPost_ret (by simp [results, Try.results29, go_sem, d0, d1, d2, d3]; try rfl) rfl ?_
      refine ⟨a1, a2, b1, b2, m, b2, HS1.out, HS2.out, hm.out, Hy.out.2, rfl, ?_⟩
      (repeat' (first | exact HB5.out | refine Below.setCell ?_ ?_ _ | refine Below.drew ?_))
      all_goals (simp; try omega)
  · have f0 := HA4.out.1.cell 0 rfl
    have f1 := HA4.out.1.cell 1 rfl
    have f2 := HA4.out.1.free 0
    have f3 := HA4.out.1.free 1
    have g0 := HA4.out.2.1.cell 0 rfl
    have g1 := HA4.out.2.1.cell 1 rfl
    have g2 := HA4.out.2.1.free 0
    have g3 := HA4.out.2.1.free 1
    have t0 := HA4.out.2.2.1.cell 0 rfl
    have t1 := HA4.out.2.2.1.cell 1 rfl
    have v0 := HA4.out.2.2.2.cell 0 rfl
    have v1 := HA4.out.2.2.2.cell 1 rfl
    go_wp2_with fail
    go_big_region
    go_wp2_with fail
    obtain ⟨d0, d1, d2, d3⟩ := Blk.pair HA4.out.1 HA4.out.2.1 (by omega) a1 a2 b1 b2
    refine bodyPost_ret (by simp [results, Try.results29, go_sem, d0, d1, d2, d3]; try rfl) rfl ?_
    refine ⟨a1, a2, b1, b2, a1, b2, HS1.out, HS2.out, Hx.out.1, Hy.out.2, rfl, ?_⟩
    (repeat' (first | exact HB4.out | refine Below.setCell ?_ ?_ _ | refine Below.drew ?_))
    all_goals (simp; try omega)
end Go.Proofs.Ytjmmcpeknaaaiaa.Spn
