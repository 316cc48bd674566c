/- Plain facts and the draw of a list: the sum of the amounts step by step, the bound on the two sums as a comparison of doubles; DrawList. -/
import Derived.Test.YtlbapogmcnpmeaaLsD
import Derived.Test.YtlbapogmcnpmeaaAvgJ
import Derived.Test.YtlbapogmcnpmeaaAvgS
namespace Go.Proofs.Ytlbapogmcnpmeaa.Avg
open Go.ChangeShapes Go.WideShapes Go.ChangeAt Go.RowKit Go.Deep Go.Proofs.Ytlbapogmcnpmeaa Go.Proofs.Ytlbapogmcnpmeaa.Flt Go.Proofs.Ytlbapogmcnpmeaa.Mth Go.Proofs.Ytlbapogmcnpmeaa.Sgl Go.Proofs.Ytlbapogmcnpmeaa.Drw
open Ieee (single double)
set_option linter.unusedVariables false
theorem le64 (x y : Nat) : (FloatKind.f64.format.order x y == some .lt || FloatKind.f64.format.order x y == some .eq) = (!isNaN double x && !isNaN double y && decide (sv double x ≤ sv double y)) := by
  rw [lt64, eq64]
  unfold ltW eqW
  cases isNaN double x <;> cases isNaN double y <;> simp
  rw [Bool.eq_iff_iff]
  simp
  omega
theorem leq_two {a b M c : Nat} (hc : rung double c < double.infRung) (hcs : sgn double c = false) (ha : rung double a < double.infRung) (hb : rung double b < double.infRung) (hM : rung double M < double.infRung)
    (h : (sv double a - sv double b).natAbs * PV ≤ (sv double M).natAbs * mg double (rung double c)) (h0 : 0 ≤ sv double M) :
    ∃ d p, floatBits .sub .f64 a b = some d ∧ floatBits .mul .f64 M c = some p ∧ (FloatKind.f64.format.order d p == some .lt || FloatKind.f64.format.order d p == some .eq) = true := by
  obtain ⟨d, d1, d2, d3, d4, d5⟩ := sub_valD ha hb
  obtain ⟨C, hC⟩ : ∃ C, mg double (rung double c) = C := ⟨_, rfl⟩
  obtain ⟨q, hq⟩ : ∃ q, mulRung double (rung double M) (rung double c) = q := ⟨_, rfl⟩
  have hmul : floatBits .mul .f64 M c = some (double.word (sgn double M) q) := by
    show double.mul M c = _
    rw [mul_rr double least_le_d hM hc, hcs, Bool.xor_false, hq]
  have hle : q ≤ double.infRung := by rw [← hq]; unfold mulRung; exact Nat.min_le_right _ _
  have hz := h
  rw [sv_abs, hC] at hz
  unfold mulRung at hq
  rw [lamPV, hC] at hq
  have hrr : min (rr double (sv double a - sv double b).natAbs 1) double.infRung ≤ q := by
    rw [← hq]
    have := rr_mono double (N := (sv double a - sv double b).natAbs) (D := 1) (N' := mg double (rung double M) * C) (D' := PV) Nat.one_pos PV_pos (by rw [Nat.mul_one]; exact hz)
    generalize rr double (mg double (rung double M) * C) PV = u at *
    generalize rr double (sv double a - sv double b).natAbs 1 = v at *
    generalize double.infRung = t at *
    omega
  have hp : sv double (double.word (sgn double M) q) = ((mg double q : Nat) : Int) := by
    rw [word_sv double _ hle]
    cases hs : sgn double M
    · rfl
    · have e : sv double M = -((mg double (rung double M) : Nat) : Int) := by unfold sv; rw [hs]; rfl
      have e0 : mg double (rung double M) = 0 := by
        rw [e] at h0
        generalize mg double (rung double M) = u at *
        omega
      have q0 : q = 0 := by
        rw [← hq, e0, Nat.zero_mul, rr_zero double PV_pos]
        exact Nat.zero_min _
      rw [q0, mg_zero]; rfl
  refine ⟨d, _, d1, hmul, ?_⟩
  rw [le64, d3, word_nan double _ hle, d5, hp]
  have h9 : rndD (sv double a - sv double b) ≤ ((mg double (min (rr double (sv double a - sv double b).natAbs 1) double.infRung) : Nat) : Int) := by
    unfold rndD
    generalize mg double (min (rr double (sv double a - sv double b).natAbs 1) double.infRung) = u
    split <;> omega
  have h10 := mg_le double hrr
  generalize mg double (min (rr double (sv double a - sv double b).natAbs 1) double.infRung) = u at *
  generalize rndD (sv double a - sv double b) = v at *
  generalize mg double q = t at *
  rw [decide_eq_true (by omega)]
  rfl
theorem fin32 {n : Nat} {X : Nat → Nat} (h : FineF n X) : Fin32 (els n X) := fun x hx => by
  obtain ⟨i, hi, rfl⟩ := els_mem hx
  exact ⟨(h i hi).2, lt_single' (h i hi).1⟩
theorem FineF.mono {n m : Nat} {X : Nat → Nat} (h : FineF n X) (hm : m ≤ n) : FineF m X := fun j hj => h j (by omega)
theorem good_of {n : Nat} {X : Nat → Nat} (h : FineF n X) (hn : n ≤ 64) : goodB n X = true := good_iff.2 ⟨hn, fun j hj => (h j hj).2⟩
theorem mos_bd {n : Nat} {X : Nat → Nat} (h : FineF n X) (hn : n ≤ 64) (B : Nat) (hB : amS (els n X) + 4503599627370496 ≤ B) : Bd 0 hiW n (mosF 0 (els n X)) ∧ Er B n (mosF 0 (els n X)) (amS (els n X) : Int) (amS (els n X)) := by
  have z0 : amS [] = 0 := by simp [amS]
  have := mos_er (B := B) (els n X) [] 0 (Bd.zero 0 hiW) (by rw [z0]; exact Er.zero (by omega)) (fin32 h) (by rw [els_len]; simp; omega) (by rw [List.nil_append]; exact hB)
  rw [List.nil_append, List.length_nil, els_len, Nat.zero_add] at this
  exact this
theorem mos_at {n k : Nat} {X : Nat → Nat} (hn : n ≤ 64) (hk : k < n) (h : FineF n X) :
    if sv single (X k) < 0 then floatBits .sub .f64 (mosF 0 (els k X)) (widen (X k)) = some (mosF 0 (els (k + 1) X)) else floatBits .add .f64 (mosF 0 (els k X)) (widen (X k)) = some (mosF 0 (els (k + 1) X)) := by
  obtain ⟨b, e⟩ := mos_bd (FineF.mono h (by omega : k ≤ n)) (by omega) (amS (els k X) + (vW (X k)).natAbs + 4503599627370496) (by omega)
  have := (mos_step b e ⟨(h k hk).2, lt_single' (h k hk).1⟩ (by omega) (Nat.le_refl _)).1
  rw [els_succ, mosF_snoc]
  exact this
theorem lt_zero {x : Nat} (h : finB x = true) : ltB x 0 = decide (sv single x < 0) := by
  have h0 : sv single 0 = 0 := (sv_eq_zero single).2 (by decide)
  unfold ltB
  rw [lt32]
  unfold ltW
  rw [fin_num h, show isNaN single 0 = false by decide, h0]
  rfl
/-- both sums, and the bound -/
theorem two_leq {n : Nat} {X : Nat → Nat} (h : FineF n X) (hn : n ≤ 64) : ∃ d p d', floatBits .sub .f64 (sumN n X) (pairN n X) = some d ∧ floatBits .mul .f64 (mosF 0 (els n X)) 4427486594234968593 = some p ∧ (FloatKind.f64.format.order d p == some .lt || FloatKind.f64.format.order d p == some .eq) = true ∧
    floatBits .sub .f64 (pairN n X) (sumN n X) = some d' ∧ (FloatKind.f64.format.order d' p == some .lt || FloatKind.f64.format.order d' p == some .eq) = true := by
  have hg := good_of h hn
  have hs : sumN n X = sumF 0 (els n X) := by unfold sumN; rw [if_pos hg]
  have hp : pairN n X = halN n X := by unfold pairN; rw [if_pos hg]
  have b1 := (sum_bd hn (good_iff.1 hg).2).f
  have b2 := (hal_bd n X hn (good_iff.1 hg).2).f
  have b3 := (mos_bd h hn _ (Nat.le_refl _)).1.f
  obtain ⟨k1, k2⟩ := two_sums (fin32 h) (by rw [els_len]; exact hn)
  rw [els_len] at k1
  obtain ⟨d, p, e1, e2, e3⟩ := leq_two (c := cW) cW_f.1 cW_f.2 b1 b2 b3 k1 k2
  obtain ⟨d', p', e4, e5, e6⟩ := leq_two (c := cW) cW_f.1 cW_f.2 b2 b1 b3 (by rw [show (sv double (halN n X) - sv double (sumF 0 (els n X))).natAbs = (sv double (sumF 0 (els n X)) - sv double (halF n (els n X))).natAbs by unfold halN; omega]; exact k1) k2
  rw [e2] at e5
  cases e5
  rw [hs, hp]
  exact ⟨d, p, d', e1, e2, e3, e4, e6⟩
theorem lst_of {base : Nat} {w : World} {g cp r : Nat} {X : Nat → Nat} (h : OwnF base w (.slice (some ⟨g, 0, none⟩) r cp) r X) (hX : FineF r X) : LstF w (some ⟨g, 0, none⟩) r X :=
  ⟨fun i hi => (hX i hi).1, .inr ⟨g, 0, rfl, (ownF_cells h).2.1, (ownF_cells h).2.2.2⟩⟩
theorem own_cap {base : Nat} {w : World} {g cp r : Nat} {X : Nat → Nat} (h : OwnF base w (.slice (some ⟨g, 0, none⟩) r cp) r X) : r ≤ cp ∧ cp ≤ maxLen := by
  rcases h.2 with ⟨e, _⟩ | ⟨g', cap, cur, e, hb, hg, hh, hm, rest⟩
  · cases e
  · cases e
    exact ⟨hh, hm⟩
/-- a list and a number of its elements -/
def DrawL (w : World) (e : Ending) (w' : World) : Prop :=
  ∃ (r g cp : Nat) (X : Nat → Nat) (k : Nat), r ≤ 9 ∧ k ≤ r ∧ Hid (FineF r X) ∧ e = .returned (.tuple #[.slice (some ⟨g, 0, none⟩) r cp, .int .i64 (k : Int)]) ∧ OwnF w.heap.size w' (.slice (some ⟨g, 0, none⟩) r cp) r X ∧ Below w.heap.size w w'
set_option maxHeartbeats 400000 in
theorem drawList (a : Option Addr) (len cap : Nat) (zs : List Int) (w : World) (hr : IsRow .u8 w a len cap zs) :
    Calls Try.prog 40 #[.slice a len cap] w (DrawL w) := by
  go_enter Try.func40, Try.ntmps40
  go_wp2_with fail
  refine (new_any a len cap zs _ hr).mono ?_
  rintro e w1 ⟨rfl, hc, hb⟩
  have Hb := Lib.hid hb
  have hcl := hc.lt
  clear hb hr
  go_wp2_with fail
  refine (list_any _ _ _ hc).mono ?_
  rintro e w2 ⟨r, g, cp, X, hr9, hX, rfl, hown, hc2, ho2⟩
  have H2 := Lib.hid (And.intro hc2 (And.intro (Hb.out.trans (ho2.below (Nat.le_refl _) Hb.out.size)) hown))
  have hs2 := ho2.size
  clear hown hc ho2 hc2
  have hw1 : IntKind.i64.wrap ((r : Int) + 1) = ((r + 1 : Nat) : Int) := by rw [IntKind.wrap_i64]; omega
  go_wp2_with fail
  refine (below_any _ _ _ _ H2.out.1 (by omega)).mono ?_
  rintro e w3 ⟨rr, r0, r1, rfl, hc3, ho3⟩
  obtain ⟨k, rfl⟩ := Int.eq_ofNat_of_zero_le r0
  have hk : k ≤ r := by have := r1 (by omega); omega
  have H3 := Lib.hid (And.intro (H2.out.2.1.trans (ho3.below (Nat.le_refl _) H2.out.2.1.size)) (own_mono (ownF_only H2.out.2.2 ho3 hcl) Hb.out.size))
  clear hc3 ho3 r0 r1
  go_wp2_with fail
  go_ret2
  exact ⟨r, g, cp, X, k, hr9, hk, hX, rfl, H3.out.2, H3.out.1⟩
end Go.Proofs.Ytlbapogmcnpmeaa.Avg
