/- Several texts in one: AvgX, AvgK, AvgV, AvgW, AvgZ. -/
import Derived.Test.YtlbapogmcnpmeaaLsD
import Derived.Test.YtlbapogmcnpmeaaAvgJ
import Derived.Test.YtlbapogmcnpmeaaAvgS
import Derived.Test.YtlbapogmcnpmeaaAvgU
import Derived.Test.YtlbapogmcnpmeaaAvgR
/- Plain facts and the draw of a list: the sum of the amounts step by step, the bound on the two sums as a comparison of doubles; DrawList. -/
namespace Go.Proofs.Ytlbapogmcnpmeaa.Avg
open Go.ChangeShapes Go.WideShapes Go.ChangeAt Go.RowKit Go.Deep Go.Proofs.Ytlbapogmcnpmeaa Go.Proofs.Ytlbapogmcnpmeaa.Flt Go.Proofs.Ytlbapogmcnpmeaa.Mth Go.Proofs.Ytlbapogmcnpmeaa.Sgl Go.Proofs.Ytlbapogmcnpmeaa.Drw
open Ieee (single double)
set_option linter.unusedVariables false
theorem le64 (x y : Nat) : (FloatKind.f64.format.order x y == some .lt || FloatKind.f64.format.order x y == some .eq) = (!isNaN double x && !isNaN double y && decide (sv double x ≤ sv double y)) := by
  rw [lt64, eq64]
  unfold ltW eqW
  cases isNaN double x <;> cases isNaN double y <;> simp
  rw [Bool.eq_iff_iff]
  simp
  omega
theorem leq_two {a b M c : Nat} (hc : rung double c < double.infRung) (hcs : sgn double c = false) (ha : rung double a < double.infRung) (hb : rung double b < double.infRung) (hM : rung double M < double.infRung)
    (h : (sv double a - sv double b).natAbs * PV ≤ (sv double M).natAbs * mg double (rung double c)) (h0 : 0 ≤ sv double M) :
    ∃ d p, floatBits .sub .f64 a b = some d ∧ floatBits .mul .f64 M c = some p ∧ (FloatKind.f64.format.order d p == some .lt || FloatKind.f64.format.order d p == some .eq) = true := by
  obtain ⟨d, d1, d2, d3, d4, d5⟩ := sub_valD ha hb
  obtain ⟨C, hC⟩ : ∃ C, mg double (rung double c) = C := ⟨_, rfl⟩
  obtain ⟨q, hq⟩ : ∃ q, mulRung double (rung double M) (rung double c) = q := ⟨_, rfl⟩
  have hmul : floatBits .mul .f64 M c = some (double.word (sgn double M) q) := by
    show double.mul M c = _
    rw [mul_rr double least_le_d hM hc, hcs, Bool.xor_false, hq]
  have hle : q ≤ double.infRung := by rw [← hq]; unfold mulRung; exact Nat.min_le_right _ _
  have hz := h
  rw [sv_abs, hC] at hz
  unfold mulRung at hq
  rw [lamPV, hC] at hq
  have hrr : min (rr double (sv double a - sv double b).natAbs 1) double.infRung ≤ q := by
    rw [← hq]
    have := rr_mono double (N := (sv double a - sv double b).natAbs) (D := 1) (N' := mg double (rung double M) * C) (D' := PV) Nat.one_pos PV_pos (by rw [Nat.mul_one]; exact hz)
    generalize rr double (mg double (rung double M) * C) PV = u at *
    generalize rr double (sv double a - sv double b).natAbs 1 = v at *
    generalize double.infRung = t at *
    omega
  have hp : sv double (double.word (sgn double M) q) = ((mg double q : Nat) : Int) := by
    rw [word_sv double _ hle]
    cases hs : sgn double M
    · rfl
    · have e : sv double M = -((mg double (rung double M) : Nat) : Int) := by unfold sv; rw [hs]; rfl
      have e0 : mg double (rung double M) = 0 := by
        rw [e] at h0
        generalize mg double (rung double M) = u at *
        omega
      have q0 : q = 0 := by
        rw [← hq, e0, Nat.zero_mul, rr_zero double PV_pos]
        exact Nat.zero_min _
      rw [q0, mg_zero]; rfl
  refine ⟨d, _, d1, hmul, ?_⟩
  rw [le64, d3, word_nan double _ hle, d5, hp]
  have h9 : rndD (sv double a - sv double b) ≤ ((mg double (min (rr double (sv double a - sv double b).natAbs 1) double.infRung) : Nat) : Int) := by
    unfold rndD
    generalize mg double (min (rr double (sv double a - sv double b).natAbs 1) double.infRung) = u
    split <;> omega
  have h10 := mg_le double hrr
  generalize mg double (min (rr double (sv double a - sv double b).natAbs 1) double.infRung) = u at *
  generalize rndD (sv double a - sv double b) = v at *
  generalize mg double q = t at *
  rw [decide_eq_true (by omega)]
  rfl
theorem fin32 {n : Nat} {X : Nat → Nat} (h : FineF n X) : Fin32 (els n X) := fun x hx => by
  obtain ⟨i, hi, rfl⟩ := els_mem hx
  exact ⟨(h i hi).2, lt_single' (h i hi).1⟩
theorem FineF.mono {n m : Nat} {X : Nat → Nat} (h : FineF n X) (hm : m ≤ n) : FineF m X := fun j hj => h j (by omega)
theorem good_of {n : Nat} {X : Nat → Nat} (h : FineF n X) (hn : n ≤ 64) : goodB n X = true := good_iff.2 ⟨hn, fun j hj => (h j hj).2⟩
theorem mos_bd {n : Nat} {X : Nat → Nat} (h : FineF n X) (hn : n ≤ 64) (B : Nat) (hB : amS (els n X) + 4503599627370496 ≤ B) : Bd 0 hiW n (mosF 0 (els n X)) ∧ Er B n (mosF 0 (els n X)) (amS (els n X) : Int) (amS (els n X)) := by
  have z0 : amS [] = 0 := by simp [amS]
  have := mos_er (B := B) (els n X) [] 0 (Bd.zero 0 hiW) (by rw [z0]; exact Er.zero (by omega)) (fin32 h) (by rw [els_len]; simp; omega) (by rw [List.nil_append]; exact hB)
  rw [List.nil_append, List.length_nil, els_len, Nat.zero_add] at this
  exact this
theorem mos_at {n k : Nat} {X : Nat → Nat} (hn : n ≤ 64) (hk : k < n) (h : FineF n X) :
    if sv single (X k) < 0 then floatBits .sub .f64 (mosF 0 (els k X)) (widen (X k)) = some (mosF 0 (els (k + 1) X)) else floatBits .add .f64 (mosF 0 (els k X)) (widen (X k)) = some (mosF 0 (els (k + 1) X)) := by
  obtain ⟨b, e⟩ := mos_bd (FineF.mono h (by omega : k ≤ n)) (by omega) (amS (els k X) + (vW (X k)).natAbs + 4503599627370496) (by omega)
  have := (mos_step b e ⟨(h k hk).2, lt_single' (h k hk).1⟩ (by omega) (Nat.le_refl _)).1
  rw [els_succ, mosF_snoc]
  exact this
theorem lt_zero {x : Nat} (h : finB x = true) : ltB x 0 = decide (sv single x < 0) := by
  have h0 : sv single 0 = 0 := (sv_eq_zero single).2 (by decide)
  unfold ltB
  rw [lt32]
  unfold ltW
  rw [fin_num h, show isNaN single 0 = false by decide, h0]
  rfl
/-- both sums, and the bound -/
theorem two_leq {n : Nat} {X : Nat → Nat} (h : FineF n X) (hn : n ≤ 64) : ∃ d p d', floatBits .sub .f64 (sumN n X) (pairN n X) = some d ∧ floatBits .mul .f64 (mosF 0 (els n X)) 4427486594234968593 = some p ∧ (FloatKind.f64.format.order d p == some .lt || FloatKind.f64.format.order d p == some .eq) = true ∧
    floatBits .sub .f64 (pairN n X) (sumN n X) = some d' ∧ (FloatKind.f64.format.order d' p == some .lt || FloatKind.f64.format.order d' p == some .eq) = true := by
  have hg := good_of h hn
  have hs : sumN n X = sumF 0 (els n X) := by unfold sumN; rw [if_pos hg]
  have hp : pairN n X = halN n X := by unfold pairN; rw [if_pos hg]
  have b1 := (sum_bd hn (good_iff.1 hg).2).f
  have b2 := (hal_bd n X hn (good_iff.1 hg).2).f
  have b3 := (mos_bd h hn _ (Nat.le_refl _)).1.f
  obtain ⟨k1, k2⟩ := two_sums (fin32 h) (by rw [els_len]; exact hn)
  rw [els_len] at k1
  obtain ⟨d, p, e1, e2, e3⟩ := leq_two (c := cW) cW_f.1 cW_f.2 b1 b2 b3 k1 k2
  obtain ⟨d', p', e4, e5, e6⟩ := leq_two (c := cW) cW_f.1 cW_f.2 b2 b1 b3 (by rw [show (sv double (halN n X) - sv double (sumF 0 (els n X))).natAbs = (sv double (sumF 0 (els n X)) - sv double (halF n (els n X))).natAbs by unfold halN; omega]; exact k1) k2
  rw [e2] at e5
  cases e5
  rw [hs, hp]
  exact ⟨d, p, d', e1, e2, e3, e4, e6⟩
theorem lst_of {base : Nat} {w : World} {g cp r : Nat} {X : Nat → Nat} (h : OwnF base w (.slice (some ⟨g, 0, none⟩) r cp) r X) (hX : FineF r X) : LstF w (some ⟨g, 0, none⟩) r X :=
  ⟨fun i hi => (hX i hi).1, .inr ⟨g, 0, rfl, (ownF_cells h).2.1, (ownF_cells h).2.2.2⟩⟩
theorem own_cap {base : Nat} {w : World} {g cp r : Nat} {X : Nat → Nat} (h : OwnF base w (.slice (some ⟨g, 0, none⟩) r cp) r X) : r ≤ cp ∧ cp ≤ maxLen := by
  rcases h.2 with ⟨e, _⟩ | ⟨g', cap, cur, e, hb, hg, hh, hm, rest⟩
  · cases e
  · cases e
    exact ⟨hh, hm⟩
/-- a list and a number of its elements -/
def DrawL (w : World) (e : Ending) (w' : World) : Prop :=
  ∃ (r g cp : Nat) (X : Nat → Nat) (k : Nat), r ≤ 9 ∧ k ≤ r ∧ Hid (FineF r X) ∧ e = .returned (.tuple #[.slice (some ⟨g, 0, none⟩) r cp, .int .i64 (k : Int)]) ∧ OwnF w.heap.size w' (.slice (some ⟨g, 0, none⟩) r cp) r X ∧ Below w.heap.size w w'
set_option maxHeartbeats 400000 in
theorem drawList (a : Option Addr) (len cap : Nat) (zs : List Int) (w : World) (hr : IsRow .u8 w a len cap zs) :
    Calls Try.prog 40 #[.slice a len cap] w (DrawL w) := by
  go_enter Try.func40, Try.ntmps40
  go_wp2_with fail
  refine (new_any a len cap zs _ hr).mono ?_
  rintro e w1 ⟨rfl, hc, hb⟩
  have Hb := Lib.hid hb
  have hcl := hc.lt
  clear hb hr
  go_wp2_with fail
  refine (list_any _ _ _ hc).mono ?_
  rintro e w2 ⟨r, g, cp, X, hr9, hX, rfl, hown, hc2, ho2⟩
  have H2 := Lib.hid (And.intro hc2 (And.intro (Hb.out.trans (ho2.below (Nat.le_refl _) Hb.out.size)) hown))
  have hs2 := ho2.size
  clear hown hc ho2 hc2
  have hw1 : IntKind.i64.wrap ((r : Int) + 1) = ((r + 1 : Nat) : Int) := by rw [IntKind.wrap_i64]; omega
  go_wp2_with fail
  refine (below_any _ _ _ _ H2.out.1 (by omega)).mono ?_
  rintro e w3 ⟨rr, r0, r1, rfl, hc3, ho3⟩
  obtain ⟨k, rfl⟩ := Int.eq_ofNat_of_zero_le r0
  have hk : k ≤ r := by have := r1 (by omega); omega
  have H3 := Lib.hid (And.intro (H2.out.2.1.trans (ho3.below (Nat.le_refl _) H2.out.2.1.size)) (own_mono (ownF_only H2.out.2.2 ho3 hcl) Hb.out.size))
  clear hc3 ho3 r0 r1
  go_wp2_with fail
  go_ret2
  exact ⟨r, g, cp, X, k, hr9, hk, hX, rfl, H3.out.2, H3.out.1⟩
end Go.Proofs.Ytlbapogmcnpmeaa.Avg
/- The program's spread: outermost, spreadOf, SpreadOf. -/
namespace Go.Proofs.Ytlbapogmcnpmeaa.Avg
open Go.ChangeShapes Go.WideShapes Go.ChangeAt Go.RowKit Go.Deep Go.Proofs.Ytlbapogmcnpmeaa Go.Proofs.Ytlbapogmcnpmeaa.Flt Go.Proofs.Ytlbapogmcnpmeaa.Mth Go.Proofs.Ytlbapogmcnpmeaa.Sgl
open Ieee (single double)
set_option linter.unusedVariables false
set_option linter.unusedSimpArgs false
/-- the element that is left when each next one that lies farther out takes the place of the one found before -/
def outF (P : Nat → Nat → Bool) (X : Nat → Nat) : Nat → Nat
  | 0 => 0
  | k + 1 => if (decide (k = 0) || P (X k) (outF P X k)) = true then X k else outF P X k
theorem lt_sv {x y : Nat} (hx : finB x = true) (hy : finB y = true) : ltB x y = decide (sv single x < sv single y) := by
  have h := gt_sv hy hx
  rw [← h]
  unfold ltB gtB
  rw [lt32, gt32]
theorem ge32 (x y : Nat) : geB x y = (!isNaN single x && !isNaN single y && decide (sv single y ≤ sv single x)) := by
  unfold geB
  rw [gt32, eq32]
  unfold ltW eqW
  cases isNaN single x <;> cases isNaN single y <;> simp
  rw [Bool.eq_iff_iff]
  simp
  omega
theorem ge_sv {x y : Nat} (hx : finB x = true) (hy : finB y = true) : geB x y = decide (sv single y ≤ sv single x) := by
  rw [ge32, fin_num hx, fin_num hy]; rfl
theorem out_great {X : Nat → Nat} : ∀ n, 1 ≤ n → (∀ j, j < n → finB (X j) = true) → outF geB X n = srt X n (n - 1)
  | 0, h, _ => absurd h (by omega)
  | n + 1, _, hf => by
    have hp := posn_le (srt X n) (X n) n
    have hR : srt X (n + 1) n = if n = posn (srt X n) (X n) n then X n else srt X n (n - 1) := by
      show insF (srt X n) (posn (srt X n) (X n) n) (X n) n = _
      unfold insF
      rw [if_neg (by omega)]
    have hL : outF geB X (n + 1) = if (decide (n = 0) || geB (X n) (outF geB X n)) = true then X n else outF geB X n := rfl
    show outF geB X (n + 1) = srt X (n + 1) n
    by_cases h0 : n = 0
    · rw [hL, hR, decide_eq_true h0, Bool.true_or, if_pos rfl, if_pos (by omega)]
    · obtain ⟨m, rfl⟩ : ∃ m, n = m + 1 := ⟨n - 1, by omega⟩
      have ih := out_great (m + 1) (by omega) (fun j hj => hf j (by omega))
      rw [Nat.add_sub_cancel] at ih hR
      rw [hL, ih, decide_eq_false h0, Bool.false_or, hR]
      have hz := srt_fin (X := X) (n := m + 1) (fun j hj => hf j (by omega)) m (by omega)
      have hx := hf (m + 1) (by omega)
      rw [ge_sv hx hz]
      have hg := gt_sv hz hx
      have hpm := posn_le (srt X (m + 1)) (X (m + 1)) m
      have hP : posn (srt X (m + 1)) (X (m + 1)) (m + 1) = if gtB (srt X (m + 1) m) (X (m + 1)) = true then posn (srt X (m + 1)) (X (m + 1)) m else m + 1 := rfl
      by_cases hlt : sv single (X (m + 1)) < sv single (srt X (m + 1) m)
      · rw [hg, decide_eq_true hlt, if_pos rfl] at hP
        rw [decide_eq_false (by omega), if_neg (by simp), if_neg (by omega)]
      · rw [hg, decide_eq_false hlt, if_neg (by simp)] at hP
        rw [decide_eq_true (by omega), if_pos rfl, if_pos hP.symm]
theorem out_least {X : Nat → Nat} : ∀ n, 1 ≤ n → (∀ j, j < n → finB (X j) = true) → outF ltB X n = srt X n 0
  | 0, h, _ => absurd h (by omega)
  | n + 1, _, hf => by
    show (if (decide (n = 0) || ltB (X n) (outF ltB X n)) = true then X n else outF ltB X n) = insF (srt X n) (posn (srt X n) (X n) n) (X n) 0
    unfold insF
    by_cases h0 : n = 0
    · subst h0
      rw [if_pos (by simp), if_neg (by unfold posn; omega), if_pos (by unfold posn; rfl)]
    · have hf' : ∀ j, j < n → finB (X j) = true := fun j hj => hf j (by omega)
      have ih := out_least n (by omega) hf'
      rw [ih, decide_eq_false h0, Bool.false_or]
      have hz := srt_fin hf' 0 (by omega)
      have hx := hf n (by omega)
      rw [lt_sv hx hz]
      obtain ⟨h1, h2⟩ := posn_spec hx n (srt_fin hf') (srt_rises n hf')
      by_cases hp : posn (srt X n) (X n) n = 0
      · have := h2 0 (by omega) (by omega)
        rw [decide_eq_true this, if_pos rfl, if_neg (by omega), if_pos hp.symm]
      · have := h1 0 (by omega)
        rw [decide_eq_false (by omega), if_neg (by simp), if_pos (by omega)]
theorem ge_any (x y : Nat) (w : World) : Calls Try.prog 65 #[.float .f32 x, .float .f32 y] w fun e w' => e = .returned (.bool (geB x y)) ∧ w' = w := by
  have hb : geB x y = (FloatKind.f32.format.order x y == some .gt || FloatKind.f32.format.order x y == some .eq) := rfl
  have Hb := Lib.hid hb
  clear hb
  go_enter Try.func65, Try.ntmps65
  go_wp2
  go_ret
  exact ⟨ret_bool (by rw [Hb.out]), rfl⟩
theorem lt_any (x y : Nat) (w : World) : Calls Try.prog 66 #[.float .f32 x, .float .f32 y] w fun e w' => e = .returned (.bool (ltB x y)) ∧ w' = w := by
  have hb : ltB x y = (FloatKind.f32.format.order x y == some .lt) := rfl
  have Hb := Lib.hid hb
  clear hb
  go_enter Try.func66, Try.ntmps66
  go_wp2
  go_ret
  exact ⟨ret_bool (by rw [Hb.out]), rfl⟩
theorem ent_ge : ∀ args w, (callFunc 65 args).run Try.prog w = .ok (.enter 65 args) w := ent _ _ _ Try.func65 (by kernel_rfl) rfl
theorem ent_lt : ∀ args w, (callFunc 66 args).run Try.prog w = .ok (.enter 66 args) w := ent _ _ _ Try.func66 (by kernel_rfl) rfl
set_option maxHeartbeats 400000 in
theorem outer_any (P : Nat → Nat → Bool) (g : FuncId) (hcf : ∀ args w, (callFunc g args).run Try.prog w = .ok (.enter g args) w) (hcall : ∀ x y w, Calls Try.prog g #[.float .f32 x, .float .f32 y] w fun e w' => e = .returned (.bool (P x y)) ∧ w' = w)
    (a : Option Addr) (len cap : Nat) (X : Nat → Nat) (w : World) (hl : len ≤ 1048576) (h : LstF w a len X) :
    Calls Try.prog 64 #[.slice a len cap, .func (.func g) #[] #[]] w fun e w' => e = .returned (.float .f32 (outF P X len)) ∧ w' = w := by
  have H := Lib.hid h
  have Hcall := Lib.hid hcall
  clear h hcall
  go_enter Try.func64, Try.ntmps64
  go_wp2_with fail
  go_loopw [5, 10] (fun s i wr => ∃ k : Nat, i = .int .i64 k ∧ s = .float .f32 (outF P X k) ∧ k ≤ len ∧ wr = w)
    (fun _ i _ => len - (intOf i).toNat)
  case atStart => exact ⟨0, rfl, rfl, Nat.zero_le _, by first | rfl | trivial⟩
  case round =>
    obtain ⟨k, rfl, rfl, hk, hwr⟩ := hrel
    subst hwr
    by_cases hkl : k < len
    · obtain ⟨b, off, ha, hlt, hc⟩ := LstF.cells H.out (by omega)
      subst ha
      have a0 := hc k hkl
      have Hstep := Lib.hid (show outF P X (k + 1) = if (decide (k = 0) || P (X k) (outF P X k)) = true then X k else outF P X k from rfl)
      clear hc
      generalize outF P X k = s0 at *
      obtain ⟨s1, hs1⟩ : ∃ s1, outF P X (k + 1) = s1 := ⟨_, rfl⟩
      rw [hs1] at Hstep
      have Hs1 := Lib.hid hs1
      clear hs1
      by_cases h0 : (k : Int) = 0
      · have E1 := Lib.hid (show s1 = X k by rw [Hstep.out, decide_eq_true (by omega), Bool.true_or, if_pos rfl])
        have a00 : wr.cell? ⟨b, off, none⟩ = some (.float .f32 (X k)) := by have := a0; rwa [show off + k = off by omega] at this
        have h01 : k = 0 := by omega
        go_wp2_with fail
        go_roundw
        case rel => exact ⟨k + 1, by first | go_num | (simp; omega) | (rw [h01]; rfl), by rw [Hs1.out, E1.out]; first | rfl | rw [h01], by omega, by first | rfl | trivial⟩
        case measure => simp [intOf]; omega
      · have e1 : s1 = if P (X k) s0 = true then X k else s0 := by rw [Hstep.out, decide_eq_false (by omega), Bool.false_or]
        have E1 := Lib.hid e1
        clear e1
        go_wp2_with fail
        refine (Hcall.out _ _ _).mono ?_
        rintro e w9 ⟨rfl, hw9⟩
        subst w9
        cases hb : P (X k) s0
        · rw [hb] at E1
          clear hb
          go_wp2_with fail
          go_roundw
          case rel => exact ⟨k + 1, by go_num, by rw [Hs1.out, E1.out]; rfl, by omega, by first | rfl | trivial⟩
          case measure => simp [intOf]; omega
        · rw [hb] at E1
          clear hb
          go_wp2_with fail
          go_roundw
          case rel => exact ⟨k + 1, by go_num, by rw [Hs1.out, E1.out]; rfl, by omega, by first | rfl | trivial⟩
          case measure => simp [intOf]; omega
    · obtain rfl : k = len := by omega
      go_wp2_with fail
      go_ret
      exact ⟨rfl, rfl⟩
set_option maxHeartbeats 400000 in
theorem spreadOf_any (a : Option Addr) (len cap : Nat) (X : Nat → Nat) (w : World) (hg : meanB len X = true) (h : LstF w a len X) :
    Calls Try.prog 50 #[.slice a len cap] w fun e w' => Below w.heap.size w w' ∧ ((e = .returned (.float .f32 (sprD len X)) ∧ finB (sprD len X) = true) ∨ (e = .panicked left ∧ finB (sprD len X) = false)) := by
  have H := Lib.hid h
  have Hst := Lib.hid (fun q : Nat => below_drewN (Below.refl w.heap.size w) q)
  clear h
  obtain ⟨hq, h1⟩ := meanB_iff.1 hg
  obtain ⟨h64, hfin⟩ := good_iff.1 hq
  obtain ⟨i0, hi0, m0⟩ := srt_mem X len 0 (by omega)
  obtain ⟨i1, hi1, m1⟩ := srt_mem X len (len - 1) (by omega)
  have f0 : finB (srt X len 0) = true := by rw [m0]; exact hfin i0 hi0
  have f1 : finB (srt X len (len - 1)) = true := by rw [m1]; exact hfin i1 hi1
  have ks := fun w => run_float_arith (P := Try.prog) w .sub 30 .f32 _ _ _ (sub_fin f1 f0)
  have hd : subB (srt X len (len - 1)) (srt X len 0) = sprD len X := rfl
  rw [hd] at ks
  have C1 := Lib.hid (outer_any geB _ ent_ge ge_any a len cap X w (by omega) H.out)
  have C2 := Lib.hid (outer_any ltB _ ent_lt lt_any a len cap X w (by omega) H.out)
  rw [out_great len h1 hfin] at C1
  rw [out_least len h1 hfin] at C2
  clear m0 m1 f0 f1 hfin hd hq hg
  obtain ⟨d, hd⟩ : ∃ d, sprD len X = d := ⟨_, rfl⟩
  rw [hd] at ks
  have Hdd := Lib.hid hd
  clear hd
  have kw := fun w => run_widX (P := Try.prog) 30 23 d (by rw [Try.underlying30]; rfl) Try.underlying23 w
  generalize srt X len (len - 1) = y at *
  generalize srt X len 0 = z at *
  rw [Hdd.out]
  go_enter Try.func50, Try.ntmps50
  go_wp2_with fail
  refine C1.out.mono ?_
  rintro e w9 ⟨rfl, hw9⟩
  subst w9
  go_wp2_with fail
  refine C2.out.mono ?_
  rintro e w9 ⟨rfl, hw9⟩
  subst w9
  go_wp2_with fail
  refine (fin_any _ _ (widX_wid d _).1).mono ?_
  rintro e w9 ⟨rfl, hw9⟩
  subst w9
  rw [isFin_wid (widX_wid d _)]
  cases hf : finB d
  · go_wp2_with fail
    refine (leave_no _).mono ?_
    rintro e w9 ⟨rfl, hw9⟩
    subst w9
    go_wp2_with fail
    exact ⟨rfl, Hst.out _, .inr ⟨rfl, by first | rfl | exact hf⟩⟩
  · go_wp2_with fail
    refine (leave_yes _).mono ?_
    rintro e w9 ⟨rfl, hw9⟩
    subst w9
    go_wp2_with fail
    go_ret
    exact ⟨Hst.out _, .inl ⟨rfl, by first | rfl | exact hf⟩⟩
theorem ent_spread : ∀ args w, (callFunc 50 args).run Try.prog w = .ok (.enter 50 args) w := ent _ _ _ Try.func50 (by kernel_rfl) rfl
theorem reck_spread (a : Option Addr) (len cap : Nat) (X : Nat → Nat) (w : World) (hl : len ≤ 1048576) (h : LstF w a len X) :
    Calls Try.prog 46 #[.slice a len cap, .int .i64 1, .func (.func 50) #[] #[]] w fun e w' => e = .returned (.tuple #[.float .f32 (sprN len X), .bool (sprB len X)]) ∧ Below w.heap.size w w' := by
  have hno : sprB len X = false → sprN len X = 0 := fun hb => by unfold sprN; rw [if_neg (by rw [hb]; exact Bool.false_ne_true)]
  by_cases h1 : len < 1 ∨ 64 < len
  · have hk : sprB len X = false := by
      unfold sprB meanB
      rcases h1 with h1 | h1
      · rw [decide_eq_false (by omega), Bool.and_false, Bool.false_and]
      · rw [← good_out h1, Bool.false_and, Bool.false_and]
    rw [hno hk, hk]
    exact reck_few_F a len cap 1 _ w hl (by omega) h1
  · have hle : 1 ≤ len := by omega
    have h64 : len ≤ 64 := by omega
    cases hq : goodB len X
    · have hk : sprB len X = false := by unfold sprB meanB; rw [hq, Bool.false_and, Bool.false_and]
      rw [hno hk, hk]
      exact reck_bad_F a len cap 1 _ X w hle h64 h hq
    · have hm : meanB len X = true := meanB_iff.2 ⟨hq, hle⟩
      refine (reck_go_F (fun v _ => v = .float .f32 (sprD len X) ∧ finB (sprD len X) = true) (finB (sprD len X) = false) _ #[] ent_spread a len cap 1 X w hle h64 h hq (fun w1 hL _ _ => ?_)).mono ?_
      · refine (spreadOf_any a len cap X w1 hm hL).mono ?_
        rintro e wX ⟨hb, hr⟩
        refine ⟨hb, ?_⟩
        rcases hr with ⟨rfl, hf⟩ | ⟨rfl, hf⟩
        · exact .inl ⟨_, rfl, rfl, hf⟩
        · exact .inr ⟨rfl, hf⟩
      · rintro e w' ⟨hb, hr⟩
        refine ⟨?_, hb⟩
        rcases hr with ⟨v, wX, rfl, ⟨rfl, hf⟩, _⟩ | ⟨rfl, hf⟩
        · have hk : sprB len X = true := by unfold sprB; rw [hm, hf]; rfl
          unfold sprN
          rw [hk, if_pos rfl]
        · have hk : sprB len X = false := by unfold sprB; rw [hm, hf]; rfl
          rw [hno hk, hk]
theorem impl_spread (a : Option Addr) (len cap : Nat) (X : Nat → Nat) (w : World) (hl : len ≤ 1048576) (h : LstF w a len X) :
    Calls Try.prog 26 #[.slice a len cap] w fun e w' => e = .returned (.tuple #[.float .f32 (sprN len X), .bool (sprB len X)]) ∧ Below w.heap.size w w' := by
  have HR := Lib.hid (reck_spread a len cap X w hl h)
  clear h
  go_enter Try.func26, Try.ntmps26
  go_wp2_with fail
  refine HR.out.mono ?_
  rintro e w' ⟨rfl, hb⟩
  have Hb := Lib.hid hb
  clear hb
  go_wp2_with fail
  go_ret2
  exact ⟨rfl, Hb.out⟩
theorem sprN_fin (n : Nat) (X : Nat → Nat) : finB (sprN n X) = true := by
  unfold sprN
  split
  · rename_i h
    unfold sprB at h
    rw [Bool.and_eq_true] at h
    exact h.2
  · decide
theorem sprN_wf (n : Nat) (X : Nat → Nat) : (Lit.float .f32 (sprN n X)).wf = true := by
  unfold sprN
  split
  · rename_i h
    unfold sprB at h
    rw [Bool.and_eq_true] at h
    obtain ⟨hq, h1⟩ := meanB_iff.1 h.1
    have hf := srt_fin (good_iff.1 hq).2
    exact subB_wf (hf _ (by omega)) (hf 0 (by omega))
  · rfl
end Go.Proofs.Ytlbapogmcnpmeaa.Avg
/- MovingMeans in the model. -/
namespace Go.Proofs.Ytlbapogmcnpmeaa.Avg
open Go.ChangeShapes Go.WideShapes Go.ChangeAt Go.RowKit Go.Deep Go.Proofs.Ytlbapogmcnpmeaa Go.Proofs.Ytlbapogmcnpmeaa.Flt Go.Proofs.Ytlbapogmcnpmeaa.Mth Go.Proofs.Ytlbapogmcnpmeaa.Sgl
open Ieee (single double)
set_option linter.unusedVariables false
theorem inW_any (x lo hi : Int) (w : World) :
    Calls Try.prog 52 #[.int .i64 x, .int .i64 lo, .int .i64 hi] w fun e w' => e = .returned (.bool (decide (lo ≤ x ∧ x ≤ hi))) ∧ w' = w := by
  by_cases h : lo ≤ x
  · go_enter Try.func52, Try.ntmps52
    go_wp2
    go_ret
    exact ⟨ret_bool (by simp [h]), rfl⟩
  · go_enter Try.func52, Try.ntmps52
    go_wp2
    go_ret
    exact ⟨ret_bool (by rw [show decide (lo ≤ x) = false from decide_eq_false (by omega)]; rfl), rfl⟩
theorem run_mid (b off n cap lo hi : Nat) (w : World) (h : lo < hi) (hc : hi ≤ cap) :
    (Instr.slice 22 (.slice (some ⟨b, off, none⟩) n cap) (some (.int .i64 (lo : Int))) (some (.int .i64 (hi : Int))) none).run Try.prog w = .ok (.slice (some ⟨b, off + lo, none⟩) (hi - lo) (cap - lo)) w := by
  obtain ⟨i0, hi', hz0, hz1, hz2⟩ := info_partsF
  have h0 : (0 : Int) ≤ lo := by omega
  have h1 : (lo : Int) ≤ hi := by omega
  have h2 : (hi : Int) ≤ cap := by omega
  have h3 : (0 : Int) ≤ hi := by omega
  simp only [Instr.slice, Instr.sliceBounds]
  simp [run_underlying Try.underlying22, run_sliceBound, sizeOf, typeInfo, hi', h0, h1, h2, h3, Addr.add, hz1]
  try rw [if_neg (by omega)]
  by_cases h4 : lo = 0
  · subst h4; simp
  · first | (rw [if_neg h4]) | skip
/-- what MovingMeans answers -/
def mvB (n : Nat) (X : Nat → Nat) (wd : Int) : Bool := goodB n X && decide (1 ≤ wd ∧ wd ≤ (n : Int))
def mvX (X : Nat → Nat) (wd : Nat) : Nat → Nat := fun i => meanN wd (fun j => X (i + j))
theorem sub_mean {n wd i : Nat} {X : Nat → Nat} (h : goodB n X = true) (h1 : 1 ≤ wd) (h2 : i + wd ≤ n) : meanB wd (fun j => X (i + j)) = true := by
  obtain ⟨h64, hf⟩ := good_iff.1 h
  exact meanB_iff.2 ⟨good_iff.2 ⟨by omega, fun j hj => hf (i + j) (by omega)⟩, h1⟩
theorem LstF.sub {w : World} {b off n wd i : Nat} {X : Nat → Nat} (h : LstF w (some ⟨b, off, none⟩) n X) (hn : i + wd ≤ n) (h1 : 1 ≤ wd) : LstF w (some ⟨b, off + i, none⟩) wd (fun j => X (i + j)) := by
  obtain ⟨hw, hc⟩ := h
  refine ⟨fun j hj => hw (i + j) (by omega), .inr ⟨b, off + i, rfl, ?_⟩⟩
  rcases hc with e | ⟨b', off', e, hlt, hc⟩
  · omega
  · cases e
    exact ⟨hlt, fun j hj => by rw [Nat.add_assoc]; exact hc (i + j) (by omega)⟩
set_option maxHeartbeats 400000 in
theorem spec_moving_no (a : Option Addr) (len cap : Nat) (X : Nat → Nat) (wd : Int) (w : World) (hl : len ≤ 1048576) (h : LstF w a len X) (hno : mvB len X wd = false) :
    Calls Try.prog 29 #[.slice a len cap, .int .i64 wd] w fun e w' => e = .returned (.tuple #[.slice (some ⟨w.heap.size, 0, none⟩) 0 0, .bool false]) ∧ OwnF w.heap.size w' (.slice (some ⟨w.heap.size, 0, none⟩) 0 0) 0 (fun _ => 0) ∧ Below w.heap.size w w' := by
  have Hst := Lib.hid (And.intro (litF w) ((Below.refl w.heap.size w).alloc (Nat.le_refl _) (.cells #[] 30)))
  have H := Lib.hid (h.keep Hst.out.2)
  clear h
  have hdrew : ∀ n, OwnF w.heap.size ((w.alloc (.cells #[] 30)).drewN n) (.slice (some ⟨w.heap.size, 0, none⟩) 0 0) 0 (fun _ => 0) := fun _ => Hst.out.1
  have Hd := Lib.hid hdrew
  clear hdrew
  unfold mvB at hno
  cases hq : goodB len X
  · clear hno
    go_enter Try.func29, Try.ntmps29
    go_wp2_with fail
    refine (good_any _ _ _ X _ hl H.out).mono ?_
    rintro e w1 ⟨rfl, n, rfl⟩
    rw [hq]
    go_wp2_with fail
    go_ret2
    exact ⟨rfl, Hd.out _, below_drewN Hst.out.2 _⟩
  · rw [hq, Bool.true_and] at hno
    go_enter Try.func29, Try.ntmps29
    go_wp2_with fail
    refine (good_any _ _ _ X _ hl H.out).mono ?_
    rintro e w1 ⟨rfl, n, rfl⟩
    rw [hq]
    go_wp2_with fail
    refine (inW_any _ _ _ _).mono ?_
    rintro e w1 ⟨rfl, rfl⟩
    rw [hno]
    go_wp2_with fail
    go_ret2
    exact ⟨rfl, Hd.out _, below_drewN Hst.out.2 _⟩
set_option maxHeartbeats 800000 in
theorem spec_moving_yes (b off len cap : Nat) (X : Nat → Nat) (wd : Nat) (w : World) (hlc : len ≤ cap) (h : LstF w (some ⟨b, off, none⟩) len X) (hyes : mvB len X wd = true) :
    Calls Try.prog 29 #[.slice (some ⟨b, off, none⟩) len cap, .int .i64 (wd : Int)] w fun e w' => ∃ g cp, e = .returned (.tuple #[.slice (some ⟨g, 0, none⟩) (len + 1 - wd) cp, .bool true]) ∧ OwnF w.heap.size w' (.slice (some ⟨g, 0, none⟩) (len + 1 - wd) cp) (len + 1 - wd) (mvX X wd) ∧ Below w.heap.size w w' := by
  obtain ⟨hq, hin⟩ : goodB len X = true ∧ ((1 : Int) ≤ (wd : Int) ∧ (wd : Int) ≤ (len : Int)) := by
    unfold mvB at hyes
    rw [Bool.and_eq_true, decide_eq_true_iff] at hyes
    exact hyes
  have h64 := (good_iff.1 hq).1
  have h1 : 1 ≤ wd := by omega
  have h2 : wd ≤ len := by omega
  have hd : decide ((1 : Int) ≤ (wd : Int) ∧ (wd : Int) ≤ (len : Int)) = true := decide_eq_true hin
  have Hst := Lib.hid (And.intro (litF w) ((Below.refl w.heap.size w).alloc (Nat.le_refl _) (.cells #[] 30)))
  have H0 := Lib.hid h
  have H := Lib.hid (h.keep Hst.out.2)
  have Hq := Lib.hid hq
  clear h hyes hin
  go_enter Try.func29, Try.ntmps29
  go_wp2_with fail
  refine (good_any _ _ _ X _ (by omega) H.out).mono ?_
  rintro e w1 ⟨rfl, n, rfl⟩
  rw [hq]
  clear hq
  go_wp2_with fail
  refine (inW_any _ _ _ _).mono ?_
  rintro e w1 ⟨rfl, rfl⟩
  rw [hd]
  have Hb := Lib.hid (show OwnF w.heap.size ((w.alloc (.cells #[] 30)).drewN n) (.slice (some ⟨w.heap.size, 0, none⟩) 0 0) 0 (mvX X wd) ∧ Below w.heap.size w ((w.alloc (.cells #[] 30)).drewN n) from ⟨ownF_congr Hst.out.1 (fun j hj => absurd hj (Nat.not_lt_zero _)), below_drewN Hst.out.2 _⟩)
  obtain ⟨w2, hw2⟩ : ∃ w2, (w.alloc (.cells #[] 30)).drewN n = w2 := ⟨_, rfl⟩
  rw [hw2] at Hb ⊢
  clear hw2 hd
  go_wp2_with fail
  go_loopw [6, 7] (fun v iv wr => ∃ (r g cp : Nat), v = .slice (some ⟨g, 0, none⟩) r cp ∧ iv = .int .i64 (r : Int) ∧ r ≤ len + 1 - wd ∧ OwnF w.heap.size wr (.slice (some ⟨g, 0, none⟩) r cp) r (mvX X wd) ∧ Below w.heap.size w wr)
    (fun _ iv _ => len + 1 - wd - (intOf iv).toNat)
  case atStart => exact ⟨0, w.heap.size, 0, rfl, rfl, Nat.zero_le _, Hb.out.1, Hb.out.2⟩
  case round =>
    obtain ⟨r, g, cp, rfl, rfl, hr, hown, hbel⟩ := hrel
    have hw0 : IntKind.i64.wrap ((r : Int) + (wd : Int)) = ((r + wd : Nat) : Int) := by rw [IntKind.wrap_i64]; omega
    by_cases hrl : r + wd ≤ len
    · have hrl' : (r : Int) + (wd : Int) ≤ (len : Int) := by omega
      have hL : LstF wr (some ⟨b, off, none⟩) len X := H0.out.keep hbel
      have hL2 := LstF.sub hL (i := r) (wd := wd) hrl h1
      have hsl := fun wx => run_mid b off len cap r (r + wd) wx (by omega) (by omega)
      rw [Nat.add_sub_cancel_left] at hsl
      have hmb := sub_mean Hq.out h1 hrl
      have hsm := spec_mean (some ⟨b, off + r, none⟩) wd (cap - r) (fun j => X (r + j)) wr (by omega) hL2
      have Hs := Lib.hid hsm
      have Hmb := Lib.hid hmb
      have Hr := Lib.hid (And.intro hown hbel)
      have hsz := hbel.size
      obtain ⟨mm, hmm⟩ : ∃ mm, meanN wd (fun j => X (r + j)) = mm := ⟨_, rfl⟩
      have Hmm := Lib.hid (show mvX X wd r = mm from hmm)
      rw [hmm] at Hs
      rw [hmb] at Hs
      clear hown hbel hL hL2 hsm hmb hmm
      go_wp2_with fail
      refine Hs.out.mono ?_
      rintro e w3 ⟨rfl, n3, rfl⟩
      obtain ⟨w5, hw5⟩ : ∃ w5, wr.drewN n3 = w5 := ⟨_, rfl⟩
      have H5 := Lib.hid (show OwnF w.heap.size w5 (.slice (some ⟨g, 0, none⟩) r cp) r (mvX X wd) ∧ Below w.heap.size w w5 from by rw [← hw5]; exact ⟨Hr.out.1, below_drewN Hr.out.2 n3⟩)
      rw [hw5]
      have hba := H5.out.2.alloc H5.out.2.size (.cells #[.float .f32 mm] 30)
      obtain ⟨gC, cC, wC, krunC, hownC, hbelC⟩ := appF (base := w.heap.size) (w := w5.alloc (.cells #[.float .f32 mm] 30)) (n := r) (cap := cp) (m := 1) (c := 1) (g := g) (ad := ⟨w5.heap.size, 0, none⟩) (Y := fun _ => mm) (World.ownsRow.alloc H5.out.1 _) (fun j hj => by
        have hn : (w5.alloc (.cells #[.float .f32 mm] 30)).heap[w5.heap.size]? = some (.cells #[.float .f32 mm] 30 (0, 0)) := block_new w5 _
        rw [addr_add, Nat.zero_add, cell_of_row _ w5.heap.size j _ _ _ hn]
        obtain rfl : j = 0 := by omega
        rfl) (by omega) hba.size
      have H9 := Lib.hid (show OwnF w.heap.size wC (.slice (some ⟨gC, 0, none⟩) (r + 1) cC) (r + 1) (mvX X wd) ∧ Below w.heap.size w wC from ⟨ownF_congr hownC (fun j hj => by
        by_cases e : j < r
        · rw [spl_eq, if_neg (by omega)]
        · obtain rfl : j = r := by omega
          rw [spl_eq, if_pos (by omega), Hmm.out]), hba.trans hbelC⟩)
      clear hba hownC hbelC hw5
      go_wp2_with (at_builtin; go_loud (refine wpList_append_run rfl (.tmp 40) (.tmp 42) _ rfl rfl rfl krunC ?_))
      go_roundw
      case rel => exact ⟨r + 1, gC, cC, rfl, by go_num, by omega, H9.out.1, H9.out.2⟩
      case measure => simp [intOf]; omega
    · obtain rfl : r = len + 1 - wd := by omega
      have hrl' : ¬ ((len + 1 - wd : Nat) : Int) + (wd : Int) ≤ (len : Int) := by omega
      have Hr := Lib.hid (And.intro hown hbel)
      clear hown hbel
      go_wp2_with fail
      go_ret2
      exact ⟨g, cp, rfl, Hr.out.1, Hr.out.2⟩
end Go.Proofs.Ytlbapogmcnpmeaa.Avg
/- The program's moving means: the closure of MovingMeans, and MovingMeans. -/
namespace Go.Proofs.Ytlbapogmcnpmeaa.Avg
open Go.ChangeShapes Go.WideShapes Go.ChangeAt Go.RowKit Go.Deep Go.Proofs.Ytlbapogmcnpmeaa Go.Proofs.Ytlbapogmcnpmeaa.Flt Go.Proofs.Ytlbapogmcnpmeaa.Mth Go.Proofs.Ytlbapogmcnpmeaa.Sgl
open Ieee (single double)
set_option linter.unusedVariables false
set_option linter.unusedSimpArgs false
theorem makeRoom (len : Nat) (hl : len ≤ 1048576) (w : World) :
    (Instr.makeSlice 22 (.int .i64 0) (.int .i64 (len : Int))).run Try.prog w = .ok (.slice (some ⟨w.heap.size, 0, none⟩) 0 len) (w.alloc (.cells (madeCells #[.float .f32 0] len) 30)) := by
  obtain ⟨i, hi, hz, hs, hb⟩ := info_partsF
  have h := run_make (P := Try.prog) w 22 30 i _ Try.underlying22 hi hz .i64 .i64 0 len (by omega) (by omega) (by rw [hb]; omega) (by omega)
  rw [hs] at h
  rw [show (Value.float .f32 0).cells = #[.float .f32 0] from rfl] at h
  simpa [Nat.mul_one] using h
theorem roomF (len : Nat) (hl : len ≤ 1048576) (w : World) (Z : Nat → Nat) : OwnF w.heap.size (w.alloc (.cells (madeCells #[.float .f32 0] len) 30)) (.slice (some ⟨w.heap.size, 0, none⟩) 0 len) 0 Z :=
  World.ownsRow_made w _ len (Nat.le_refl _) (by unfold maxLen; omega) (by rw [size_madeCells, Nat.mul_one])
/-- what the closure of MovingMeans answers -/
def MovOut (len : Nat) (X : Nat → Nat) (wd : Int) (w : World) (e : Ending) (w' : World) : Prop :=
  Below w.heap.size w w' ∧ ((∃ v, e = .returned v ∧ mvB len X wd = true ∧ OwnF w.heap.size w' v (len + 1 - wd.toNat) (mvX X wd.toNat)) ∨ (e = .panicked left ∧ mvB len X wd = false))
theorem mov_low (p : Addr) (a : Option Addr) (len cap : Nat) (X : Nat → Nat) (wd : Int) (w : World) (hp : w.cell? p = some (.int .i64 wd)) (h : wd < 1 ∨ (len : Int) < wd) :
    Calls Try.prog 54 #[.slice a len cap, .pointer (some p)] w (MovOut len X wd w) := by
  have hno : mvB len X wd = false := by unfold mvB; rw [decide_eq_false (by omega), Bool.and_false]
  have Hno := Lib.hid hno
  have Hst := Lib.hid (Below.refl w.heap.size w)
  clear hno
  by_cases h1 : wd < 1
  · have h1' : decide ((1 : Int) ≤ wd) = false := decide_eq_false (by omega)
    have h1'' : ¬ (1 : Int) ≤ wd := by omega
    clear h
    go_enter Try.func54, Try.ntmps54
    go_wp2_with fail
    refine (leave_no _).mono ?_
    rintro e w9 ⟨rfl, hw9⟩
    subst w9
    go_wp2_with fail
    exact ⟨rfl, Hst.out, .inr ⟨rfl, Hno.out⟩⟩
  · have h1' : (1 : Int) ≤ wd := by omega
    have h2 : decide (wd ≤ (len : Int)) = false := decide_eq_false (by omega)
    clear h
    go_enter Try.func54, Try.ntmps54
    go_wp2_with fail
    try rw [h2]
    refine (leave_no _).mono ?_
    rintro e w9 ⟨rfl, hw9⟩
    subst w9
    go_wp2_with fail
    exact ⟨rfl, Hst.out, .inr ⟨rfl, Hno.out⟩⟩
set_option maxHeartbeats 1600000 in
theorem mov_yes (p : Addr) (a : Option Addr) (len cap : Nat) (X : Nat → Nat) (wd : Nat) (w : World) (hlc : len ≤ cap) (hq : goodB len X = true) (hp : w.cell? p = some (.int .i64 (wd : Int))) (h1 : 1 ≤ wd) (h2 : wd ≤ len) (h : LstF w a len X) :
    Calls Try.prog 54 #[.slice a len cap, .pointer (some p)] w fun e w' => Below w.heap.size w w' ∧ ∃ v, e = .returned v ∧ OwnF w.heap.size w' v (len + 1 - wd) (mvX X wd) := by
  have h64 := (good_iff.1 hq).1
  have hpb := lt_of_cell hp
  have hmk := makeRoom len (by omega)
  have Hst := Lib.hid (And.intro (roomF len (by omega) w (mvX X wd)) ((Below.refl w.heap.size w).alloc (Nat.le_refl _) (.cells (madeCells #[.float .f32 0] len) 30)))
  obtain ⟨b, off, ha, hlt, hc⟩ := LstF.cells h (by omega)
  subst ha
  have H0 := Lib.hid h
  have Hq := Lib.hid hq
  have Hp := Lib.hid (And.intro hp hpb)
  have g1 : (1 : Int) ≤ (wd : Int) := by omega
  have g2 : (wd : Int) ≤ (len : Int) := by omega
  clear h hc hq hpb hlt
  go_enter Try.func54, Try.ntmps54
  go_wp2_with fail
  refine (leave_yes _).mono ?_
  rintro e w9 ⟨rfl, hw9⟩
  subst w9
  clear hp
  go_wp2_with fail
  go_loopw [4, 5] (fun v iv wr => ∃ (r g cp : Nat), v = .slice (some ⟨g, 0, none⟩) r cp ∧ iv = .int .i64 (r : Int) ∧ r ≤ len + 1 - wd ∧ OwnF w.heap.size wr (.slice (some ⟨g, 0, none⟩) r cp) r (mvX X wd) ∧ Below w.heap.size w wr)
    (fun _ iv _ => len + 1 - wd - (intOf iv).toNat)
  case atStart => exact ⟨0, w.heap.size, len, rfl, rfl, Nat.zero_le _, Hst.out.1, Hst.out.2⟩
  case round =>
    obtain ⟨r, g, cp, rfl, rfl, hr, hown, hbel⟩ := hrel
    have hp' : wr.cell? p = some (.int .i64 (wd : Int)) := by rw [hbel.cell Hp.out.2]; exact Hp.out.1
    have hw0 : IntKind.i64.wrap ((r : Int) + (wd : Int)) = ((r + wd : Nat) : Int) := by rw [IntKind.wrap_i64]; omega
    by_cases hrl : r + wd ≤ len
    · have hrl' : (r : Int) + (wd : Int) ≤ (len : Int) := by omega
      have hL : LstF wr (some ⟨b, off, none⟩) len X := H0.out.keep hbel
      have hL2 := LstF.sub hL (i := r) (wd := wd) hrl h1
      have hsl := fun wx => run_mid b off len cap r (r + wd) wx (by omega) (by omega)
      rw [Nat.add_sub_cancel_left] at hsl
      have hmb := sub_mean Hq.out h1 hrl
      have hsm := meanOf_any (some ⟨b, off + r, none⟩) wd (cap - r) (fun j => X (r + j)) wr hmb hL2
      have Hs := Lib.hid hsm
      have Hr := Lib.hid (And.intro hown hbel)
      have hsz := hbel.size
      obtain ⟨mm, hmm⟩ : ∃ mm, meanN wd (fun j => X (r + j)) = mm := ⟨_, rfl⟩
      have Hmm := Lib.hid (show mvX X wd r = mm from hmm)
      rw [hmm] at Hs
      clear hown hbel hL hL2 hsm hmb hmm
      go_wp2_with fail
      refine Hs.out.mono ?_
      rintro e w9 ⟨rfl, hw9⟩
      subst w9
      have H5 := Lib.hid (show OwnF w.heap.size wr (.slice (some ⟨g, 0, none⟩) r cp) r (mvX X wd) ∧ Below w.heap.size w wr from ⟨Hr.out.1, Hr.out.2⟩)
      have hba := H5.out.2.alloc H5.out.2.size (.cells #[.float .f32 mm] 30)
      obtain ⟨gC, cC, wC, krunC, hownC, hbelC⟩ := appF (base := w.heap.size) (w := wr.alloc (.cells #[.float .f32 mm] 30)) (n := r) (cap := cp) (m := 1) (c := 1) (g := g) (ad := ⟨wr.heap.size, 0, none⟩) (Y := fun _ => mm) (World.ownsRow.alloc H5.out.1 _) (fun j hj => by
        have hn : (wr.alloc (.cells #[.float .f32 mm] 30)).heap[wr.heap.size]? = some (.cells #[.float .f32 mm] 30 (0, 0)) := block_new wr _
        rw [addr_add, Nat.zero_add, cell_of_row _ wr.heap.size j _ _ _ hn]
        obtain rfl : j = 0 := by omega
        rfl) (by omega) hba.size
      have H9 := Lib.hid (show OwnF w.heap.size wC (.slice (some ⟨gC, 0, none⟩) (r + 1) cC) (r + 1) (mvX X wd) ∧ Below w.heap.size w wC from ⟨ownF_congr hownC (fun j hj => by
        by_cases e : j < r
        · rw [spl_eq, if_neg (by omega)]
        · obtain rfl : j = r := by omega
          rw [spl_eq, if_pos (by omega), Hmm.out]), hba.trans hbelC⟩)
      clear hba hownC hbelC
      go_wp2_with (at_builtin; go_loud (refine wpList_append_run rfl (.tmp 26) (.tmp 34) _ rfl rfl rfl krunC ?_))
      go_roundw
      case rel => exact ⟨r + 1, gC, cC, rfl, by go_num, by omega, H9.out.1, H9.out.2⟩
      case measure => simp [intOf]; omega
    · obtain rfl : r = len + 1 - wd := by omega
      have hrl' : ¬ ((len + 1 - wd : Nat) : Int) + (wd : Int) ≤ (len : Int) := by omega
      have Hr := Lib.hid (And.intro hown hbel)
      clear hown hbel
      go_wp2_with fail
      go_ret
      exact ⟨Hr.out.2, _, rfl, Hr.out.1⟩
theorem mov_any (p : Addr) (a : Option Addr) (len cap : Nat) (X : Nat → Nat) (wd : Int) (w : World) (hlc : len ≤ cap) (hq : goodB len X = true) (hp : w.cell? p = some (.int .i64 wd)) (h : LstF w a len X) :
    Calls Try.prog 54 #[.slice a len cap, .pointer (some p)] w (MovOut len X wd w) := by
  by_cases h1 : wd < 1 ∨ (len : Int) < wd
  · exact mov_low p a len cap X wd w hp h1
  · obtain ⟨k, rfl⟩ : ∃ k : Nat, wd = k := ⟨wd.toNat, by omega⟩
    refine (mov_yes p a len cap X k w hlc hq hp (by omega) (by omega) h).mono ?_
    rintro e w' ⟨hb, v, rfl, ho⟩
    refine ⟨hb, .inl ⟨v, rfl, ?_, ?_⟩⟩
    · unfold mvB; rw [hq, decide_eq_true (by omega)]; rfl
    · rw [Int.toNat_natCast]; exact ho
theorem ent_mov : ∀ args w, (callFunc 54 args).run Try.prog w = .ok (.enter 54 args) w := ent _ _ _ Try.func54 (by kernel_rfl) rfl
/-- how many moving means there are -/
def mvN (n : Nat) (X : Nat → Nat) (wd : Int) : Nat := if mvB n X wd = true then n + 1 - wd.toNat else 0
theorem ownF_nil (base : Nat) (w : World) (Z : Nat → Nat) : OwnF base w (.slice none 0 0) 0 Z := ⟨rfl, .inl ⟨rfl, rfl⟩⟩
theorem ownF_cell {base : Nat} {w : World} {v : Value} {n : Nat} {Z : Nat → Nat} (h : OwnF base w v n Z) {b : Nat} (hb : b < base) (o : Nat) (u : Value) : OwnF base (w.setCell ⟨b, o, none⟩ u) v n Z :=
  ((OwnU.of h).only (Nat.le_refl _) (.inl hb) ((Only.refl b w).setCell o u)).1
theorem reck_mov (p : Addr) (a : Option Addr) (len cap : Nat) (X : Nat → Nat) (wd : Int) (w : World) (hl : len ≤ 1048576) (hlc : len ≤ cap) (hp : w.cell? p = some (.int .i64 wd)) (h : LstF w a len X) :
    Calls Try.prog 53 #[.slice a len cap, .int .i64 0, .func (.func 54) #[] #[.pointer (some p)]] w fun e w' => ∃ v, e = .returned (.tuple #[v, .bool (mvB len X wd)]) ∧ OwnF w.heap.size w' v (mvN len X wd) (mvX X wd.toNat) ∧ Below w.heap.size w w' := by
  by_cases h64 : 64 < len
  · have hk : mvB len X wd = false := by unfold mvB; rw [← good_out h64, Bool.false_and]
    unfold mvN
    rw [hk]
    refine (reck_few_L a len cap 0 _ w hl (by omega) (.inr h64)).mono ?_
    rintro e w' ⟨rfl, hb⟩
    exact ⟨_, rfl, ownF_nil _ _ _, hb⟩
  · have h64 : len ≤ 64 := by omega
    cases hq : goodB len X
    · have hk : mvB len X wd = false := by unfold mvB; rw [hq, Bool.false_and]
      unfold mvN
      rw [hk]
      refine (reck_bad_L a len cap 0 _ X w (Nat.zero_le _) h64 h hq).mono ?_
      rintro e w' ⟨rfl, hb⟩
      exact ⟨_, rfl, ownF_nil _ _ _, hb⟩
    · refine (reck_go_L (fun v wX => ∃ base, w.heap.size < base ∧ mvB len X wd = true ∧ OwnF base wX v (len + 1 - wd.toNat) (mvX X wd.toNat)) (mvB len X wd = false) _ #[.pointer (some p)] ent_mov a len cap 0 X w (Nat.zero_le _) h64 h hq (fun w1 hL hb1 hs1 => ?_)).mono ?_
      · refine (mov_any p a len cap X wd w1 hlc hq (by rw [hb1.cell (lt_of_cell hp)]; exact hp) hL).mono ?_
        rintro e wX ⟨hb, hr⟩
        refine ⟨hb, ?_⟩
        rcases hr with ⟨v, rfl, hm, ho⟩ | ⟨rfl, hm⟩
        · exact .inl ⟨v, rfl, _, hs1, hm, ho⟩
        · exact .inr ⟨rfl, hm⟩
      · rintro e w' ⟨hb, hr⟩
        rcases hr with ⟨v, wX, rfl, ⟨base, hbs, hm, ho⟩, _, _, rfl⟩ | ⟨rfl, hm⟩
        · refine ⟨v, by rw [hm], ?_, hb⟩
          unfold mvN
          rw [if_pos hm]
          exact own_mono (ownF_cell (ownF_cell ho hbs 0 _) hbs 0 _) (by omega)
        · refine ⟨_, by rw [hm], ?_, hb⟩
          unfold mvN
          rw [hm]
          exact ownF_nil _ _ _
set_option maxHeartbeats 400000 in
theorem impl_moving (a : Option Addr) (len cap : Nat) (X : Nat → Nat) (wd : Int) (w : World) (hl : len ≤ 1048576) (hlc : len ≤ cap) (h : LstF w a len X) :
    Calls Try.prog 30 #[.slice a len cap, .int .i64 wd] w fun e w' => ∃ v, e = .returned (.tuple #[v, .bool (mvB len X wd)]) ∧ OwnF w.heap.size w' v (mvN len X wd) (mvX X wd.toNat) ∧ Below w.heap.size w w' := by
  have hmf : ∀ (fn : Fn) (first cap : Array Value) (w : World), (Instr.makeFunc fn first cap).run Try.prog w = .ok (.func fn first cap) w := fun _ _ _ _ => rfl
  have hb := (Below.refl w.heap.size w).alloc (Nat.le_refl _) (.cells #[.int .i64 wd] 3)
  have c0 : (w.alloc (.cells #[.int .i64 wd] 3)).cell? ⟨w.heap.size, 0, none⟩ = some (.int .i64 wd) := by simp [go_sem]
  have HR := Lib.hid (reck_mov ⟨w.heap.size, 0, none⟩ a len cap X wd (w.alloc (.cells #[.int .i64 wd] 3)) hl hlc c0 (h.keep hb))
  have hs0 : w.heap.size ≤ (w.alloc (.cells #[.int .i64 wd] 3)).heap.size := hb.size
  have Hb := Lib.hid (And.intro hb hs0)
  clear hb c0 h hs0
  go_enter Try.func30, Try.ntmps30
  go_wp2_with fail
  refine HR.out.mono ?_
  rintro e w' ⟨v, rfl, ho, hb⟩
  have HF := Lib.hid (And.intro (own_mono ho Hb.out.2) (Hb.out.1.trans (hb.mono Hb.out.2)))
  clear ho hb
  go_wp2_with fail
  go_ret2
  exact ⟨v, rfl, HF.out.1, HF.out.2⟩
theorem spec_moving (a : Option Addr) (len cap : Nat) (X : Nat → Nat) (wd : Int) (w : World) (hl : len ≤ 1048576) (hlc : len ≤ cap) (h : LstF w a len X) :
    Calls Try.prog 29 #[.slice a len cap, .int .i64 wd] w fun e w' => ∃ v, e = .returned (.tuple #[v, .bool (mvB len X wd)]) ∧ OwnF w.heap.size w' v (mvN len X wd) (mvX X wd.toNat) ∧ Below w.heap.size w w' := by
  cases hb : mvB len X wd
  · refine (spec_moving_no a len cap X wd w hl h hb).mono ?_
    rintro e w' ⟨rfl, ho, hbl⟩
    unfold mvN
    rw [hb]
    exact ⟨_, rfl, ownF_congr ho (fun j hj => absurd hj (Nat.not_lt_zero _)), hbl⟩
  · have hb' := hb
    unfold mvB at hb'
    rw [Bool.and_eq_true, decide_eq_true_iff] at hb'
    obtain ⟨k, rfl⟩ : ∃ k : Nat, wd = k := ⟨wd.toNat, by omega⟩
    obtain ⟨b, off, ha, _, _⟩ := LstF.cells h (by omega)
    subst ha
    refine (spec_moving_yes b off len cap X k w hlc h hb).mono ?_
    rintro e w' ⟨g, cp, rfl, ho, hbl⟩
    unfold mvN
    rw [hb, if_pos rfl, Int.toNat_natCast]
    exact ⟨_, rfl, ho, hbl⟩
theorem mvN_le (n : Nat) (X : Nat → Nat) (wd : Int) : mvN n X wd ≤ 64 := by
  unfold mvN
  split
  · rename_i h
    unfold mvB at h
    rw [Bool.and_eq_true, decide_eq_true_iff] at h
    have := (good_iff.1 h.1).1
    omega
  · omega
theorem mvX_wf (n : Nat) (X : Nat → Nat) (wd : Nat) : WfF n (mvX X wd) := fun i _ => meanN_wf _ _
end Go.Proofs.Ytlbapogmcnpmeaa.Avg
/- Plain facts: a mean lies between bounds of the elements; the less and the greater of two singles; elements that are all alike. -/
namespace Go.Proofs.Ytlbapogmcnpmeaa.Avg
open Go.ChangeShapes Go.WideShapes Go.ChangeAt Go.RowKit Go.Deep Go.Proofs.Ytlbapogmcnpmeaa Go.Proofs.Ytlbapogmcnpmeaa.Flt Go.Proofs.Ytlbapogmcnpmeaa.Mth Go.Proofs.Ytlbapogmcnpmeaa.Sgl Go.Proofs.Ytlbapogmcnpmeaa.Drw
open Ieee (single double)
set_option linter.unusedVariables false
/-- all elements lie between two singles -/
def Lies (lo hi n : Nat) (X : Nat → Nat) : Prop := finB lo = true ∧ finB hi = true ∧ ∀ j, j < n → sv single lo ≤ sv single (X j) ∧ sv single (X j) ≤ sv single hi
theorem mean_in {lo hi n : Nat} {X : Nat → Nat} (h : FineF n X) (h1 : 1 ≤ n) (hn : n ≤ 64) (hl : Lies lo hi n X) : sv single lo ≤ sv single (meanN n X) ∧ sv single (meanN n X) ≤ sv single hi := by
  have hb : Bd lo hi n (sumF 0 (els n X)) := by
    have := Bd.sum (lo := lo) (hi := hi) hl.1 hl.2.1 (els n X) 0 0 (Bd.zero _ _) (fun x hx => by
      obtain ⟨i, hi', rfl⟩ := els_mem hx
      exact ⟨(h i hi').2, hl.2.2 i hi'⟩) (by rw [els_len]; omega)
    rw [els_len, Nat.zero_add] at this
    exact this
  have hm := mean_bd (lo := lo) (hi := hi) hl.1 hl.2.1 h1 (by omega) hb
  have e : meanN n X = meanW (sumF 0 (els n X)) n := by
    unfold meanN meanB
    rw [good_of h hn, decide_eq_true h1]; rfl
  rw [e]
  exact ⟨hm.2.2.2.2.1, hm.2.2.2.2.2⟩
theorem sub_in {lo hi n wd i : Nat} {X : Nat → Nat} (h : FineF n X) (h1 : 1 ≤ wd) (hn : n ≤ 64) (hi2 : i + wd ≤ n) (hl : Lies lo hi n X) : sv single lo ≤ sv single (mvX X wd i) ∧ sv single (mvX X wd i) ≤ sv single hi :=
  mean_in (X := fun j => X (i + j)) (fun j hj => h (i + j) (by omega)) h1 (by omega) ⟨hl.1, hl.2.1, fun j hj => hl.2.2 (i + j) (by omega)⟩
theorem ord_fin {x y : Nat} (hx : finB x = true) (hy : finB y = true) : (sv single x < sv single y ∧ FloatKind.f32.format.order x y = some .lt) ∨ (sv single x = sv single y ∧ FloatKind.f32.format.order x y = some .eq) ∨ (sv single y < sv single x ∧ FloatKind.f32.format.order x y = some .gt) := by
  have l := lt32 x y
  have g := gt32 x y
  have e := eq32 x y
  unfold ltW at l g
  unfold eqW at e
  rw [fin_num hx, fin_num hy] at l e
  rw [fin_num hx, fin_num hy] at g
  rcases Int.lt_trichotomy (sv single x) (sv single y) with c | c | c
  · rw [decide_eq_true c] at l
    exact .inl ⟨c, eq_of_beq l⟩
  · rw [decide_eq_true c] at e
    exact .inr (.inl ⟨c, eq_of_beq e⟩)
  · rw [decide_eq_true c] at g
    exact .inr (.inr ⟨c, eq_of_beq g⟩)
theorem run_minF {x y : Nat} (hx : finB x = true) (hy : finB y = true) : ∃ m, finB m = true ∧ sv single m ≤ sv single x ∧ sv single m ≤ sv single y ∧ ∀ (P : Program) (ts : Array TypeId) (t : TypeId) (w : World), (Builtin.min_ ts t #[.float .f32 x, .float .f32 y]).run P w = .ok (.float .f32 m) w := by
  rcases ord_fin hx hy with ⟨c, e⟩ | ⟨c, e⟩ | ⟨c, e⟩
  · exact ⟨x, hx, Int.le_refl _, by omega, fun P ts t w => by simp [Builtin.min_, Builtin.min2, e]⟩
  · refine ⟨if (FloatKind.f32.decode x).neg then x else y, ?_, ?_, ?_, fun P ts t w => by simp [Builtin.min_, Builtin.min2, e]⟩
    · split
      · exact hx
      · exact hy
    · split
      · omega
      · omega
    · split
      · omega
      · omega
  · exact ⟨y, hy, by omega, Int.le_refl _, fun P ts t w => by simp [Builtin.min_, Builtin.min2, e]⟩
theorem run_maxF {x y : Nat} (hx : finB x = true) (hy : finB y = true) : ∃ m, finB m = true ∧ sv single x ≤ sv single m ∧ sv single y ≤ sv single m ∧ ∀ (P : Program) (ts : Array TypeId) (t : TypeId) (w : World), (Builtin.max_ ts t #[.float .f32 x, .float .f32 y]).run P w = .ok (.float .f32 m) w := by
  rcases ord_fin hx hy with ⟨c, e⟩ | ⟨c, e⟩ | ⟨c, e⟩
  · exact ⟨y, hy, by omega, Int.le_refl _, fun P ts t w => by simp [Builtin.max_, Builtin.max2, e]⟩
  · refine ⟨if (FloatKind.f32.decode x).neg then y else x, ?_, ?_, ?_, fun P ts t w => by simp [Builtin.max_, Builtin.max2, e]⟩
    · split
      · exact hy
      · exact hx
    · split
      · omega
      · omega
    · split
      · omega
      · omega
  · exact ⟨x, hx, Int.le_refl _, by omega, fun P ts t w => by simp [Builtin.max_, Builtin.max2, e]⟩
theorem ge_of {x y : Nat} (hx : finB x = true) (hy : finB y = true) (h : sv single y ≤ sv single x) : (FloatKind.f32.format.order x y == some .gt || FloatKind.f32.format.order x y == some .eq) = true := by
  rw [show (FloatKind.f32.format.order x y == some .gt || FloatKind.f32.format.order x y == some .eq) = geB x y from rfl, ge_sv hx hy, decide_eq_true h]
theorem le_of {x y : Nat} (hx : finB x = true) (hy : finB y = true) (h : sv single x ≤ sv single y) : (FloatKind.f32.format.order x y == some .lt || FloatKind.f32.format.order x y == some .eq) = true := by
  rcases ord_fin hx hy with ⟨c, e⟩ | ⟨c, e⟩ | ⟨c, e⟩
  · rw [e]; rfl
  · rw [e]; rfl
  · omega
theorem not_lt_of {x y : Nat} (hx : finB x = true) (hy : finB y = true) (h : sv single y ≤ sv single x) : (FloatKind.f32.format.order x y == some .lt) = false := by
  rcases ord_fin hx hy with ⟨c, e⟩ | ⟨c, e⟩ | ⟨c, e⟩
  · omega
  · rw [e]; rfl
  · rw [e]; rfl
theorem not_gt_of {x y : Nat} (hx : finB x = true) (hy : finB y = true) (h : sv single x ≤ sv single y) : (FloatKind.f32.format.order x y == some .gt) = false := by
  rcases ord_fin hx hy with ⟨c, e⟩ | ⟨c, e⟩ | ⟨c, e⟩
  · rw [e]; rfl
  · rw [e]; rfl
  · omega
theorem eq_self32 {x : Nat} (hx : finB x = true) : eqB x x = true := by
  unfold eqB; rw [eq32, eqW_self, fin_num hx]; rfl
theorem cnt_pos {X : Nat → Nat} {i : Nat} (hf : finB (X i) = true) : ∀ n, i < n → 1 ≤ cnt X (X i) n
  | 0, h => absurd h (Nat.not_lt_zero _)
  | n + 1, h => by
    unfold cnt
    by_cases c : i = n
    · rw [← c, eq_self32 hf, if_pos rfl]; omega
    · have := cnt_pos hf n (by omega); omega
theorem cnt_all {X : Nat → Nat} {x : Nat} (hf : finB x = true) : ∀ n, (∀ j, j < n → X j = x) → cnt X x n = n
  | 0, _ => rfl
  | n + 1, h => by
    unfold cnt
    rw [cnt_all hf n (fun j hj => h j (by omega)), h n (by omega), eq_self32 hf, if_pos rfl]
end Go.Proofs.Ytlbapogmcnpmeaa.Avg
