/- Largest in the model and in the program. -/
import Derived.Test.YtbmojogohffhaaaItpL
import Derived.Test.YtbmojogohffhaaaMathSb
namespace Go.Proofs.Ytbmojogohffhaaa.Pnt
open Go.ChangeShapes Go.WideShapes Go.ChangeAt Go.RowKit Go.Proofs.Ytbmojogohffhaaa Go.Proofs.Ytbmojogohffhaaa.Flt Go.Proofs.Ytbmojogohffhaaa.Mth
open Ieee (single double)
set_option linter.unusedVariables false
/-- the greatest rung of a Y among the first points -/
def lrg (X : Nat → Nat) : Nat → Nat
  | 0 => 0
  | k + 1 => max (lrg X k) (rung single (X (k * 2 + 1)))
def lrgV (n : Nat) (X : Nat → Nat) : Nat := if okP n X = true then lrg X n else 0
theorem inf32 : single.infRung = 2139095040 := by decide
theorem fin_lt {x : Nat} (h : finB x = true) : rung single x < 2139095040 := by rw [← inf32]; exact fin_iff.1 h
theorem lrg_lt {n : Nat} {X : Nat → Nat} (h : okP n X = true) : ∀ k, k ≤ n → lrg X k < 2139095040
  | 0, _ => by unfold lrg; omega
  | k + 1, hk => by
    unfold lrg
    have h1 := lrg_lt h k (by omega)
    have h2 := fin_lt (okPt_fin (okP_at h (j := k) (by omega))).2
    omega
theorem lrgV_lt (n : Nat) (X : Nat → Nat) : lrgV n X < 2139095040 := by
  unfold lrgV
  split
  · rename_i h; exact lrg_lt h n (Nat.le_refl _)
  · omega
theorem lrgV_num (n : Nat) (X : Nat → Nat) : isNaN single (lrgV n X) = false := pos_nan (lrgV_lt n X)
theorem lrgV_wf (n : Nat) (X : Nat → Nat) : (Lit.float .f32 (lrgV n X)).wf = true := wf_single (by have := lrgV_lt n X; omega)
theorem amt_word {x : Nat} (wx : (Lit.float .f32 x).wf = true) : (sgn single x = true → Op.negFloat .f32 x = rung single x) ∧ (sgn single x = false → x = rung single x) := by
  have hx := lt_single' wx
  constructor
  · intro hs
    have h : Op.negFloat .f32 x = single.word (!sgn single x) (rung single x) := neg_eq .f32 hx
    rw [hs, Bool.not_true, word_false] at h
    exact h
  · intro hs
    have := word_eq single hx
    rw [hs, word_false] at this
    exact this
theorem amtP (x : Nat) (wx : (Lit.float .f32 x).wf = true) (hf : finB x = true) (w : World) :
    Calls Try.prog 58 #[.float .f32 x] w fun e w' => e = .returned (.float .f32 (rung single x)) ∧ w' = w := by
  have k1 := fun w => conv_num (fin_num hf) w
  obtain ⟨h1, h2⟩ := amt_word wx
  have hsg : sgn double (widen x) = sgn single x := sgn_widen x
  obtain ⟨s, hs⟩ : ∃ s, sgn single x = s := ⟨_, rfl⟩
  rw [hs] at h1 h2 hsg
  have Hsg := Lib.hid hsg
  clear hs hsg hf
  cases s
  · have H2 := Lib.hid (h2 rfl)
    clear h1 h2
    go_enter Try.func58, Try.ntmps58
    go_wp2_with fail
    refine (signbit_any _ _ (widen_wl x)).mono ?_
    rintro e w1 ⟨rfl, rfl⟩
    rw [Hsg.out]
    go_wp2_with fail
    go_ret
    exact ⟨by rw [← H2.out]; rfl, rfl⟩
  · have H1 := Lib.hid (h1 rfl)
    clear h1 h2
    go_enter Try.func58, Try.ntmps58
    go_wp2_with fail
    refine (signbit_any _ _ (widen_wl x)).mono ?_
    rintro e w1 ⟨rfl, rfl⟩
    rw [Hsg.out]
    go_wp2_with fail
    go_ret
    exact ⟨by rw [← H1.out]; rfl, rfl⟩
def amtS (x : Nat) : Nat := if ltB x 0 = true then Op.negFloat .f32 x else x
theorem amtS_any (x : Nat) (w : World) :
    Calls Try.prog 64 #[.float .f32 x] w fun e w' => e = .returned (.float .f32 (amtS x)) ∧ w' = w := by
  obtain ⟨c, hc⟩ : ∃ c, ltB x 0 = c := ⟨_, rfl⟩
  have Hf := Lib.hid (show (if c = true then Op.negFloat .f32 x else x) = amtS x by unfold amtS; rw [hc])
  unfold ltB at hc
  cases c
  · go_enter Try.func64, Try.ntmps64
    go_wp2
    go_ret
    exact ⟨by rw [← Hf.out]; rfl, rfl⟩
  · go_enter Try.func64, Try.ntmps64
    go_wp2
    go_ret
    exact ⟨by rw [← Hf.out]; rfl, rfl⟩
theorem ltB_zero {x : Nat} (h : isNaN single x = false) : ltB x 0 = decide (sv single x < 0) := by
  unfold ltB
  rw [lt32]
  unfold ltW
  rw [h, nan_zero, sv_zero]; rfl
/-- the model's amount against a number that is not below 0 -/
theorem amtS_gt {x m : Nat} (wx : (Lit.float .f32 x).wf = true) (hf : finB x = true) (hm : m < 2139095040) : gtB (amtS x) m = decide (m < rung single x) ∧ (m < rung single x → amtS x = rung single x) := by
  obtain ⟨a1, a2⟩ := amt_word wx
  have hr := fin_lt hf
  have nx := fin_num hf
  by_cases h0 : sv single x < 0
  · have hs : sgn single x = true := by
      cases hs : sgn single x
      · unfold sv at h0; rw [hs] at h0; simp at h0; omega
      · rfl
    have e : amtS x = rung single x := by unfold amtS; rw [ltB_zero nx, decide_eq_true h0, if_pos rfl]; exact a1 hs
    rw [e]
    refine ⟨?_, fun _ => rfl⟩
    unfold gtB
    rw [gt32, pos_lt _ _ hm hr]
  · have e : amtS x = x := by unfold amtS; rw [ltB_zero nx, decide_eq_false h0, if_neg Bool.false_ne_true]
    rw [e]
    cases hs : sgn single x
    · refine ⟨?_, fun _ => a2 hs⟩
      conv => lhs; rw [a2 hs]
      unfold gtB
      rw [gt32, pos_lt _ _ hm hr]
    · have hz : rung single x = 0 := by
        unfold sv at h0; rw [hs] at h0; simp at h0
        exact (mg_eq_zero single).1 (by omega)
      refine ⟨?_, fun h => by omega⟩
      unfold gtB
      rw [gt32]
      unfold ltW
      rw [nx, pos_nan hm, (sv_eq_zero single).2 hz, pos_sv hm, hz]
      simp
set_option maxRecDepth 100000 in
set_option maxHeartbeats 1600000 in
theorem specLrg (a : Option Addr) (len cap : Nat) (X : Nat → Nat) (w : World) (hl : len ≤ 1048576) (h : Lst w a len X) :
    Calls Try.prog 40 #[.slice a len cap] w fun e w' => e = .returned (.float .f32 (lrgV len X)) ∧ Below w.heap.size w w' := by
  have H := Lib.hid h
  clear h
  have Hst := Lib.hid (Below.refl w.heap.size w)
  cases hok : okP len X
  · have Hf := Lib.hid (show 0 = lrgV len X by unfold lrgV; rw [if_neg (by rw [hok]; exact Bool.false_ne_true)])
    have Hok := Lib.hid hok
    clear hok
    by_cases h0 : len = 0
    · subst h0
      go_enter Try.func40, Try.ntmps40
      go_wp2_with fail
      refine wp_loop_rounds 1 ?_
      rw [rounds_succ]
      go_wp2_with fail
      go_ret
      exact ⟨by rw [← Hf.out]; rfl, Hst.out⟩
    · have h0' : (0 : Int) < (len : Int) := by omega
      go_enter Try.func40, Try.ntmps40
      go_wp2_with fail
      refine wp_loop_rounds 1 ?_
      rw [rounds_succ]
      go_wp2_with fail
      refine (specTab _ _ _ X _ hl H.out).mono ?_
      rintro e w1 ⟨rfl, n, rfl⟩
      rw [Hok.out]
      go_wp2_with fail
      go_ret
      exact ⟨by rw [← Hf.out]; rfl, below_drewN Hst.out n⟩
  · have Hf := Lib.hid (show lrg X len = lrgV len X by unfold lrgV; rw [if_pos hok])
    have Hlt := Lib.hid (lrg_lt hok)
    have Hfin := Lib.hid (fun j (hj : j < len) => (okPt_fin (okP_at hok hj)).2)
    have Hok := Lib.hid hok
    obtain ⟨b, off, rfl, hlt, hcells⟩ := H.out.cells (by have := okP_bounds hok; omega)
    have Hc := Lib.hid hcells
    clear hcells hok
    go_enter Try.func40, Try.ntmps40
    go_wp2_with fail
    go_loopw [3, 4] (fun v i wr => ∃ k m : Nat, v = .float .f32 m ∧ i = .int .i64 k ∧ k ≤ len ∧ Hid (m = lrg X k) ∧ Below w.heap.size w wr) (fun _ i _ => len - (intOf i).toNat)
    case atStart => exact ⟨0, 0, rfl, rfl, Nat.zero_le _, Lib.hid rfl, Hst.out⟩
    case round =>
      obtain ⟨k, m, rfl, rfl, hk, hm, hbel⟩ := hrel
      have Hbel := Lib.hid hbel
      have hLr := H.out.keep hbel
      have HLr := Lib.hid hLr
      by_cases hkl : k < len
      · have hkl' : (k : Int) < (len : Int) := by omega
        have wy := (H.out.1 k hkl).2
        obtain ⟨g1, g2⟩ := amtS_gt (m := m) wy (Hfin.out k hkl) (hm.out ▸ Hlt.out k hk)
        obtain ⟨_, a1⟩ := (Hc.out.keep hlt hbel) k hkl
        have hcw : ∀ n, (wr.drewN n).cell? ⟨b, off + k * 2 + 1, none⟩ = some (.float .f32 (X (k * 2 + 1))) := fun n => a1
        have HB2 := fun n => Lib.hid (below_drewN Hbel.out n)
        clear hbel hLr
        by_cases hgt : m < rung single (X (k * 2 + 1))
        · rw [decide_eq_true hgt] at g1
          have G2 := Lib.hid (g2 hgt)
          have Hn := Lib.hid (show rung single (X (k * 2 + 1)) = lrg X (k + 1) by
            show _ = max (lrg X k) (rung single (X (k * 2 + 1)))
            rw [← hm.out]; omega)
          unfold gtB at g1
          clear g2 hgt
          go_wp2_with fail
          refine (specTab _ _ _ X _ hl HLr.out).mono ?_
          rintro e w1 ⟨rfl, n, rfl⟩
          rw [Hok.out]
          have a1n := hcw n
          go_wp2_with fail
          refine (amtS_any _ _).mono ?_
          rintro e w1 ⟨rfl, rfl⟩
          go_wp2_with fail
          refine (amtS_any _ _).mono ?_
          rintro e w1 ⟨rfl, rfl⟩
          rw [G2.out]
          go_wp2_with fail
          go_roundw
          case rel => exact ⟨k + 1, _, rfl, by go_num, hkl, Lib.hid Hn.out, (HB2 n).out⟩
          case measure => simp [intOf]; omega
        · rw [decide_eq_false hgt] at g1
          have Hn := Lib.hid (show m = lrg X (k + 1) by
            show _ = max (lrg X k) (rung single (X (k * 2 + 1)))
            rw [← hm.out]; omega)
          unfold gtB at g1
          clear g2 hgt
          go_wp2_with fail
          refine (specTab _ _ _ X _ hl HLr.out).mono ?_
          rintro e w1 ⟨rfl, n, rfl⟩
          rw [Hok.out]
          have a1n := hcw n
          go_wp2_with fail
          refine (amtS_any _ _).mono ?_
          rintro e w1 ⟨rfl, rfl⟩
          go_wp2_with fail
          go_roundw
          case rel => exact ⟨k + 1, _, rfl, by go_num, hkl, Lib.hid Hn.out, (HB2 n).out⟩
          case measure => simp [intOf]; omega
      · obtain rfl : k = len := by omega
        have hkl' : ¬ (k : Int) < (k : Int) := by omega
        clear hbel hLr
        go_wp2_with fail
        go_ret
        exact ⟨by rw [← Hf.out, ← hm.out]; rfl, Hbel.out⟩
theorem max_facts {a b : Nat} (ha : a < 2139095040) (hb : b < 2139095040) :
    (a < b → FloatKind.f32.format.order a b = some .lt) ∧ (b < a → FloatKind.f32.format.order a b = some .gt) ∧ (a = b → FloatKind.f32.format.order a b = some .eq) := by
  have h1 := pos_lt a b ha hb
  have h2 := pos_lt b a hb ha
  have h3 := pos_eq a b ha hb
  rw [← lt32] at h1
  rw [← gt32] at h2
  rw [← eq32] at h3
  refine ⟨fun h => ?_, fun h => ?_, fun h => ?_⟩
  · rw [decide_eq_true h] at h1; exact eq_of_beq h1
  · rw [decide_eq_true h] at h2; exact eq_of_beq h2
  · rw [decide_eq_true h] at h3; exact eq_of_beq h3
theorem run_max {a b : Nat} (ha : a < 2139095040) (hb : b < 2139095040) (W : World) :
    (Builtin.max_ #[25, 25] 25 #[.float .f32 a, .float .f32 b]).run Try.prog W = .ok (.float .f32 (max a b)) W := by
  obtain ⟨o1, o2, o3⟩ := max_facts ha hb
  have hdec : (FloatKind.f32.decode a).neg = false := by
    rw [decode32, reads_fin single (by rw [pos_rung ha, inf32]; exact ha), pos_sgn ha]; rfl
  rcases Nat.lt_trichotomy a b with h | h | h
  · have := o1 h
    rw [show max a b = b by omega]
    simp [Builtin.max_, Builtin.max2, this]
  · have := o3 h
    rw [show max a b = a by omega]
    simp [Builtin.max_, Builtin.max2, this, hdec]
  · have := o2 h
    rw [show max a b = a by omega]
    simp [Builtin.max_, Builtin.max2, this]
set_option maxRecDepth 100000 in
set_option maxHeartbeats 1600000 in
theorem implLrg (a : Option Addr) (len cap : Nat) (X : Nat → Nat) (w : World) (hl : len ≤ 1048576) (h : Lst w a len X) :
    Calls Try.prog 24 #[.slice a len cap] w fun e w' => e = .returned (.float .f32 (lrgV len X)) ∧ Below w.heap.size w w' := by
  have H := Lib.hid h
  clear h
  cases hok : okP len X
  · have Hf := Lib.hid (show 0 = lrgV len X by unfold lrgV; rw [if_neg (by rw [hok]; exact Bool.false_ne_true)])
    have Hok := Lib.hid hok
    clear hok
    go_enter Try.func24, Try.ntmps24
    go_wp2_with fail
    refine (implTab _ _ _ X _ hl H.out).mono ?_
    rintro e w1 ⟨rfl, hb1⟩
    rw [Hok.out]
    have Hb1 := Lib.hid hb1
    clear hb1
    go_wp2_with fail
    go_ret
    exact ⟨by rw [← Hf.out]; rfl, Hb1.out⟩
  · have Hf := Lib.hid (show lrg X len = lrgV len X by unfold lrgV; rw [if_pos hok])
    have Hlt := Lib.hid (lrg_lt hok)
    have Hfin := Lib.hid (fun j (hj : j < len) => (okPt_fin (okP_at hok hj)).2)
    have Hok := Lib.hid hok
    obtain ⟨b, off, rfl, hlt, hcells⟩ := H.out.cells (by have := okP_bounds hok; omega)
    have Hc := Lib.hid hcells
    clear hcells hok
    go_enter Try.func24, Try.ntmps24
    go_wp2_with fail
    refine (implTab _ _ _ X _ hl H.out).mono ?_
    rintro e w1 ⟨rfl, hb1⟩
    rw [Hok.out]
    have Hb1 := Lib.hid hb1
    clear hb1
    go_wp2_with fail
    have hsz1 : w.heap.size ≤ w1.heap.size := Hb1.out.size
    go_loopw [3, 11] (fun v i wr => ∃ k m : Nat, v = .float .f32 m ∧ i = .int .i64 k ∧ k ≤ len ∧ Hid (m = lrg X k) ∧ Below w.heap.size w wr) (fun _ i _ => len - (intOf i).toNat)
    case atStart => exact ⟨0, 0, rfl, rfl, Nat.zero_le _, Lib.hid rfl, Hb1.out⟩
    case round =>
      obtain ⟨k, m, rfl, rfl, hk, hm, hbel⟩ := hrel
      have Hbel := Lib.hid hbel
      by_cases hkl : k < len
      · have hkl' : (k : Int) < (len : Int) := by omega
        have wy := (H.out.1 k hkl).2
        have fy := Hfin.out k hkl
        have hm1 : m < 2139095040 := hm.out ▸ Hlt.out k hk
        have hm2 := fin_lt fy
        obtain ⟨a0, a1⟩ := (Hc.out.keep hlt hbel) k hkl
        have hsz2 : w.heap.size ≤ wr.heap.size := hbel.size
        have HB2 := Lib.hid (hbel.alloc hsz2 (.cells #[.float .f32 (X (k * 2)), .float .f32 (X (k * 2 + 1))] 32))
        have ham := fun W => amtP _ wy fy W
        have Ham := Lib.hid ham
        clear hbel ham wy fy
        obtain ⟨r, hr⟩ : ∃ r, rung single (X (k * 2 + 1)) = r := ⟨_, rfl⟩
        rw [hr] at hm2 Ham
        have hmax := fun W => run_max hm1 hm2 W
        have Hn := Lib.hid (show max m r = lrg X (k + 1) by
          show _ = max (lrg X k) (rung single (X (k * 2 + 1)))
          rw [← hm.out, hr])
        clear hm1 hm2 hr
        go_wp2_with fail
        refine (Ham.out _).mono ?_
        rintro e w2 ⟨rfl, rfl⟩
        go_wp2_with fail
        go_roundw
        case rel => exact ⟨k + 1, _, rfl, by go_num, hkl, Lib.hid Hn.out, HB2.out⟩
        case measure => simp [intOf]; omega
      · obtain rfl : k = len := by omega
        have hkl' : ¬ (k : Int) < (k : Int) := by omega
        clear hbel
        go_wp2_with fail
        go_ret
        exact ⟨by rw [← Hf.out, ← hm.out]; rfl, Hbel.out⟩
end Go.Proofs.Ytbmojogohffhaaa.Pnt
