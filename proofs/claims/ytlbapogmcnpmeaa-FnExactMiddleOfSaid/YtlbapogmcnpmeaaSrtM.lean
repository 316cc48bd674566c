/- The program's stable sort, third part: the merge by symmetric comparisons, where one of the two runs is of one element. -/
import Derived.Test.YtlbapogmcnpmeaaSrtR
namespace Go.Proofs.Ytlbapogmcnpmeaa.Avg
open Go.ChangeShapes Go.WideShapes Go.ChangeAt Go.RowKit Go.Deep Go.Proofs.Ytlbapogmcnpmeaa Go.Proofs.Ytlbapogmcnpmeaa.Flt Go.Proofs.Ytlbapogmcnpmeaa.Mth Go.Proofs.Ytlbapogmcnpmeaa.Sgl
open Ieee (single double)
set_option linter.unusedVariables false
set_option linter.unusedSimpArgs false
/-- the comparison of two elements, in whatever world of the walk -/
theorem cmp_walk (x y : Nat) (w : World) (fx : finB x = true) (fy : finB y = true) (q : Nat) : Calls Try.prog 69 #[.float .f32 x, .float .f32 y] (w.drewN q) fun e w' => e = .returned (.int .i64 (cmpI x y)) ∧ ∃ m, w' = (w.drewN q).drewN m :=
  (cmp_any x y _ fx fy).mono (by rintro e w' ⟨rfl, hw⟩; exact ⟨rfl, 0, hw⟩)
set_option maxRecDepth 20000 in
set_option maxHeartbeats 6400000 in
/-- the left run is of one element -/
theorem sym_left (g cap n a m b : Nat) (X σ : Nat → Nat) (w : World) (hm : a + 1 = m) (hmb : m < b) (hbn : b ≤ n) (hn : n ≤ 64) (hrow : RowS w g cap n X σ) (hfin : FinS n X σ) (h1 : Run X σ a m) (h2 : Run X σ m b) (hs : Sep σ a m b) :
    Calls Try.prog 83 #[.slice (some ⟨g, 0, none⟩) n cap, .int .i64 (a : Int), .int .i64 (m : Int), .int .i64 (b : Int), .func (.func 69) #[] #[]] w fun e w' => e = .returned (.tuple #[]) ∧ ∃ τ, RowS w' g cap n X τ ∧ Run X τ a b ∧ Smp σ τ a b ∧ Oth σ τ a b ∧ Only g w w' := by
  have Hst := Lib.hid (And.intro hrow (And.intro hfin (And.intro h1 (And.intro h2 hs))))
  have hcf := ent_cmp
  have mixed := mixed_yes
  clear hrow hfin h1 h2 hs
  have hw1 : IntKind.i64.wrap ((m : Int) - (a : Int)) = 1 := by rw [IntKind.wrap_i64]; omega
  go_enter Try.func83, Try.ntmps83
  go_wp2_with fail
  go_loopw [10, 11] (fun iv jv wr => ∃ i j : Nat, iv = .int .i64 (i : Int) ∧ jv = .int .i64 (j : Int) ∧ m ≤ i ∧ i ≤ j ∧ j ≤ b ∧ Hid (RowS wr g cap n X σ ∧ (∀ q, m ≤ q → q < i → val X (σ q) < val X (σ a)) ∧ (∀ q, j ≤ q → q < b → val X (σ a) ≤ val X (σ q)) ∧ Only g w wr))
    (fun iv jv _ => (intOf jv).toNat - (intOf iv).toNat)
  case atStart => exact ⟨m, b, rfl, rfl, Nat.le_refl _, by omega, Nat.le_refl _, Lib.hid ⟨Hst.out.1, fun q h1 h2 => by omega, fun q h1 h2 => by omega, Only.refl _ _⟩⟩
  case round =>
    obtain ⟨i, j, rfl, rfl, hmi, hij, hjb, HI⟩ := hrel
    clear hw1
    by_cases hlt : i < j
    · have hlt' : (i : Int) < (j : Int) := by omega
      obtain ⟨s, hs⟩ : ∃ s, i + j = s := ⟨_, rfl⟩
      obtain ⟨h, hh⟩ : ∃ h, s / 2 = h := ⟨_, rfl⟩
      have v1 : IntKind.i64.wrap ((i : Int) + (j : Int)) = (s : Int) := by rw [IntKind.wrap_i64]; omega
      have v2 : IntKind.u64.wrap (s : Int) = (s : Int) := by rw [IntKind.wrap_u64]; omega
      have v3 : (s : Int) / 2 = (h : Int) := by omega
      have v4 : IntKind.i64.wrap (h : Int) = (h : Int) := by rw [IntKind.wrap_i64]; omega
      have hhn : (h : Int) < (n : Int) := by omega
      have han : (a : Int) < (n : Int) := by omega
      have hhb : i ≤ h ∧ h < j := by omega
      have l1 := HI.out.1.cell (i := h) (by omega)
      have l2 := HI.out.1.cell (i := a) (by omega)
      have fx : finB (X (σ (h))) = true := Hst.out.2.1 _ (by omega)
      have fy : finB (X (σ (a))) = true := Hst.out.2.1 _ (by omega)
      have hv : decide (cmpI (X (σ (h))) (X (σ (a))) < 0) = decide (val X (σ (h)) < val X (σ (a))) := cmp_lt
      obtain ⟨x, hx⟩ : ∃ x, X (σ (h)) = x := ⟨_, rfl⟩
      obtain ⟨y, hy⟩ : ∃ y, X (σ (a)) = y := ⟨_, rfl⟩
      rw [hx] at l1 fx hv
      rw [hy] at l2 fy hv
      have HC := Lib.hid (cmp_walk x y wr fx fy)
      clear fx fy hx hy
      have Hmono := Lib.hid (show ∀ p q, m ≤ p → p ≤ q → q < b → val X (σ p) ≤ val X (σ q) from fun p q h1 h2 h3 => by
        by_cases e : p = q
        · rw [e]; exact Int.le_refl _
        · exact (Hst.out.2.2.2.1 p q h1 (by omega) h3).le)
      cases hlv : decide (val X (σ h) < val X (σ a))
      · rw [hlv] at hv
        have Hno := Lib.hid (of_decide_eq_false hlv)
        clear hlv
        go_wp2_with fail
        go_quiet (first | (with_reducible exact Calls.quiet_of (HC.out _)))
        have H2 := Lib.hid (show RowS (wr.drewN nq) g cap n X σ ∧ (∀ q, m ≤ q → q < i → val X (σ q) < val X (σ a)) ∧ (∀ q, h ≤ q → q < b → val X (σ a) ≤ val X (σ q)) ∧ Only g w (wr.drewN nq) from ⟨HI.out.1.drewN nq, HI.out.2.1, fun q h1 h2 => by have := Hmono.out h q (by omega) h1 h2; have := Hno.out; omega, HI.out.2.2.2.drewN nq⟩)
        clear HI l1 l2 hv HC
        generalize wr.drewN nq = w3 at H2 ⊢
        go_wp2_with fail
        go_roundw
        case rel => exact ⟨i, h, by first | rfl | go_num, by first | rfl | go_num, hmi, by omega, by omega, H2⟩
        case measure => simp [intOf]; omega
      · rw [hlv] at hv
        have Hyes := Lib.hid (of_decide_eq_true hlv)
        clear hlv
        have v5 : IntKind.i64.wrap ((h : Int) + 1) = ((h + 1 : Nat) : Int) := by rw [IntKind.wrap_i64]; omega
        go_wp2_with fail
        go_quiet (first | (with_reducible exact Calls.quiet_of (HC.out _)))
        have H2 := Lib.hid (show RowS (wr.drewN nq) g cap n X σ ∧ (∀ q, m ≤ q → q < h + 1 → val X (σ q) < val X (σ a)) ∧ (∀ q, j ≤ q → q < b → val X (σ a) ≤ val X (σ q)) ∧ Only g w (wr.drewN nq) from ⟨HI.out.1.drewN nq, fun q h1 h2 => by have := Hmono.out q h h1 (by omega) (by omega); have := Hyes.out; omega, HI.out.2.2.1, HI.out.2.2.2.drewN nq⟩)
        clear HI l1 l2 hv HC
        generalize wr.drewN nq = w3 at H2 ⊢
        go_wp2_with fail
        go_roundw
        case rel => exact ⟨h + 1, j, by first | rfl | go_num, by first | rfl | go_num, by omega, by omega, by omega, H2⟩
        case measure => simp [intOf]; omega
    · obtain rfl : i = j := by omega
      have hlt' : ¬ (i : Int) < (i : Int) := by omega
      have v6 : IntKind.i64.wrap ((i : Int) - 1) = ((i - 1 : Nat) : Int) := by rw [IntKind.wrap_i64]; omega
      obtain ⟨i1, hi1⟩ : ∃ i1, i - 1 = i1 := ⟨_, rfl⟩
      rw [hi1] at v6
      go_wp2_with fail
      go_loopw [13] (fun kv w2 => ∃ k : Nat, kv = .int .i64 (k : Int) ∧ a ≤ k ∧ k ≤ i1 ∧ Hid (RowS w2 g cap n X (rotL σ a k) ∧ Only g w w2))
        (fun kv _ => i1 - (intOf kv).toNat)
      case atStart => exact ⟨a, rfl, Nat.le_refl _, by omega, Lib.hid ⟨by rw [rotL_zero]; exact HI.out.1, HI.out.2.2.2⟩⟩
      case round =>
        obtain ⟨k, rfl, hak, hki, HK⟩ := hrel
        by_cases hk : k < i1
        · have hk' : (k : Int) < (i1 : Int) := by omega
          obtain ⟨k1, hk1⟩ : ∃ k1, k + 1 = k1 := ⟨_, rfl⟩
          have v7 : IntKind.i64.wrap ((k : Int) + 1) = (k1 : Int) := by rw [IntKind.wrap_i64]; omega
          have b1 : (k : Int) < (n : Int) := by omega
          have b2 : (k1 : Int) < (n : Int) := by omega
          obtain ⟨r1, r2⟩ := HK.out
          have c1 := r1.cell (i := k) (by omega)
          have c2 := r1.cell (i := k1) (by omega)
          have f1 := r1.frozen k
          have f2 := r1.frozen k1
          have c3 := r1.second (i := k) (j := k1) (by omega) (by omega) (.float .f32 (X (rotL σ a k k1)))
          have S := r1.swap (i := k) (j := k1) (by omega) (by omega) (by omega)
          have hst : swp (rotL σ a k) k k1 = rotL σ a k1 := by rw [← hk1]; exact rotL_step σ hak
          rw [hst] at S
          obtain ⟨x, hx⟩ : ∃ x, X (rotL σ a k k) = x := ⟨_, rfl⟩
          obtain ⟨y, hy⟩ : ∃ y, X (rotL σ a k k1) = y := ⟨_, rfl⟩
          rw [hx] at c1 S
          rw [hy] at c2 c3 S
          have HS := Lib.hid (show RowS (((wr.setCell ⟨g, k, none⟩ (.float .f32 y)).setCell ⟨g, k1, none⟩ (.float .f32 x)).drew) g cap n X (rotL σ a k1) ∧ Only g w (((wr.setCell ⟨g, k, none⟩ (.float .f32 y)).setCell ⟨g, k1, none⟩ (.float .f32 x)).drew) from ⟨S.drew, ((r2.setCell k _).setCell k1 _).drewN 1⟩)
          clear S hx hy hst
          clear r1 r2 HK HI
          go_wp2_with fail
          go_big_region_o
          clear c1 c2 c3 f1 f2
          generalize ((wr.setCell ⟨g, k, none⟩ (.float .f32 y)).setCell ⟨g, k1, none⟩ (.float .f32 x)).drew = w4 at HS ⊢
          go_wp2_with fail
          go_roundw
          case rel => exact ⟨k1, by first | rfl | go_num, by omega, by omega, HS⟩
          case measure => simp [intOf]; omega
        · obtain rfl : k = i1 := by omega
          have hk' : ¬ (k : Int) < (k : Int) := by omega
          have HF := Lib.hid (show Run X (rotL σ a k) a b ∧ Smp σ (rotL σ a k) a b ∧ Oth σ (rotL σ a k) a b from by
            rw [← hi1]
            exact ⟨rotL_run (by omega) (by omega) (by rw [hm]; exact Hst.out.2.2.2.1) (by rw [hm]; exact Hst.out.2.2.2.2) (by rw [hm]; exact HI.out.2.1) (fun q h1 h2 => Int.not_lt.2 (HI.out.2.2.1 q h1 h2)), rotL_smp σ (by omega) (by omega), rotL_oth σ (by omega) (by omega)⟩)
          clear HI
          go_wp2_with fail
          refine bodyPost_ret (results_none rfl _ _ _) rfl ?_
          exact ⟨rfl, _, HK.out.1, HF.out.1, HF.out.2.1, HF.out.2.2, HK.out.2⟩
end Go.Proofs.Ytlbapogmcnpmeaa.Avg
