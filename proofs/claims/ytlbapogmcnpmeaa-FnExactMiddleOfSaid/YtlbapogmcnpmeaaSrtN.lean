/- The program's stable sort, fourth part: the merge where the right run is of one element. -/
import Derived.Test.YtlbapogmcnpmeaaSrtM
namespace Go.Proofs.Ytlbapogmcnpmeaa.Avg
open Go.ChangeShapes Go.WideShapes Go.ChangeAt Go.RowKit Go.Deep Go.Proofs.Ytlbapogmcnpmeaa Go.Proofs.Ytlbapogmcnpmeaa.Flt Go.Proofs.Ytlbapogmcnpmeaa.Mth Go.Proofs.Ytlbapogmcnpmeaa.Sgl
open Ieee (single double)
set_option linter.unusedVariables false
set_option linter.unusedSimpArgs false
set_option maxRecDepth 20000 in
set_option maxHeartbeats 6400000 in
/-- the right run is of one element -/
theorem sym_right (g cap n a m b : Nat) (X σ : Nat → Nat) (w : World) (ham : a + 1 < m) (hmb : m + 1 = b) (hbn : b ≤ n) (hn : n ≤ 64) (hrow : RowS w g cap n X σ) (hfin : FinS n X σ) (h1 : Run X σ a m) (h2 : Run X σ m b) (hs : Sep σ a m b) :
    Calls Try.prog 83 #[.slice (some ⟨g, 0, none⟩) n cap, .int .i64 (a : Int), .int .i64 (m : Int), .int .i64 (b : Int), .func (.func 69) #[] #[]] w fun e w' => e = .returned (.tuple #[]) ∧ ∃ τ, RowS w' g cap n X τ ∧ Run X τ a b ∧ Smp σ τ a b ∧ Oth σ τ a b ∧ Only g w w' := by
  have Hst := Lib.hid (And.intro hrow (And.intro hfin (And.intro h1 (And.intro h2 hs))))
  have hcf := ent_cmp
  have mixed := mixed_yes
  clear hrow hfin h1 h2 hs
  have e1 : ¬ ((m : Int) - (a : Int) = 1) := by omega
  have eb1 : ((m : Int) - (a : Int) == 1) = false := by rw [beq_eq_false_iff_ne]; exact e1
  have hw1 : IntKind.i64.wrap ((m : Int) - (a : Int)) = (m : Int) - (a : Int) := by rw [IntKind.wrap_i64]; omega
  have hw2 : IntKind.i64.wrap ((b : Int) - (m : Int)) = 1 := by rw [IntKind.wrap_i64]; omega
  go_enter Try.func83, Try.ntmps83
  go_wp2_with fail
  go_loopw [14, 15] (fun iv jv wr => ∃ i j : Nat, iv = .int .i64 (i : Int) ∧ jv = .int .i64 (j : Int) ∧ a ≤ i ∧ i ≤ j ∧ j ≤ m ∧ Hid (RowS wr g cap n X σ ∧ (∀ q, a ≤ q → q < i → val X (σ q) ≤ val X (σ m)) ∧ (∀ q, j ≤ q → q < m → val X (σ m) < val X (σ q)) ∧ Only g w wr))
    (fun iv jv _ => (intOf jv).toNat - (intOf iv).toNat)
  case atStart => exact ⟨a, m, rfl, rfl, Nat.le_refl _, by omega, Nat.le_refl _, Lib.hid ⟨Hst.out.1, fun q h1 h2 => by omega, fun q h1 h2 => by omega, Only.refl _ _⟩⟩
  case round =>
    obtain ⟨i, j, rfl, rfl, hmi, hij, hjb, HI⟩ := hrel
    clear hw1 hw2 e1
    by_cases hlt : i < j
    · have hlt' : (i : Int) < (j : Int) := by omega
      obtain ⟨s, hs⟩ : ∃ s, i + j = s := ⟨_, rfl⟩
      obtain ⟨h, hh⟩ : ∃ h, s / 2 = h := ⟨_, rfl⟩
      have v1 : IntKind.i64.wrap ((i : Int) + (j : Int)) = (s : Int) := by rw [IntKind.wrap_i64]; omega
      have v2 : IntKind.u64.wrap (s : Int) = (s : Int) := by rw [IntKind.wrap_u64]; omega
      have v3 : (s : Int) / 2 = (h : Int) := by omega
      have v4 : IntKind.i64.wrap (h : Int) = (h : Int) := by rw [IntKind.wrap_i64]; omega
      have hhn : (h : Int) < (n : Int) := by omega
      have hmn : (m : Int) < (n : Int) := by omega
      have hhb : i ≤ h ∧ h < j := by omega
      have l1 := HI.out.1.cell (i := m) (by omega)
      have l2 := HI.out.1.cell (i := h) (by omega)
      have fx : finB (X (σ (m))) = true := Hst.out.2.1 _ (by omega)
      have fy : finB (X (σ (h))) = true := Hst.out.2.1 _ (by omega)
      have hv : decide (cmpI (X (σ (m))) (X (σ (h))) < 0) = decide (val X (σ (m)) < val X (σ (h))) := cmp_lt
      obtain ⟨x, hx⟩ : ∃ x, X (σ (m)) = x := ⟨_, rfl⟩
      obtain ⟨y, hy⟩ : ∃ y, X (σ (h)) = y := ⟨_, rfl⟩
      rw [hx] at l1 fx hv
      rw [hy] at l2 fy hv
      have HC := Lib.hid (cmp_walk x y wr fx fy)
      clear fx fy hx hy
      have Hmono := Lib.hid (show ∀ p q, a ≤ p → p ≤ q → q < m → val X (σ p) ≤ val X (σ q) from fun p q h1 h2 h3 => by
        by_cases e : p = q
        · rw [e]; exact Int.le_refl _
        · exact (Hst.out.2.2.1 p q h1 (by omega) h3).le)
      cases hlv : decide (val X (σ m) < val X (σ h))
      · rw [hlv] at hv
        have Hno := Lib.hid (of_decide_eq_false hlv)
        clear hlv
        have v5 : IntKind.i64.wrap ((h : Int) + 1) = ((h + 1 : Nat) : Int) := by rw [IntKind.wrap_i64]; omega
        go_wp2_with fail
        go_quiet (first | (with_reducible exact Calls.quiet_of (HC.out _)))
        have H2 := Lib.hid (show RowS (wr.drewN nq) g cap n X σ ∧ (∀ q, a ≤ q → q < h + 1 → val X (σ q) ≤ val X (σ m)) ∧ (∀ q, j ≤ q → q < m → val X (σ m) < val X (σ q)) ∧ Only g w (wr.drewN nq) from ⟨HI.out.1.drewN nq, fun q h1 h2 => by have := Hmono.out q h h1 (by omega) (by omega); have := Hno.out; omega, HI.out.2.2.1, HI.out.2.2.2.drewN nq⟩)
        clear HI l1 l2 hv HC
        generalize wr.drewN nq = w3 at H2 ⊢
        go_wp2_with fail
        go_roundw
        case rel => exact ⟨h + 1, j, by first | rfl | go_num, by first | rfl | go_num, by omega, by omega, by omega, H2⟩
        case measure => simp [intOf]; omega
      · rw [hlv] at hv
        have Hyes := Lib.hid (of_decide_eq_true hlv)
        clear hlv
        go_wp2_with fail
        go_quiet (first | (with_reducible exact Calls.quiet_of (HC.out _)))
        have H2 := Lib.hid (show RowS (wr.drewN nq) g cap n X σ ∧ (∀ q, a ≤ q → q < i → val X (σ q) ≤ val X (σ m)) ∧ (∀ q, h ≤ q → q < m → val X (σ m) < val X (σ q)) ∧ Only g w (wr.drewN nq) from ⟨HI.out.1.drewN nq, HI.out.2.1, fun q h1 h2 => by have := Hmono.out h q (by omega) h1 h2; have := Hyes.out; omega, HI.out.2.2.2.drewN nq⟩)
        clear HI l1 l2 hv HC
        generalize wr.drewN nq = w3 at H2 ⊢
        go_wp2_with fail
        go_roundw
        case rel => exact ⟨i, h, by first | rfl | go_num, by first | rfl | go_num, hmi, by omega, by omega, H2⟩
        case measure => simp [intOf]; omega
    · obtain rfl : i = j := by omega
      have hlt' : ¬ (i : Int) < (i : Int) := by omega
      go_wp2_with fail
      go_loopw [17] (fun kv w2 => ∃ k : Nat, kv = .int .i64 (k : Int) ∧ i ≤ k ∧ k ≤ m ∧ Hid (RowS w2 g cap n X (rotR σ m k) ∧ Only g w w2))
        (fun kv _ => (intOf kv).toNat)
      case atStart => exact ⟨m, rfl, hjb, Nat.le_refl _, Lib.hid ⟨by rw [rotR_zero]; exact HI.out.1, HI.out.2.2.2⟩⟩
      case round =>
        obtain ⟨k, rfl, hik, hkm, HK⟩ := hrel
        by_cases hk : i < k
        · have hk' : (i : Int) < (k : Int) := by omega
          obtain ⟨k1, hk1⟩ : ∃ k1, k1 + 1 = k := ⟨k - 1, by omega⟩
          have v7 : IntKind.i64.wrap ((k : Int) - 1) = (k1 : Int) := by rw [IntKind.wrap_i64]; omega
          have b1 : (k : Int) < (n : Int) := by omega
          have b2 : (k1 : Int) < (n : Int) := by omega
          obtain ⟨r1, r2⟩ := HK.out
          have c1 := r1.cell (i := k) (by omega)
          have c2 := r1.cell (i := k1) (by omega)
          have f1 := r1.frozen k
          have f2 := r1.frozen k1
          have c3 := r1.second (i := k) (j := k1) (by omega) (by omega) (.float .f32 (X (rotR σ m k k1)))
          have S := r1.swap (i := k) (j := k1) (by omega) (by omega) (by omega)
          have hst : swp (rotR σ m k) k k1 = rotR σ m k1 := by rw [← hk1]; exact rotR_step σ (by omega)
          rw [hst] at S
          obtain ⟨x, hx⟩ : ∃ x, X (rotR σ m k k) = x := ⟨_, rfl⟩
          obtain ⟨y, hy⟩ : ∃ y, X (rotR σ m k k1) = y := ⟨_, rfl⟩
          rw [hx] at c1 S
          rw [hy] at c2 c3 S
          have HS := Lib.hid (show RowS (((wr.setCell ⟨g, k, none⟩ (.float .f32 y)).setCell ⟨g, k1, none⟩ (.float .f32 x)).drew) g cap n X (rotR σ m k1) ∧ Only g w (((wr.setCell ⟨g, k, none⟩ (.float .f32 y)).setCell ⟨g, k1, none⟩ (.float .f32 x)).drew) from ⟨S.drew, ((r2.setCell k _).setCell k1 _).drewN 1⟩)
          clear S hx hy hst
          have hkk : i ≤ k1 ∧ k1 ≤ m ∧ k1 < k := by omega
          clear r1 r2 HK HI hk1
          go_wp2_with fail
          go_big_region_o
          clear c1 c2 c3 f1 f2
          generalize ((wr.setCell ⟨g, k, none⟩ (.float .f32 y)).setCell ⟨g, k1, none⟩ (.float .f32 x)).drew = w4 at HS ⊢
          go_wp2_with fail
          go_roundw
          case rel => exact ⟨k1, by first | rfl | go_num, hkk.1, hkk.2.1, HS⟩
          case measure => simp [intOf]; omega
        · obtain rfl : k = i := by omega
          have hk' : ¬ (k : Int) < (k : Int) := by omega
          have HF := Lib.hid (show Run X (rotR σ m k) a b ∧ Smp σ (rotR σ m k) a b ∧ Oth σ (rotR σ m k) a b from by
            rw [← hmb]
            exact ⟨rotR_run hmi hjb Hst.out.2.2.1 (by rw [hmb]; exact Hst.out.2.2.2.2) (fun q h1 h2 => Int.not_lt.2 (HI.out.2.1 q h1 h2)) HI.out.2.2.1, rotR_smp σ hmi hjb, rotR_oth σ hmi hjb⟩)
          clear HI
          go_wp2_with fail
          refine bodyPost_ret (results_none rfl _ _ _) rfl ?_
          exact ⟨rfl, _, HK.out.1, HF.out.1, HF.out.2.1, HF.out.2.2, HK.out.2⟩
end Go.Proofs.Ytlbapogmcnpmeaa.Avg
