/- Several texts in one: SrtQ, SrtT. -/
import Derived.Test.YtlbapogmcnpmeaaSrtA
/- The program's stable sort, fifth part: the merge by symmetric comparisons, whole. -/
namespace Go.Proofs.Ytlbapogmcnpmeaa.Avg
open Go.ChangeShapes Go.WideShapes Go.ChangeAt Go.RowKit Go.Deep Go.Proofs.Ytlbapogmcnpmeaa Go.Proofs.Ytlbapogmcnpmeaa.Flt Go.Proofs.Ytlbapogmcnpmeaa.Mth Go.Proofs.Ytlbapogmcnpmeaa.Sgl
open Ieee (single double)
set_option linter.unusedVariables false
set_option linter.unusedSimpArgs false
theorem cut_of {X σ : Nat → Nat} {a m b mid lo hi s : Nat} (ham : a < m) (hmb : m < b) (hlo : a ≤ lo) (hlb : mid + m ≤ lo + b) (h1 : lo ≤ s) (h2 : s ≤ hi) (h3 : hi ≤ m) (h4 : hi ≤ mid) (hl : lo = a ∨ lo + b = mid + m) (hh : hi = m ∨ hi = mid)
    (r1 : Run X σ a m) (r2 : Run X σ m b) (l : ∀ c, lo ≤ c → c < s → val X (σ c) ≤ val X (σ (mid + m - 1 - c))) (u : ∀ c, s ≤ c → c < hi → val X (σ (mid + m - 1 - c)) < val X (σ c)) : Cut X σ a m b mid s (mid + m - s) := by
  have m1 : ∀ p q, a ≤ p → p ≤ q → q < m → val X (σ p) ≤ val X (σ q) := fun p q k1 k2 k3 => by
    by_cases e : p = q
    · rw [e]; exact Int.le_refl _
    · exact (r1 p q k1 (by omega) k3).le
  have m2 : ∀ p q, m ≤ p → p ≤ q → q < b → val X (σ p) ≤ val X (σ q) := fun p q k1 k2 k3 => by
    by_cases e : p = q
    · rw [e]; exact Int.le_refl _
    · exact (r2 p q k1 (by omega) k3).le
  refine ⟨by omega, by omega, by omega, by omega, by omega, fun p q k1 k2 k3 k4 => ?_, fun p q k1 k2 k3 k4 => ?_⟩
  · have hs : lo ≤ s - 1 ∧ s - 1 < s := by omega
    have a1 := l (s - 1) hs.1 hs.2
    have a2 := m1 p (s - 1) k1 (by omega) (by omega)
    have a3 := m2 (mid + m - 1 - (s - 1)) q (by omega) (by omega) k4
    omega
  · have hs : s < hi := by omega
    have a1 := u s (Nat.le_refl _) hs
    have a2 := m1 s p (by omega) k1 k2
    have a3 := m2 q (mid + m - 1 - s) k3 (by omega) (by omega)
    omega
theorem join_all {X σ τ1 τ2 τ3 : Nat → Nat} {a mid b : Nat} (h1 : a ≤ mid) (h2 : mid ≤ b) (c : ∀ p q, a ≤ p → p < mid → mid ≤ q → q < b → ltX X (τ1 p) (τ1 q)) (s1 : Smp σ τ1 a b) (o1 : Oth σ τ1 a b)
    (r2 : Run X τ2 a mid) (s2 : Smp τ1 τ2 a mid) (o2 : Oth τ1 τ2 a mid) (r3 : Run X τ3 mid b) (s3 : Smp τ2 τ3 mid b) (o3 : Oth τ2 τ3 mid b) : Run X τ3 a b ∧ Smp σ τ3 a b ∧ Oth σ τ3 a b :=
  ⟨join_run c r2 s2 o2 r3 s3 o3, s1.trans ((s2.wide o2 (Nat.le_refl _) h2).trans (s3.wide o3 h1 (Nat.le_refl _))), o1.trans ((o2.mono (Nat.le_refl _) h2).trans (o3.mono h1 (Nat.le_refl _)))⟩
/-- what the merge answers -/
def SymOut (g cap n a b : Nat) (X σ : Nat → Nat) (w : World) (e : Ending) (w' : World) : Prop := e = .returned (.tuple #[]) ∧ ∃ τ, RowS w' g cap n X τ ∧ Run X τ a b ∧ Smp σ τ a b ∧ Oth σ τ a b ∧ Only g w w'
set_option maxRecDepth 20000 in
set_option maxHeartbeats 25600000 in
theorem sym_gen (g cap n a m b : Nat) (X σ : Nat → Nat) (w : World) (ham : a + 1 < m) (hmb : m + 1 < b) (hbn : b ≤ n) (hn : n ≤ 64) (hrow : RowS w g cap n X σ) (hfin : FinS n X σ) (h1 : Run X σ a m) (h2 : Run X σ m b) (hs : Sep σ a m b)
    (ih : ∀ k, k < b - a → ∀ (a' m' b' : Nat) (σ' : Nat → Nat) (w' : World), b' - a' = k → a' < m' → m' < b' → b' ≤ n → RowS w' g cap n X σ' → FinS n X σ' → Run X σ' a' m' → Run X σ' m' b' → Sep σ' a' m' b' →
      Calls Try.prog 83 #[.slice (some ⟨g, 0, none⟩) n cap, .int .i64 (a' : Int), .int .i64 (m' : Int), .int .i64 (b' : Int), .func (.func 69) #[] #[]] w' (SymOut g cap n a' b' X σ' w')) :
    Calls Try.prog 83 #[.slice (some ⟨g, 0, none⟩) n cap, .int .i64 (a : Int), .int .i64 (m : Int), .int .i64 (b : Int), .func (.func 69) #[] #[]] w (SymOut g cap n a b X σ w) := by
  have Hst := Lib.hid (And.intro hrow (And.intro hfin (And.intro h1 (And.intro h2 hs))))
  have hcf := ent_cmp
  have mixed := mixed_yes
  clear hrow hfin h1 h2 hs
  have e1 : ¬ ((m : Int) - (a : Int) = 1) := by omega
  have eb1 : ((m : Int) - (a : Int) == 1) = false := by rw [beq_eq_false_iff_ne]; exact e1
  have hw1 : IntKind.i64.wrap ((m : Int) - (a : Int)) = (m : Int) - (a : Int) := by rw [IntKind.wrap_i64]; omega
  have e2 : ¬ ((b : Int) - (m : Int) = 1) := by omega
  have eb2 : ((b : Int) - (m : Int) == 1) = false := by rw [beq_eq_false_iff_ne]; exact e2
  have hw2 : IntKind.i64.wrap ((b : Int) - (m : Int)) = (b : Int) - (m : Int) := by rw [IntKind.wrap_i64]; omega
  obtain ⟨s0, hs0⟩ : ∃ s, a + b = s := ⟨_, rfl⟩
  obtain ⟨mid, hh⟩ : ∃ h, s0 / 2 = h := ⟨_, rfl⟩
  have z1 : IntKind.i64.wrap ((a : Int) + (b : Int)) = (s0 : Int) := by rw [IntKind.wrap_i64]; omega
  have z2 : IntKind.u64.wrap (s0 : Int) = (s0 : Int) := by rw [IntKind.wrap_u64]; omega
  have z3 : (s0 : Int) / 2 = (mid : Int) := by omega
  have z4 : IntKind.i64.wrap (mid : Int) = (mid : Int) := by rw [IntKind.wrap_i64]; omega
  obtain ⟨n1, hn1⟩ : ∃ x, mid + m = x := ⟨_, rfl⟩
  have z5 : IntKind.i64.wrap ((mid : Int) + (m : Int)) = (n1 : Int) := by rw [IntKind.wrap_i64]; omega
  obtain ⟨p1, hp1⟩ : ∃ x, n1 - 1 = x := ⟨_, rfl⟩
  have z6 : IntKind.i64.wrap ((n1 : Int) - 1) = (p1 : Int) := by rw [IntKind.wrap_i64]; omega
  by_cases hc : mid < m
  · have hc' : (mid : Int) < (m : Int) := by omega
    obtain ⟨lo, hlo⟩ : ∃ x, n1 - b = x := ⟨_, rfl⟩
    have z7 : IntKind.i64.wrap ((n1 : Int) - (b : Int)) = (lo : Int) := by rw [IntKind.wrap_i64]; omega
    have hlh : a ≤ lo ∧ lo ≤ (mid) := by omega
    go_enter Try.func83, Try.ntmps83
    go_wp2_with fail
    go_loopw [20, 21] (fun iv jv wr => ∃ s r : Nat, iv = .int .i64 (s : Int) ∧ jv = .int .i64 (r : Int) ∧ lo ≤ s ∧ s ≤ r ∧ r ≤ mid ∧ Hid (RowS wr g cap n X σ ∧ (∀ c, lo ≤ c → c < s → val X (σ c) ≤ val X (σ (mid + m - 1 - c))) ∧ (∀ c, r ≤ c → c < mid → val X (σ (mid + m - 1 - c)) < val X (σ c)) ∧ Only g w wr))
      (fun iv jv _ => (intOf jv).toNat - (intOf iv).toNat)
    case atStart => exact ⟨lo, mid, rfl, rfl, Nat.le_refl _, by omega, Nat.le_refl _, Lib.hid ⟨Hst.out.1, fun q h1 h2 => by omega, fun q h1 h2 => by omega, Only.refl _ _⟩⟩
    case round =>
      obtain ⟨st, r, rfl, rfl, hls, hsr, hrh, HI⟩ := hrel
      by_cases hlt : st < r
      · have hlt' : (st : Int) < (r : Int) := by omega
        obtain ⟨s, hs⟩ : ∃ s, st + r = s := ⟨_, rfl⟩
        obtain ⟨c, hh⟩ : ∃ h, s / 2 = h := ⟨_, rfl⟩
        have v1 : IntKind.i64.wrap ((st : Int) + (r : Int)) = (s : Int) := by rw [IntKind.wrap_i64]; omega
        have v2 : IntKind.u64.wrap (s : Int) = (s : Int) := by rw [IntKind.wrap_u64]; omega
        have v3 : (s : Int) / 2 = (c : Int) := by omega
        have v4 : IntKind.i64.wrap (c : Int) = (c : Int) := by rw [IntKind.wrap_i64]; omega
        have hcc : st ≤ c ∧ c < r := by omega
        obtain ⟨pc, hpc⟩ : ∃ x, p1 - c = x := ⟨_, rfl⟩
        have v7 : IntKind.i64.wrap ((p1 : Int) - (c : Int)) = (pc : Int) := by rw [IntKind.wrap_i64]; omega
        have hcn : (c : Int) < (n : Int) := by omega
        have hpn : (pc : Int) < (n : Int) := by omega
        have l1 := HI.out.1.cell (i := pc) (by omega)
        have l2 := HI.out.1.cell (i := c) (by omega)
        have fx : finB (X (σ (pc))) = true := Hst.out.2.1 _ (by omega)
        have fy : finB (X (σ (c))) = true := Hst.out.2.1 _ (by omega)
        have hv : decide (cmpI (X (σ (pc))) (X (σ (c))) < 0) = decide (val X (σ (pc)) < val X (σ (c))) := cmp_lt
        obtain ⟨x, hx⟩ : ∃ x, X (σ (pc)) = x := ⟨_, rfl⟩
        obtain ⟨y, hy⟩ : ∃ y, X (σ (c)) = y := ⟨_, rfl⟩
        rw [hx] at l1 fx hv
        rw [hy] at l2 fy hv
        have HC := Lib.hid (cmp_walk x y wr fx fy)
        clear fx fy hx hy
        have Hm1 := Lib.hid (show ∀ p q, a ≤ p → p ≤ q → q < m → val X (σ p) ≤ val X (σ q) from fun p q h1 h2 h3 => by
          by_cases e : p = q
          · rw [e]; exact Int.le_refl _
          · exact (Hst.out.2.2.1 p q h1 (by omega) h3).le)
        have Hm2 := Lib.hid (show ∀ p q, m ≤ p → p ≤ q → q < b → val X (σ p) ≤ val X (σ q) from fun p q h1 h2 h3 => by
          by_cases e : p = q
          · rw [e]; exact Int.le_refl _
          · exact (Hst.out.2.2.2.1 p q h1 (by omega) h3).le)
        cases hlv : decide (val X (σ pc) < val X (σ c))
        · rw [hlv] at hv
          have Hno := Lib.hid (of_decide_eq_false hlv)
          clear hlv
          have v8 : IntKind.i64.wrap ((c : Int) + 1) = ((c + 1 : Nat) : Int) := by rw [IntKind.wrap_i64]; omega
          go_wp2_with fail
          go_quiet (first | (with_reducible exact Calls.quiet_of (HC.out _)))
          have H2 := Lib.hid (show RowS (wr.drewN nq) g cap n X σ ∧ (∀ x, lo ≤ x → x < c + 1 → val X (σ x) ≤ val X (σ (mid + m - 1 - x))) ∧ (∀ x, r ≤ x → x < mid → val X (σ (mid + m - 1 - x)) < val X (σ x)) ∧ Only g w (wr.drewN nq) from ⟨HI.out.1.drewN nq, fun x h1 h2 => by
            have := Hm1.out x c (by omega) (by omega) (by omega)
            have := Hm2.out pc (mid + m - 1 - x) (by omega) (by omega) (by omega)
            have := Hno.out
            omega, HI.out.2.2.1, HI.out.2.2.2.drewN nq⟩)
          clear HI l1 l2 hv HC
          generalize wr.drewN nq = w3 at H2 ⊢
          go_wp2_with fail
          go_roundw
          case rel => exact ⟨c + 1, r, by first | rfl | go_num, by first | rfl | go_num, by omega, by omega, hrh, H2⟩
          case measure => simp [intOf]; omega
        · rw [hlv] at hv
          have Hyes := Lib.hid (of_decide_eq_true hlv)
          clear hlv
          go_wp2_with fail
          go_quiet (first | (with_reducible exact Calls.quiet_of (HC.out _)))
          have H2 := Lib.hid (show RowS (wr.drewN nq) g cap n X σ ∧ (∀ x, lo ≤ x → x < st → val X (σ x) ≤ val X (σ (mid + m - 1 - x))) ∧ (∀ x, c ≤ x → x < mid → val X (σ (mid + m - 1 - x)) < val X (σ x)) ∧ Only g w (wr.drewN nq) from ⟨HI.out.1.drewN nq, HI.out.2.1, fun x h1 h2 => by
            have := Hm1.out c x (by omega) (by omega) (by omega)
            have := Hm2.out (mid + m - 1 - x) pc (by omega) (by omega) (by omega)
            have := Hyes.out
            omega, HI.out.2.2.2.drewN nq⟩)
          clear HI l1 l2 hv HC
          generalize wr.drewN nq = w3 at H2 ⊢
          go_wp2_with fail
          go_roundw
          case rel => exact ⟨st, c, by first | rfl | go_num, by first | rfl | go_num, hls, by omega, by omega, H2⟩
          case measure => simp [intOf]; omega
      · obtain rfl : st = r := by omega
        have hlt' : ¬ (st : Int) < (st : Int) := by omega
        obtain ⟨en, hen⟩ : ∃ x, mid + m - st = x := ⟨_, rfl⟩
        have v9 : IntKind.i64.wrap ((n1 : Int) - (st : Int)) = (en : Int) := by rw [IntKind.wrap_i64]; omega
        have hcut := cut_of (X := X) (σ := σ) (a := a) (m := m) (b := b) (mid := mid) (lo := lo) (hi := mid) (s := st) (by omega) (by omega) (by omega) (by omega) hls hrh (by omega) (by omega) (by omega) (by omega) Hst.out.2.2.1 Hst.out.2.2.2.1 HI.out.2.1 HI.out.2.2.1
        rw [hen] at hcut
        have HF := Lib.hid (hcut.facts Hst.out.2.2.1 Hst.out.2.2.2.1 Hst.out.2.2.2.2)
        have hE : a ≤ st ∧ st ≤ m ∧ m ≤ en ∧ en ≤ b ∧ st + (en - m) = mid := ⟨hcut.h1, hcut.h2, hcut.h3, hcut.h4, hcut.he⟩
        obtain ⟨hE1, hE2, hE3, hE4, hE5⟩ := hE
        have HS := Lib.hid (And.intro ((rtt_smp σ hE2 hE3).wide (rtt_oth σ hE2 hE3) hE1 hE4) ((rtt_oth σ hE2 hE3).mono hE1 hE4))
        clear hcut hen
        by_cases c1 : st < m
        · have c1' : (st : Int) < (m : Int) := by omega
          by_cases c2 : m < en
          · have c2' : (m : Int) < (en : Int) := by omega
            have HR := Lib.hid (rot_any g cap n st m en X σ (.func (.func 69) #[] #[]) wr c1 c2 (by omega) hn HI.out.1)
            go_wp2_with fail
            refine HR.out.mono ?_
            rintro e w3 ⟨rfl, q1, q2⟩
            have H1 := Lib.hid (And.intro q1 (HI.out.2.2.2.trans q2))
            clear q1 q2
            by_cases d1 : a < st
            · have d1' : (a : Int) < (st : Int) := by omega
              by_cases d2 : st < mid
              · have d2' : (st : Int) < (mid : Int) := by omega
                have HC := Lib.hid (ih (mid - a) (by omega) a st mid (rtt σ st m en) w3 rfl d1 d2 (by omega) H1.out.1 (Hst.out.2.1.smp HS.out.1 HS.out.2 hbn) HF.out.1 HF.out.2.1 HF.out.2.2.1)
                go_wp2_with fail
                refine HC.out.mono ?_
                rintro e w4 ⟨rfl, τ2, q1, q2, q3, q4, q5⟩
                have H2 := Lib.hid (show RowS w4 g cap n X τ2 ∧ Run X τ2 a mid ∧ Smp (rtt σ st m en) τ2 a mid ∧ Oth (rtt σ st m en) τ2 a mid ∧ Only g w w4 ∧ FinS n X τ2 from ⟨q1, q2, q3, q4, H1.out.2.trans q5, (Hst.out.2.1.smp HS.out.1 HS.out.2 hbn).smp q3 q4 (by omega)⟩)
                clear q1 q2 q3 q4 q5
                have Hsame := Lib.hid (show ∀ p, mid ≤ p → p < b → τ2 p = rtt σ st m en p from fun p k1 _ => H2.out.2.2.2.1 p (.inr k1))
                by_cases g1 : mid < en
                · have g1' : (mid : Int) < (en : Int) := by omega
                  by_cases g2 : en < b
                  · have g2' : (en : Int) < (b : Int) := by omega
                    have HC := Lib.hid (ih (b - mid) (by omega) mid en b τ2 w4 rfl g1 g2 hbn H2.out.1 H2.out.2.2.2.2.2 (HF.out.2.2.2.1.same (fun p k1 k2 => Hsame.out p k1 (by omega))) (HF.out.2.2.2.2.1.same (fun p k1 k2 => Hsame.out p (by omega) k2)) (HF.out.2.2.2.2.2.1.same Hsame.out))
                    go_wp2_with fail
                    refine HC.out.mono ?_
                    rintro e w5 ⟨rfl, τ3, q1, q2, q3, q4, q5⟩
                    have H3 := Lib.hid (And.intro q1 (And.intro q2 (And.intro q3 (And.intro q4 (H2.out.2.2.2.2.1.trans q5)))))
                    clear q1 q2 q3 q4 q5
                    have HJ := Lib.hid (join_all (by omega) (by omega) HF.out.2.2.2.2.2.2 HS.out.1 HS.out.2 H2.out.2.1 H2.out.2.2.1 H2.out.2.2.2.1 (H3.out.2.1) (H3.out.2.2.1) (H3.out.2.2.2.1))
                    go_wp2_with fail
                    go_end0
                    exact ⟨rfl, τ3, H3.out.1, HJ.out.1, HJ.out.2.1, HJ.out.2.2, H3.out.2.2.2.2⟩
                  · have g2' : ¬ (en : Int) < (b : Int) := by omega
                    have HJ := Lib.hid (join_all (by omega) (by omega) HF.out.2.2.2.2.2.2 HS.out.1 HS.out.2 H2.out.2.1 H2.out.2.2.1 H2.out.2.2.2.1 (show Run X τ2 mid b from fun p q k1 k2 k3 => (HF.out.2.2.2.1.same (fun p k1 k2 => Hsame.out p k1 (by omega)) : Run X τ2 mid en) p q k1 k2 (by omega)) (Smp.refl _ _ _) (Oth.refl _ _ _))
                    go_wp2_with fail
                    go_end0
                    exact ⟨rfl, τ2, H2.out.1, HJ.out.1, HJ.out.2.1, HJ.out.2.2, H2.out.2.2.2.2.1⟩
                · have g1' : ¬ (mid : Int) < (en : Int) := by omega
                  have HJ := Lib.hid (join_all (by omega) (by omega) HF.out.2.2.2.2.2.2 HS.out.1 HS.out.2 H2.out.2.1 H2.out.2.2.1 H2.out.2.2.2.1 (show Run X τ2 mid b from fun p q k1 k2 k3 => (HF.out.2.2.2.2.1.same (fun p k1 k2 => Hsame.out p (by omega) k2) : Run X τ2 en b) p q (by omega) k2 k3) (Smp.refl _ _ _) (Oth.refl _ _ _))
                  go_wp2_with fail
                  go_end0
                  exact ⟨rfl, τ2, H2.out.1, HJ.out.1, HJ.out.2.1, HJ.out.2.2, H2.out.2.2.2.2.1⟩
              · have d2' : ¬ (st : Int) < (mid : Int) := by omega
                have H2 := Lib.hid (show RowS w3 g cap n X (rtt σ st m en) ∧ Run X (rtt σ st m en) a mid ∧ Smp (rtt σ st m en) (rtt σ st m en) a mid ∧ Oth (rtt σ st m en) (rtt σ st m en) a mid ∧ Only g w w3 ∧ FinS n X (rtt σ st m en) from ⟨H1.out.1, fun p q k1 k2 k3 => HF.out.1 p q k1 k2 (by omega), Smp.refl _ _ _, Oth.refl _ _ _, H1.out.2, Hst.out.2.1.smp HS.out.1 HS.out.2 hbn⟩)
                have Hsame := Lib.hid (show ∀ p, mid ≤ p → p < b → (rtt σ st m en) p = rtt σ st m en p from fun p k1 _ => H2.out.2.2.2.1 p (.inr k1))
                by_cases g1 : mid < en
                · have g1' : (mid : Int) < (en : Int) := by omega
                  by_cases g2 : en < b
                  · have g2' : (en : Int) < (b : Int) := by omega
                    have HC := Lib.hid (ih (b - mid) (by omega) mid en b (rtt σ st m en) w3 rfl g1 g2 hbn H2.out.1 H2.out.2.2.2.2.2 (HF.out.2.2.2.1.same (fun p k1 k2 => Hsame.out p k1 (by omega))) (HF.out.2.2.2.2.1.same (fun p k1 k2 => Hsame.out p (by omega) k2)) (HF.out.2.2.2.2.2.1.same Hsame.out))
                    go_wp2_with fail
                    refine HC.out.mono ?_
                    rintro e w5 ⟨rfl, τ3, q1, q2, q3, q4, q5⟩
                    have H3 := Lib.hid (And.intro q1 (And.intro q2 (And.intro q3 (And.intro q4 (H2.out.2.2.2.2.1.trans q5)))))
                    clear q1 q2 q3 q4 q5
                    have HJ := Lib.hid (join_all (by omega) (by omega) HF.out.2.2.2.2.2.2 HS.out.1 HS.out.2 H2.out.2.1 H2.out.2.2.1 H2.out.2.2.2.1 (H3.out.2.1) (H3.out.2.2.1) (H3.out.2.2.2.1))
                    go_wp2_with fail
                    go_end0
                    exact ⟨rfl, τ3, H3.out.1, HJ.out.1, HJ.out.2.1, HJ.out.2.2, H3.out.2.2.2.2⟩
                  · have g2' : ¬ (en : Int) < (b : Int) := by omega
                    have HJ := Lib.hid (join_all (by omega) (by omega) HF.out.2.2.2.2.2.2 HS.out.1 HS.out.2 H2.out.2.1 H2.out.2.2.1 H2.out.2.2.2.1 (show Run X (rtt σ st m en) mid b from fun p q k1 k2 k3 => (HF.out.2.2.2.1.same (fun p k1 k2 => Hsame.out p k1 (by omega)) : Run X (rtt σ st m en) mid en) p q k1 k2 (by omega)) (Smp.refl _ _ _) (Oth.refl _ _ _))
                    go_wp2_with fail
                    go_end0
                    exact ⟨rfl, (rtt σ st m en), H2.out.1, HJ.out.1, HJ.out.2.1, HJ.out.2.2, H2.out.2.2.2.2.1⟩
                · have g1' : ¬ (mid : Int) < (en : Int) := by omega
                  have HJ := Lib.hid (join_all (by omega) (by omega) HF.out.2.2.2.2.2.2 HS.out.1 HS.out.2 H2.out.2.1 H2.out.2.2.1 H2.out.2.2.2.1 (show Run X (rtt σ st m en) mid b from fun p q k1 k2 k3 => (HF.out.2.2.2.2.1.same (fun p k1 k2 => Hsame.out p (by omega) k2) : Run X (rtt σ st m en) en b) p q (by omega) k2 k3) (Smp.refl _ _ _) (Oth.refl _ _ _))
                  go_wp2_with fail
                  go_end0
                  exact ⟨rfl, (rtt σ st m en), H2.out.1, HJ.out.1, HJ.out.2.1, HJ.out.2.2, H2.out.2.2.2.2.1⟩
            · have d1' : ¬ (a : Int) < (st : Int) := by omega
              have H2 := Lib.hid (show RowS w3 g cap n X (rtt σ st m en) ∧ Run X (rtt σ st m en) a mid ∧ Smp (rtt σ st m en) (rtt σ st m en) a mid ∧ Oth (rtt σ st m en) (rtt σ st m en) a mid ∧ Only g w w3 ∧ FinS n X (rtt σ st m en) from ⟨H1.out.1, fun p q k1 k2 k3 => HF.out.2.1 p q (by omega) k2 k3, Smp.refl _ _ _, Oth.refl _ _ _, H1.out.2, Hst.out.2.1.smp HS.out.1 HS.out.2 hbn⟩)
              have Hsame := Lib.hid (show ∀ p, mid ≤ p → p < b → (rtt σ st m en) p = rtt σ st m en p from fun p k1 _ => H2.out.2.2.2.1 p (.inr k1))
              by_cases g1 : mid < en
              · have g1' : (mid : Int) < (en : Int) := by omega
                by_cases g2 : en < b
                · have g2' : (en : Int) < (b : Int) := by omega
                  have HC := Lib.hid (ih (b - mid) (by omega) mid en b (rtt σ st m en) w3 rfl g1 g2 hbn H2.out.1 H2.out.2.2.2.2.2 (HF.out.2.2.2.1.same (fun p k1 k2 => Hsame.out p k1 (by omega))) (HF.out.2.2.2.2.1.same (fun p k1 k2 => Hsame.out p (by omega) k2)) (HF.out.2.2.2.2.2.1.same Hsame.out))
                  go_wp2_with fail
                  refine HC.out.mono ?_
                  rintro e w5 ⟨rfl, τ3, q1, q2, q3, q4, q5⟩
                  have H3 := Lib.hid (And.intro q1 (And.intro q2 (And.intro q3 (And.intro q4 (H2.out.2.2.2.2.1.trans q5)))))
                  clear q1 q2 q3 q4 q5
                  have HJ := Lib.hid (join_all (by omega) (by omega) HF.out.2.2.2.2.2.2 HS.out.1 HS.out.2 H2.out.2.1 H2.out.2.2.1 H2.out.2.2.2.1 (H3.out.2.1) (H3.out.2.2.1) (H3.out.2.2.2.1))
                  go_wp2_with fail
                  go_end0
                  exact ⟨rfl, τ3, H3.out.1, HJ.out.1, HJ.out.2.1, HJ.out.2.2, H3.out.2.2.2.2⟩
                · have g2' : ¬ (en : Int) < (b : Int) := by omega
                  have HJ := Lib.hid (join_all (by omega) (by omega) HF.out.2.2.2.2.2.2 HS.out.1 HS.out.2 H2.out.2.1 H2.out.2.2.1 H2.out.2.2.2.1 (show Run X (rtt σ st m en) mid b from fun p q k1 k2 k3 => (HF.out.2.2.2.1.same (fun p k1 k2 => Hsame.out p k1 (by omega)) : Run X (rtt σ st m en) mid en) p q k1 k2 (by omega)) (Smp.refl _ _ _) (Oth.refl _ _ _))
                  go_wp2_with fail
                  go_end0
                  exact ⟨rfl, (rtt σ st m en), H2.out.1, HJ.out.1, HJ.out.2.1, HJ.out.2.2, H2.out.2.2.2.2.1⟩
              · have g1' : ¬ (mid : Int) < (en : Int) := by omega
                have HJ := Lib.hid (join_all (by omega) (by omega) HF.out.2.2.2.2.2.2 HS.out.1 HS.out.2 H2.out.2.1 H2.out.2.2.1 H2.out.2.2.2.1 (show Run X (rtt σ st m en) mid b from fun p q k1 k2 k3 => (HF.out.2.2.2.2.1.same (fun p k1 k2 => Hsame.out p (by omega) k2) : Run X (rtt σ st m en) en b) p q (by omega) k2 k3) (Smp.refl _ _ _) (Oth.refl _ _ _))
                go_wp2_with fail
                go_end0
                exact ⟨rfl, (rtt σ st m en), H2.out.1, HJ.out.1, HJ.out.2.1, HJ.out.2.2, H2.out.2.2.2.2.1⟩
          · have c2' : ¬ (m : Int) < (en : Int) := by omega
            have H1 := Lib.hid (show RowS wr g cap n X (rtt σ st m en) ∧ Only g w wr from ⟨by rw [rtt_same σ (by omega) (by omega) (by omega)]; exact HI.out.1, HI.out.2.2.2⟩)
            by_cases d1 : a < st
            · have d1' : (a : Int) < (st : Int) := by omega
              by_cases d2 : st < mid
              · have d2' : (st : Int) < (mid : Int) := by omega
                have HC := Lib.hid (ih (mid - a) (by omega) a st mid (rtt σ st m en) wr rfl d1 d2 (by omega) H1.out.1 (Hst.out.2.1.smp HS.out.1 HS.out.2 hbn) HF.out.1 HF.out.2.1 HF.out.2.2.1)
                go_wp2_with fail
                refine HC.out.mono ?_
                rintro e w4 ⟨rfl, τ2, q1, q2, q3, q4, q5⟩
                have H2 := Lib.hid (show RowS w4 g cap n X τ2 ∧ Run X τ2 a mid ∧ Smp (rtt σ st m en) τ2 a mid ∧ Oth (rtt σ st m en) τ2 a mid ∧ Only g w w4 ∧ FinS n X τ2 from ⟨q1, q2, q3, q4, H1.out.2.trans q5, (Hst.out.2.1.smp HS.out.1 HS.out.2 hbn).smp q3 q4 (by omega)⟩)
                clear q1 q2 q3 q4 q5
                have Hsame := Lib.hid (show ∀ p, mid ≤ p → p < b → τ2 p = rtt σ st m en p from fun p k1 _ => H2.out.2.2.2.1 p (.inr k1))
                by_cases g1 : mid < en
                · have g1' : (mid : Int) < (en : Int) := by omega
                  by_cases g2 : en < b
                  · have g2' : (en : Int) < (b : Int) := by omega
                    have HC := Lib.hid (ih (b - mid) (by omega) mid en b τ2 w4 rfl g1 g2 hbn H2.out.1 H2.out.2.2.2.2.2 (HF.out.2.2.2.1.same (fun p k1 k2 => Hsame.out p k1 (by omega))) (HF.out.2.2.2.2.1.same (fun p k1 k2 => Hsame.out p (by omega) k2)) (HF.out.2.2.2.2.2.1.same Hsame.out))
                    go_wp2_with fail
                    refine HC.out.mono ?_
                    rintro e w5 ⟨rfl, τ3, q1, q2, q3, q4, q5⟩
                    have H3 := Lib.hid (And.intro q1 (And.intro q2 (And.intro q3 (And.intro q4 (H2.out.2.2.2.2.1.trans q5)))))
                    clear q1 q2 q3 q4 q5
                    have HJ := Lib.hid (join_all (by omega) (by omega) HF.out.2.2.2.2.2.2 HS.out.1 HS.out.2 H2.out.2.1 H2.out.2.2.1 H2.out.2.2.2.1 (H3.out.2.1) (H3.out.2.2.1) (H3.out.2.2.2.1))
                    go_wp2_with fail
                    go_end0
                    exact ⟨rfl, τ3, H3.out.1, HJ.out.1, HJ.out.2.1, HJ.out.2.2, H3.out.2.2.2.2⟩
                  · have g2' : ¬ (en : Int) < (b : Int) := by omega
                    have HJ := Lib.hid (join_all (by omega) (by omega) HF.out.2.2.2.2.2.2 HS.out.1 HS.out.2 H2.out.2.1 H2.out.2.2.1 H2.out.2.2.2.1 (show Run X τ2 mid b from fun p q k1 k2 k3 => (HF.out.2.2.2.1.same (fun p k1 k2 => Hsame.out p k1 (by omega)) : Run X τ2 mid en) p q k1 k2 (by omega)) (Smp.refl _ _ _) (Oth.refl _ _ _))
                    go_wp2_with fail
                    go_end0
                    exact ⟨rfl, τ2, H2.out.1, HJ.out.1, HJ.out.2.1, HJ.out.2.2, H2.out.2.2.2.2.1⟩
                · have g1' : ¬ (mid : Int) < (en : Int) := by omega
                  have HJ := Lib.hid (join_all (by omega) (by omega) HF.out.2.2.2.2.2.2 HS.out.1 HS.out.2 H2.out.2.1 H2.out.2.2.1 H2.out.2.2.2.1 (show Run X τ2 mid b from fun p q k1 k2 k3 => (HF.out.2.2.2.2.1.same (fun p k1 k2 => Hsame.out p (by omega) k2) : Run X τ2 en b) p q (by omega) k2 k3) (Smp.refl _ _ _) (Oth.refl _ _ _))
                  go_wp2_with fail
                  go_end0
                  exact ⟨rfl, τ2, H2.out.1, HJ.out.1, HJ.out.2.1, HJ.out.2.2, H2.out.2.2.2.2.1⟩
              · have d2' : ¬ (st : Int) < (mid : Int) := by omega
                have H2 := Lib.hid (show RowS wr g cap n X (rtt σ st m en) ∧ Run X (rtt σ st m en) a mid ∧ Smp (rtt σ st m en) (rtt σ st m en) a mid ∧ Oth (rtt σ st m en) (rtt σ st m en) a mid ∧ Only g w wr ∧ FinS n X (rtt σ st m en) from ⟨H1.out.1, fun p q k1 k2 k3 => HF.out.1 p q k1 k2 (by omega), Smp.refl _ _ _, Oth.refl _ _ _, H1.out.2, Hst.out.2.1.smp HS.out.1 HS.out.2 hbn⟩)
                have Hsame := Lib.hid (show ∀ p, mid ≤ p → p < b → (rtt σ st m en) p = rtt σ st m en p from fun p k1 _ => H2.out.2.2.2.1 p (.inr k1))
                by_cases g1 : mid < en
                · have g1' : (mid : Int) < (en : Int) := by omega
                  by_cases g2 : en < b
                  · have g2' : (en : Int) < (b : Int) := by omega
                    have HC := Lib.hid (ih (b - mid) (by omega) mid en b (rtt σ st m en) wr rfl g1 g2 hbn H2.out.1 H2.out.2.2.2.2.2 (HF.out.2.2.2.1.same (fun p k1 k2 => Hsame.out p k1 (by omega))) (HF.out.2.2.2.2.1.same (fun p k1 k2 => Hsame.out p (by omega) k2)) (HF.out.2.2.2.2.2.1.same Hsame.out))
                    go_wp2_with fail
                    refine HC.out.mono ?_
                    rintro e w5 ⟨rfl, τ3, q1, q2, q3, q4, q5⟩
                    have H3 := Lib.hid (And.intro q1 (And.intro q2 (And.intro q3 (And.intro q4 (H2.out.2.2.2.2.1.trans q5)))))
                    clear q1 q2 q3 q4 q5
                    have HJ := Lib.hid (join_all (by omega) (by omega) HF.out.2.2.2.2.2.2 HS.out.1 HS.out.2 H2.out.2.1 H2.out.2.2.1 H2.out.2.2.2.1 (H3.out.2.1) (H3.out.2.2.1) (H3.out.2.2.2.1))
                    go_wp2_with fail
                    go_end0
                    exact ⟨rfl, τ3, H3.out.1, HJ.out.1, HJ.out.2.1, HJ.out.2.2, H3.out.2.2.2.2⟩
                  · have g2' : ¬ (en : Int) < (b : Int) := by omega
                    have HJ := Lib.hid (join_all (by omega) (by omega) HF.out.2.2.2.2.2.2 HS.out.1 HS.out.2 H2.out.2.1 H2.out.2.2.1 H2.out.2.2.2.1 (show Run X (rtt σ st m en) mid b from fun p q k1 k2 k3 => (HF.out.2.2.2.1.same (fun p k1 k2 => Hsame.out p k1 (by omega)) : Run X (rtt σ st m en) mid en) p q k1 k2 (by omega)) (Smp.refl _ _ _) (Oth.refl _ _ _))
                    go_wp2_with fail
                    go_end0
                    exact ⟨rfl, (rtt σ st m en), H2.out.1, HJ.out.1, HJ.out.2.1, HJ.out.2.2, H2.out.2.2.2.2.1⟩
                · have g1' : ¬ (mid : Int) < (en : Int) := by omega
                  have HJ := Lib.hid (join_all (by omega) (by omega) HF.out.2.2.2.2.2.2 HS.out.1 HS.out.2 H2.out.2.1 H2.out.2.2.1 H2.out.2.2.2.1 (show Run X (rtt σ st m en) mid b from fun p q k1 k2 k3 => (HF.out.2.2.2.2.1.same (fun p k1 k2 => Hsame.out p (by omega) k2) : Run X (rtt σ st m en) en b) p q (by omega) k2 k3) (Smp.refl _ _ _) (Oth.refl _ _ _))
                  go_wp2_with fail
                  go_end0
                  exact ⟨rfl, (rtt σ st m en), H2.out.1, HJ.out.1, HJ.out.2.1, HJ.out.2.2, H2.out.2.2.2.2.1⟩
            · have d1' : ¬ (a : Int) < (st : Int) := by omega
              have H2 := Lib.hid (show RowS wr g cap n X (rtt σ st m en) ∧ Run X (rtt σ st m en) a mid ∧ Smp (rtt σ st m en) (rtt σ st m en) a mid ∧ Oth (rtt σ st m en) (rtt σ st m en) a mid ∧ Only g w wr ∧ FinS n X (rtt σ st m en) from ⟨H1.out.1, fun p q k1 k2 k3 => HF.out.2.1 p q (by omega) k2 k3, Smp.refl _ _ _, Oth.refl _ _ _, H1.out.2, Hst.out.2.1.smp HS.out.1 HS.out.2 hbn⟩)
              have Hsame := Lib.hid (show ∀ p, mid ≤ p → p < b → (rtt σ st m en) p = rtt σ st m en p from fun p k1 _ => H2.out.2.2.2.1 p (.inr k1))
              by_cases g1 : mid < en
              · have g1' : (mid : Int) < (en : Int) := by omega
                by_cases g2 : en < b
                · have g2' : (en : Int) < (b : Int) := by omega
                  have HC := Lib.hid (ih (b - mid) (by omega) mid en b (rtt σ st m en) wr rfl g1 g2 hbn H2.out.1 H2.out.2.2.2.2.2 (HF.out.2.2.2.1.same (fun p k1 k2 => Hsame.out p k1 (by omega))) (HF.out.2.2.2.2.1.same (fun p k1 k2 => Hsame.out p (by omega) k2)) (HF.out.2.2.2.2.2.1.same Hsame.out))
                  go_wp2_with fail
                  refine HC.out.mono ?_
                  rintro e w5 ⟨rfl, τ3, q1, q2, q3, q4, q5⟩
                  have H3 := Lib.hid (And.intro q1 (And.intro q2 (And.intro q3 (And.intro q4 (H2.out.2.2.2.2.1.trans q5)))))
                  clear q1 q2 q3 q4 q5
                  have HJ := Lib.hid (join_all (by omega) (by omega) HF.out.2.2.2.2.2.2 HS.out.1 HS.out.2 H2.out.2.1 H2.out.2.2.1 H2.out.2.2.2.1 (H3.out.2.1) (H3.out.2.2.1) (H3.out.2.2.2.1))
                  go_wp2_with fail
                  go_end0
                  exact ⟨rfl, τ3, H3.out.1, HJ.out.1, HJ.out.2.1, HJ.out.2.2, H3.out.2.2.2.2⟩
                · have g2' : ¬ (en : Int) < (b : Int) := by omega
                  have HJ := Lib.hid (join_all (by omega) (by omega) HF.out.2.2.2.2.2.2 HS.out.1 HS.out.2 H2.out.2.1 H2.out.2.2.1 H2.out.2.2.2.1 (show Run X (rtt σ st m en) mid b from fun p q k1 k2 k3 => (HF.out.2.2.2.1.same (fun p k1 k2 => Hsame.out p k1 (by omega)) : Run X (rtt σ st m en) mid en) p q k1 k2 (by omega)) (Smp.refl _ _ _) (Oth.refl _ _ _))
                  go_wp2_with fail
                  go_end0
                  exact ⟨rfl, (rtt σ st m en), H2.out.1, HJ.out.1, HJ.out.2.1, HJ.out.2.2, H2.out.2.2.2.2.1⟩
              · have g1' : ¬ (mid : Int) < (en : Int) := by omega
                have HJ := Lib.hid (join_all (by omega) (by omega) HF.out.2.2.2.2.2.2 HS.out.1 HS.out.2 H2.out.2.1 H2.out.2.2.1 H2.out.2.2.2.1 (show Run X (rtt σ st m en) mid b from fun p q k1 k2 k3 => (HF.out.2.2.2.2.1.same (fun p k1 k2 => Hsame.out p (by omega) k2) : Run X (rtt σ st m en) en b) p q (by omega) k2 k3) (Smp.refl _ _ _) (Oth.refl _ _ _))
                go_wp2_with fail
                go_end0
                exact ⟨rfl, (rtt σ st m en), H2.out.1, HJ.out.1, HJ.out.2.1, HJ.out.2.2, H2.out.2.2.2.2.1⟩
        · have c1' : ¬ (st : Int) < (m : Int) := by omega
          have H1 := Lib.hid (show RowS wr g cap n X (rtt σ st m en) ∧ Only g w wr from ⟨by rw [rtt_same σ (by omega) (by omega) (by omega)]; exact HI.out.1, HI.out.2.2.2⟩)
          by_cases d1 : a < st
          · have d1' : (a : Int) < (st : Int) := by omega
            by_cases d2 : st < mid
            · have d2' : (st : Int) < (mid : Int) := by omega
              have HC := Lib.hid (ih (mid - a) (by omega) a st mid (rtt σ st m en) wr rfl d1 d2 (by omega) H1.out.1 (Hst.out.2.1.smp HS.out.1 HS.out.2 hbn) HF.out.1 HF.out.2.1 HF.out.2.2.1)
              go_wp2_with fail
              refine HC.out.mono ?_
              rintro e w4 ⟨rfl, τ2, q1, q2, q3, q4, q5⟩
              have H2 := Lib.hid (show RowS w4 g cap n X τ2 ∧ Run X τ2 a mid ∧ Smp (rtt σ st m en) τ2 a mid ∧ Oth (rtt σ st m en) τ2 a mid ∧ Only g w w4 ∧ FinS n X τ2 from ⟨q1, q2, q3, q4, H1.out.2.trans q5, (Hst.out.2.1.smp HS.out.1 HS.out.2 hbn).smp q3 q4 (by omega)⟩)
              clear q1 q2 q3 q4 q5
              have Hsame := Lib.hid (show ∀ p, mid ≤ p → p < b → τ2 p = rtt σ st m en p from fun p k1 _ => H2.out.2.2.2.1 p (.inr k1))
              by_cases g1 : mid < en
              · have g1' : (mid : Int) < (en : Int) := by omega
                by_cases g2 : en < b
                · have g2' : (en : Int) < (b : Int) := by omega
                  have HC := Lib.hid (ih (b - mid) (by omega) mid en b τ2 w4 rfl g1 g2 hbn H2.out.1 H2.out.2.2.2.2.2 (HF.out.2.2.2.1.same (fun p k1 k2 => Hsame.out p k1 (by omega))) (HF.out.2.2.2.2.1.same (fun p k1 k2 => Hsame.out p (by omega) k2)) (HF.out.2.2.2.2.2.1.same Hsame.out))
                  go_wp2_with fail
                  refine HC.out.mono ?_
                  rintro e w5 ⟨rfl, τ3, q1, q2, q3, q4, q5⟩
                  have H3 := Lib.hid (And.intro q1 (And.intro q2 (And.intro q3 (And.intro q4 (H2.out.2.2.2.2.1.trans q5)))))
                  clear q1 q2 q3 q4 q5
                  have HJ := Lib.hid (join_all (by omega) (by omega) HF.out.2.2.2.2.2.2 HS.out.1 HS.out.2 H2.out.2.1 H2.out.2.2.1 H2.out.2.2.2.1 (H3.out.2.1) (H3.out.2.2.1) (H3.out.2.2.2.1))
                  go_wp2_with fail
                  go_end0
                  exact ⟨rfl, τ3, H3.out.1, HJ.out.1, HJ.out.2.1, HJ.out.2.2, H3.out.2.2.2.2⟩
                · have g2' : ¬ (en : Int) < (b : Int) := by omega
                  have HJ := Lib.hid (join_all (by omega) (by omega) HF.out.2.2.2.2.2.2 HS.out.1 HS.out.2 H2.out.2.1 H2.out.2.2.1 H2.out.2.2.2.1 (show Run X τ2 mid b from fun p q k1 k2 k3 => (HF.out.2.2.2.1.same (fun p k1 k2 => Hsame.out p k1 (by omega)) : Run X τ2 mid en) p q k1 k2 (by omega)) (Smp.refl _ _ _) (Oth.refl _ _ _))
                  go_wp2_with fail
                  go_end0
                  exact ⟨rfl, τ2, H2.out.1, HJ.out.1, HJ.out.2.1, HJ.out.2.2, H2.out.2.2.2.2.1⟩
              · have g1' : ¬ (mid : Int) < (en : Int) := by omega
                have HJ := Lib.hid (join_all (by omega) (by omega) HF.out.2.2.2.2.2.2 HS.out.1 HS.out.2 H2.out.2.1 H2.out.2.2.1 H2.out.2.2.2.1 (show Run X τ2 mid b from fun p q k1 k2 k3 => (HF.out.2.2.2.2.1.same (fun p k1 k2 => Hsame.out p (by omega) k2) : Run X τ2 en b) p q (by omega) k2 k3) (Smp.refl _ _ _) (Oth.refl _ _ _))
                go_wp2_with fail
                go_end0
                exact ⟨rfl, τ2, H2.out.1, HJ.out.1, HJ.out.2.1, HJ.out.2.2, H2.out.2.2.2.2.1⟩
            · have d2' : ¬ (st : Int) < (mid : Int) := by omega
              have H2 := Lib.hid (show RowS wr g cap n X (rtt σ st m en) ∧ Run X (rtt σ st m en) a mid ∧ Smp (rtt σ st m en) (rtt σ st m en) a mid ∧ Oth (rtt σ st m en) (rtt σ st m en) a mid ∧ Only g w wr ∧ FinS n X (rtt σ st m en) from ⟨H1.out.1, fun p q k1 k2 k3 => HF.out.1 p q k1 k2 (by omega), Smp.refl _ _ _, Oth.refl _ _ _, H1.out.2, Hst.out.2.1.smp HS.out.1 HS.out.2 hbn⟩)
              have Hsame := Lib.hid (show ∀ p, mid ≤ p → p < b → (rtt σ st m en) p = rtt σ st m en p from fun p k1 _ => H2.out.2.2.2.1 p (.inr k1))
              by_cases g1 : mid < en
              · have g1' : (mid : Int) < (en : Int) := by omega
                by_cases g2 : en < b
                · have g2' : (en : Int) < (b : Int) := by omega
                  have HC := Lib.hid (ih (b - mid) (by omega) mid en b (rtt σ st m en) wr rfl g1 g2 hbn H2.out.1 H2.out.2.2.2.2.2 (HF.out.2.2.2.1.same (fun p k1 k2 => Hsame.out p k1 (by omega))) (HF.out.2.2.2.2.1.same (fun p k1 k2 => Hsame.out p (by omega) k2)) (HF.out.2.2.2.2.2.1.same Hsame.out))
                  go_wp2_with fail
                  refine HC.out.mono ?_
                  rintro e w5 ⟨rfl, τ3, q1, q2, q3, q4, q5⟩
                  have H3 := Lib.hid (And.intro q1 (And.intro q2 (And.intro q3 (And.intro q4 (H2.out.2.2.2.2.1.trans q5)))))
                  clear q1 q2 q3 q4 q5
                  have HJ := Lib.hid (join_all (by omega) (by omega) HF.out.2.2.2.2.2.2 HS.out.1 HS.out.2 H2.out.2.1 H2.out.2.2.1 H2.out.2.2.2.1 (H3.out.2.1) (H3.out.2.2.1) (H3.out.2.2.2.1))
                  go_wp2_with fail
                  go_end0
                  exact ⟨rfl, τ3, H3.out.1, HJ.out.1, HJ.out.2.1, HJ.out.2.2, H3.out.2.2.2.2⟩
                · have g2' : ¬ (en : Int) < (b : Int) := by omega
                  have HJ := Lib.hid (join_all (by omega) (by omega) HF.out.2.2.2.2.2.2 HS.out.1 HS.out.2 H2.out.2.1 H2.out.2.2.1 H2.out.2.2.2.1 (show Run X (rtt σ st m en) mid b from fun p q k1 k2 k3 => (HF.out.2.2.2.1.same (fun p k1 k2 => Hsame.out p k1 (by omega)) : Run X (rtt σ st m en) mid en) p q k1 k2 (by omega)) (Smp.refl _ _ _) (Oth.refl _ _ _))
                  go_wp2_with fail
                  go_end0
                  exact ⟨rfl, (rtt σ st m en), H2.out.1, HJ.out.1, HJ.out.2.1, HJ.out.2.2, H2.out.2.2.2.2.1⟩
              · have g1' : ¬ (mid : Int) < (en : Int) := by omega
                have HJ := Lib.hid (join_all (by omega) (by omega) HF.out.2.2.2.2.2.2 HS.out.1 HS.out.2 H2.out.2.1 H2.out.2.2.1 H2.out.2.2.2.1 (show Run X (rtt σ st m en) mid b from fun p q k1 k2 k3 => (HF.out.2.2.2.2.1.same (fun p k1 k2 => Hsame.out p (by omega) k2) : Run X (rtt σ st m en) en b) p q (by omega) k2 k3) (Smp.refl _ _ _) (Oth.refl _ _ _))
                go_wp2_with fail
                go_end0
                exact ⟨rfl, (rtt σ st m en), H2.out.1, HJ.out.1, HJ.out.2.1, HJ.out.2.2, H2.out.2.2.2.2.1⟩
          · have d1' : ¬ (a : Int) < (st : Int) := by omega
            have H2 := Lib.hid (show RowS wr g cap n X (rtt σ st m en) ∧ Run X (rtt σ st m en) a mid ∧ Smp (rtt σ st m en) (rtt σ st m en) a mid ∧ Oth (rtt σ st m en) (rtt σ st m en) a mid ∧ Only g w wr ∧ FinS n X (rtt σ st m en) from ⟨H1.out.1, fun p q k1 k2 k3 => HF.out.2.1 p q (by omega) k2 k3, Smp.refl _ _ _, Oth.refl _ _ _, H1.out.2, Hst.out.2.1.smp HS.out.1 HS.out.2 hbn⟩)
            have Hsame := Lib.hid (show ∀ p, mid ≤ p → p < b → (rtt σ st m en) p = rtt σ st m en p from fun p k1 _ => H2.out.2.2.2.1 p (.inr k1))
            by_cases g1 : mid < en
            · have g1' : (mid : Int) < (en : Int) := by omega
              by_cases g2 : en < b
              · have g2' : (en : Int) < (b : Int) := by omega
                have HC := Lib.hid (ih (b - mid) (by omega) mid en b (rtt σ st m en) wr rfl g1 g2 hbn H2.out.1 H2.out.2.2.2.2.2 (HF.out.2.2.2.1.same (fun p k1 k2 => Hsame.out p k1 (by omega))) (HF.out.2.2.2.2.1.same (fun p k1 k2 => Hsame.out p (by omega) k2)) (HF.out.2.2.2.2.2.1.same Hsame.out))
                go_wp2_with fail
                refine HC.out.mono ?_
                rintro e w5 ⟨rfl, τ3, q1, q2, q3, q4, q5⟩
                have H3 := Lib.hid (And.intro q1 (And.intro q2 (And.intro q3 (And.intro q4 (H2.out.2.2.2.2.1.trans q5)))))
                clear q1 q2 q3 q4 q5
                have HJ := Lib.hid (join_all (by omega) (by omega) HF.out.2.2.2.2.2.2 HS.out.1 HS.out.2 H2.out.2.1 H2.out.2.2.1 H2.out.2.2.2.1 (H3.out.2.1) (H3.out.2.2.1) (H3.out.2.2.2.1))
                go_wp2_with fail
                go_end0
                exact ⟨rfl, τ3, H3.out.1, HJ.out.1, HJ.out.2.1, HJ.out.2.2, H3.out.2.2.2.2⟩
              · have g2' : ¬ (en : Int) < (b : Int) := by omega
                have HJ := Lib.hid (join_all (by omega) (by omega) HF.out.2.2.2.2.2.2 HS.out.1 HS.out.2 H2.out.2.1 H2.out.2.2.1 H2.out.2.2.2.1 (show Run X (rtt σ st m en) mid b from fun p q k1 k2 k3 => (HF.out.2.2.2.1.same (fun p k1 k2 => Hsame.out p k1 (by omega)) : Run X (rtt σ st m en) mid en) p q k1 k2 (by omega)) (Smp.refl _ _ _) (Oth.refl _ _ _))
                go_wp2_with fail
                go_end0
                exact ⟨rfl, (rtt σ st m en), H2.out.1, HJ.out.1, HJ.out.2.1, HJ.out.2.2, H2.out.2.2.2.2.1⟩
            · have g1' : ¬ (mid : Int) < (en : Int) := by omega
              have HJ := Lib.hid (join_all (by omega) (by omega) HF.out.2.2.2.2.2.2 HS.out.1 HS.out.2 H2.out.2.1 H2.out.2.2.1 H2.out.2.2.2.1 (show Run X (rtt σ st m en) mid b from fun p q k1 k2 k3 => (HF.out.2.2.2.2.1.same (fun p k1 k2 => Hsame.out p (by omega) k2) : Run X (rtt σ st m en) en b) p q (by omega) k2 k3) (Smp.refl _ _ _) (Oth.refl _ _ _))
              go_wp2_with fail
              go_end0
              exact ⟨rfl, (rtt σ st m en), H2.out.1, HJ.out.1, HJ.out.2.1, HJ.out.2.2, H2.out.2.2.2.2.1⟩
  · have hc' : ¬ (mid : Int) < (m : Int) := by omega
    have hlh : a ≤ a ∧ a ≤ (m) := by omega
    go_enter Try.func83, Try.ntmps83
    go_wp2_with fail
    go_loopw [20, 21] (fun iv jv wr => ∃ s r : Nat, iv = .int .i64 (s : Int) ∧ jv = .int .i64 (r : Int) ∧ a ≤ s ∧ s ≤ r ∧ r ≤ m ∧ Hid (RowS wr g cap n X σ ∧ (∀ c, a ≤ c → c < s → val X (σ c) ≤ val X (σ (mid + m - 1 - c))) ∧ (∀ c, r ≤ c → c < m → val X (σ (mid + m - 1 - c)) < val X (σ c)) ∧ Only g w wr))
      (fun iv jv _ => (intOf jv).toNat - (intOf iv).toNat)
    case atStart => exact ⟨a, m, rfl, rfl, Nat.le_refl _, by omega, Nat.le_refl _, Lib.hid ⟨Hst.out.1, fun q h1 h2 => by omega, fun q h1 h2 => by omega, Only.refl _ _⟩⟩
    case round =>
      obtain ⟨st, r, rfl, rfl, hls, hsr, hrh, HI⟩ := hrel
      by_cases hlt : st < r
      · have hlt' : (st : Int) < (r : Int) := by omega
        obtain ⟨s, hs⟩ : ∃ s, st + r = s := ⟨_, rfl⟩
        obtain ⟨c, hh⟩ : ∃ h, s / 2 = h := ⟨_, rfl⟩
        have v1 : IntKind.i64.wrap ((st : Int) + (r : Int)) = (s : Int) := by rw [IntKind.wrap_i64]; omega
        have v2 : IntKind.u64.wrap (s : Int) = (s : Int) := by rw [IntKind.wrap_u64]; omega
        have v3 : (s : Int) / 2 = (c : Int) := by omega
        have v4 : IntKind.i64.wrap (c : Int) = (c : Int) := by rw [IntKind.wrap_i64]; omega
        have hcc : st ≤ c ∧ c < r := by omega
        obtain ⟨pc, hpc⟩ : ∃ x, p1 - c = x := ⟨_, rfl⟩
        have v7 : IntKind.i64.wrap ((p1 : Int) - (c : Int)) = (pc : Int) := by rw [IntKind.wrap_i64]; omega
        have hcn : (c : Int) < (n : Int) := by omega
        have hpn : (pc : Int) < (n : Int) := by omega
        have l1 := HI.out.1.cell (i := pc) (by omega)
        have l2 := HI.out.1.cell (i := c) (by omega)
        have fx : finB (X (σ (pc))) = true := Hst.out.2.1 _ (by omega)
        have fy : finB (X (σ (c))) = true := Hst.out.2.1 _ (by omega)
        have hv : decide (cmpI (X (σ (pc))) (X (σ (c))) < 0) = decide (val X (σ (pc)) < val X (σ (c))) := cmp_lt
        obtain ⟨x, hx⟩ : ∃ x, X (σ (pc)) = x := ⟨_, rfl⟩
        obtain ⟨y, hy⟩ : ∃ y, X (σ (c)) = y := ⟨_, rfl⟩
        rw [hx] at l1 fx hv
        rw [hy] at l2 fy hv
        have HC := Lib.hid (cmp_walk x y wr fx fy)
        clear fx fy hx hy
        have Hm1 := Lib.hid (show ∀ p q, a ≤ p → p ≤ q → q < m → val X (σ p) ≤ val X (σ q) from fun p q h1 h2 h3 => by
          by_cases e : p = q
          · rw [e]; exact Int.le_refl _
          · exact (Hst.out.2.2.1 p q h1 (by omega) h3).le)
        have Hm2 := Lib.hid (show ∀ p q, m ≤ p → p ≤ q → q < b → val X (σ p) ≤ val X (σ q) from fun p q h1 h2 h3 => by
          by_cases e : p = q
          · rw [e]; exact Int.le_refl _
          · exact (Hst.out.2.2.2.1 p q h1 (by omega) h3).le)
        cases hlv : decide (val X (σ pc) < val X (σ c))
        · rw [hlv] at hv
          have Hno := Lib.hid (of_decide_eq_false hlv)
          clear hlv
          have v8 : IntKind.i64.wrap ((c : Int) + 1) = ((c + 1 : Nat) : Int) := by rw [IntKind.wrap_i64]; omega
          go_wp2_with fail
          go_quiet (first | (with_reducible exact Calls.quiet_of (HC.out _)))
          have H2 := Lib.hid (show RowS (wr.drewN nq) g cap n X σ ∧ (∀ x, a ≤ x → x < c + 1 → val X (σ x) ≤ val X (σ (mid + m - 1 - x))) ∧ (∀ x, r ≤ x → x < m → val X (σ (mid + m - 1 - x)) < val X (σ x)) ∧ Only g w (wr.drewN nq) from ⟨HI.out.1.drewN nq, fun x h1 h2 => by
            have := Hm1.out x c (by omega) (by omega) (by omega)
            have := Hm2.out pc (mid + m - 1 - x) (by omega) (by omega) (by omega)
            have := Hno.out
            omega, HI.out.2.2.1, HI.out.2.2.2.drewN nq⟩)
          clear HI l1 l2 hv HC
          generalize wr.drewN nq = w3 at H2 ⊢
          go_wp2_with fail
          go_roundw
          case rel => exact ⟨c + 1, r, by first | rfl | go_num, by first | rfl | go_num, by omega, by omega, hrh, H2⟩
          case measure => simp [intOf]; omega
        · rw [hlv] at hv
          have Hyes := Lib.hid (of_decide_eq_true hlv)
          clear hlv
          go_wp2_with fail
          go_quiet (first | (with_reducible exact Calls.quiet_of (HC.out _)))
          have H2 := Lib.hid (show RowS (wr.drewN nq) g cap n X σ ∧ (∀ x, a ≤ x → x < st → val X (σ x) ≤ val X (σ (mid + m - 1 - x))) ∧ (∀ x, c ≤ x → x < m → val X (σ (mid + m - 1 - x)) < val X (σ x)) ∧ Only g w (wr.drewN nq) from ⟨HI.out.1.drewN nq, HI.out.2.1, fun x h1 h2 => by
            have := Hm1.out c x (by omega) (by omega) (by omega)
            have := Hm2.out (mid + m - 1 - x) pc (by omega) (by omega) (by omega)
            have := Hyes.out
            omega, HI.out.2.2.2.drewN nq⟩)
          clear HI l1 l2 hv HC
          generalize wr.drewN nq = w3 at H2 ⊢
          go_wp2_with fail
          go_roundw
          case rel => exact ⟨st, c, by first | rfl | go_num, by first | rfl | go_num, hls, by omega, by omega, H2⟩
          case measure => simp [intOf]; omega
      · obtain rfl : st = r := by omega
        have hlt' : ¬ (st : Int) < (st : Int) := by omega
        obtain ⟨en, hen⟩ : ∃ x, mid + m - st = x := ⟨_, rfl⟩
        have v9 : IntKind.i64.wrap ((n1 : Int) - (st : Int)) = (en : Int) := by rw [IntKind.wrap_i64]; omega
        have hcut := cut_of (X := X) (σ := σ) (a := a) (m := m) (b := b) (mid := mid) (lo := a) (hi := m) (s := st) (by omega) (by omega) (by omega) (by omega) hls hrh (by omega) (by omega) (by omega) (by omega) Hst.out.2.2.1 Hst.out.2.2.2.1 HI.out.2.1 HI.out.2.2.1
        rw [hen] at hcut
        have HF := Lib.hid (hcut.facts Hst.out.2.2.1 Hst.out.2.2.2.1 Hst.out.2.2.2.2)
        have hE : a ≤ st ∧ st ≤ m ∧ m ≤ en ∧ en ≤ b ∧ st + (en - m) = mid := ⟨hcut.h1, hcut.h2, hcut.h3, hcut.h4, hcut.he⟩
        obtain ⟨hE1, hE2, hE3, hE4, hE5⟩ := hE
        have HS := Lib.hid (And.intro ((rtt_smp σ hE2 hE3).wide (rtt_oth σ hE2 hE3) hE1 hE4) ((rtt_oth σ hE2 hE3).mono hE1 hE4))
        clear hcut hen
        by_cases c1 : st < m
        · have c1' : (st : Int) < (m : Int) := by omega
          by_cases c2 : m < en
          · have c2' : (m : Int) < (en : Int) := by omega
            have HR := Lib.hid (rot_any g cap n st m en X σ (.func (.func 69) #[] #[]) wr c1 c2 (by omega) hn HI.out.1)
            go_wp2_with fail
            refine HR.out.mono ?_
            rintro e w3 ⟨rfl, q1, q2⟩
            have H1 := Lib.hid (And.intro q1 (HI.out.2.2.2.trans q2))
            clear q1 q2
            by_cases d1 : a < st
            · have d1' : (a : Int) < (st : Int) := by omega
              by_cases d2 : st < mid
              · have d2' : (st : Int) < (mid : Int) := by omega
                have HC := Lib.hid (ih (mid - a) (by omega) a st mid (rtt σ st m en) w3 rfl d1 d2 (by omega) H1.out.1 (Hst.out.2.1.smp HS.out.1 HS.out.2 hbn) HF.out.1 HF.out.2.1 HF.out.2.2.1)
                go_wp2_with fail
                refine HC.out.mono ?_
                rintro e w4 ⟨rfl, τ2, q1, q2, q3, q4, q5⟩
                have H2 := Lib.hid (show RowS w4 g cap n X τ2 ∧ Run X τ2 a mid ∧ Smp (rtt σ st m en) τ2 a mid ∧ Oth (rtt σ st m en) τ2 a mid ∧ Only g w w4 ∧ FinS n X τ2 from ⟨q1, q2, q3, q4, H1.out.2.trans q5, (Hst.out.2.1.smp HS.out.1 HS.out.2 hbn).smp q3 q4 (by omega)⟩)
                clear q1 q2 q3 q4 q5
                have Hsame := Lib.hid (show ∀ p, mid ≤ p → p < b → τ2 p = rtt σ st m en p from fun p k1 _ => H2.out.2.2.2.1 p (.inr k1))
                by_cases g1 : mid < en
                · have g1' : (mid : Int) < (en : Int) := by omega
                  by_cases g2 : en < b
                  · have g2' : (en : Int) < (b : Int) := by omega
                    have HC := Lib.hid (ih (b - mid) (by omega) mid en b τ2 w4 rfl g1 g2 hbn H2.out.1 H2.out.2.2.2.2.2 (HF.out.2.2.2.1.same (fun p k1 k2 => Hsame.out p k1 (by omega))) (HF.out.2.2.2.2.1.same (fun p k1 k2 => Hsame.out p (by omega) k2)) (HF.out.2.2.2.2.2.1.same Hsame.out))
                    go_wp2_with fail
                    refine HC.out.mono ?_
                    rintro e w5 ⟨rfl, τ3, q1, q2, q3, q4, q5⟩
                    have H3 := Lib.hid (And.intro q1 (And.intro q2 (And.intro q3 (And.intro q4 (H2.out.2.2.2.2.1.trans q5)))))
                    clear q1 q2 q3 q4 q5
                    have HJ := Lib.hid (join_all (by omega) (by omega) HF.out.2.2.2.2.2.2 HS.out.1 HS.out.2 H2.out.2.1 H2.out.2.2.1 H2.out.2.2.2.1 (H3.out.2.1) (H3.out.2.2.1) (H3.out.2.2.2.1))
                    go_wp2_with fail
                    go_end0
                    exact ⟨rfl, τ3, H3.out.1, HJ.out.1, HJ.out.2.1, HJ.out.2.2, H3.out.2.2.2.2⟩
                  · have g2' : ¬ (en : Int) < (b : Int) := by omega
                    have HJ := Lib.hid (join_all (by omega) (by omega) HF.out.2.2.2.2.2.2 HS.out.1 HS.out.2 H2.out.2.1 H2.out.2.2.1 H2.out.2.2.2.1 (show Run X τ2 mid b from fun p q k1 k2 k3 => (HF.out.2.2.2.1.same (fun p k1 k2 => Hsame.out p k1 (by omega)) : Run X τ2 mid en) p q k1 k2 (by omega)) (Smp.refl _ _ _) (Oth.refl _ _ _))
                    go_wp2_with fail
                    go_end0
                    exact ⟨rfl, τ2, H2.out.1, HJ.out.1, HJ.out.2.1, HJ.out.2.2, H2.out.2.2.2.2.1⟩
                · have g1' : ¬ (mid : Int) < (en : Int) := by omega
                  have HJ := Lib.hid (join_all (by omega) (by omega) HF.out.2.2.2.2.2.2 HS.out.1 HS.out.2 H2.out.2.1 H2.out.2.2.1 H2.out.2.2.2.1 (show Run X τ2 mid b from fun p q k1 k2 k3 => (HF.out.2.2.2.2.1.same (fun p k1 k2 => Hsame.out p (by omega) k2) : Run X τ2 en b) p q (by omega) k2 k3) (Smp.refl _ _ _) (Oth.refl _ _ _))
                  go_wp2_with fail
                  go_end0
                  exact ⟨rfl, τ2, H2.out.1, HJ.out.1, HJ.out.2.1, HJ.out.2.2, H2.out.2.2.2.2.1⟩
              · have d2' : ¬ (st : Int) < (mid : Int) := by omega
                have H2 := Lib.hid (show RowS w3 g cap n X (rtt σ st m en) ∧ Run X (rtt σ st m en) a mid ∧ Smp (rtt σ st m en) (rtt σ st m en) a mid ∧ Oth (rtt σ st m en) (rtt σ st m en) a mid ∧ Only g w w3 ∧ FinS n X (rtt σ st m en) from ⟨H1.out.1, fun p q k1 k2 k3 => HF.out.1 p q k1 k2 (by omega), Smp.refl _ _ _, Oth.refl _ _ _, H1.out.2, Hst.out.2.1.smp HS.out.1 HS.out.2 hbn⟩)
                have Hsame := Lib.hid (show ∀ p, mid ≤ p → p < b → (rtt σ st m en) p = rtt σ st m en p from fun p k1 _ => H2.out.2.2.2.1 p (.inr k1))
                by_cases g1 : mid < en
                · have g1' : (mid : Int) < (en : Int) := by omega
                  by_cases g2 : en < b
                  · have g2' : (en : Int) < (b : Int) := by omega
                    have HC := Lib.hid (ih (b - mid) (by omega) mid en b (rtt σ st m en) w3 rfl g1 g2 hbn H2.out.1 H2.out.2.2.2.2.2 (HF.out.2.2.2.1.same (fun p k1 k2 => Hsame.out p k1 (by omega))) (HF.out.2.2.2.2.1.same (fun p k1 k2 => Hsame.out p (by omega) k2)) (HF.out.2.2.2.2.2.1.same Hsame.out))
                    go_wp2_with fail
                    refine HC.out.mono ?_
                    rintro e w5 ⟨rfl, τ3, q1, q2, q3, q4, q5⟩
                    have H3 := Lib.hid (And.intro q1 (And.intro q2 (And.intro q3 (And.intro q4 (H2.out.2.2.2.2.1.trans q5)))))
                    clear q1 q2 q3 q4 q5
                    have HJ := Lib.hid (join_all (by omega) (by omega) HF.out.2.2.2.2.2.2 HS.out.1 HS.out.2 H2.out.2.1 H2.out.2.2.1 H2.out.2.2.2.1 (H3.out.2.1) (H3.out.2.2.1) (H3.out.2.2.2.1))
                    go_wp2_with fail
                    go_end0
                    exact ⟨rfl, τ3, H3.out.1, HJ.out.1, HJ.out.2.1, HJ.out.2.2, H3.out.2.2.2.2⟩
                  · have g2' : ¬ (en : Int) < (b : Int) := by omega
                    have HJ := Lib.hid (join_all (by omega) (by omega) HF.out.2.2.2.2.2.2 HS.out.1 HS.out.2 H2.out.2.1 H2.out.2.2.1 H2.out.2.2.2.1 (show Run X (rtt σ st m en) mid b from fun p q k1 k2 k3 => (HF.out.2.2.2.1.same (fun p k1 k2 => Hsame.out p k1 (by omega)) : Run X (rtt σ st m en) mid en) p q k1 k2 (by omega)) (Smp.refl _ _ _) (Oth.refl _ _ _))
                    go_wp2_with fail
                    go_end0
                    exact ⟨rfl, (rtt σ st m en), H2.out.1, HJ.out.1, HJ.out.2.1, HJ.out.2.2, H2.out.2.2.2.2.1⟩
                · have g1' : ¬ (mid : Int) < (en : Int) := by omega
                  have HJ := Lib.hid (join_all (by omega) (by omega) HF.out.2.2.2.2.2.2 HS.out.1 HS.out.2 H2.out.2.1 H2.out.2.2.1 H2.out.2.2.2.1 (show Run X (rtt σ st m en) mid b from fun p q k1 k2 k3 => (HF.out.2.2.2.2.1.same (fun p k1 k2 => Hsame.out p (by omega) k2) : Run X (rtt σ st m en) en b) p q (by omega) k2 k3) (Smp.refl _ _ _) (Oth.refl _ _ _))
                  go_wp2_with fail
                  go_end0
                  exact ⟨rfl, (rtt σ st m en), H2.out.1, HJ.out.1, HJ.out.2.1, HJ.out.2.2, H2.out.2.2.2.2.1⟩
            · have d1' : ¬ (a : Int) < (st : Int) := by omega
              have H2 := Lib.hid (show RowS w3 g cap n X (rtt σ st m en) ∧ Run X (rtt σ st m en) a mid ∧ Smp (rtt σ st m en) (rtt σ st m en) a mid ∧ Oth (rtt σ st m en) (rtt σ st m en) a mid ∧ Only g w w3 ∧ FinS n X (rtt σ st m en) from ⟨H1.out.1, fun p q k1 k2 k3 => HF.out.2.1 p q (by omega) k2 k3, Smp.refl _ _ _, Oth.refl _ _ _, H1.out.2, Hst.out.2.1.smp HS.out.1 HS.out.2 hbn⟩)
              have Hsame := Lib.hid (show ∀ p, mid ≤ p → p < b → (rtt σ st m en) p = rtt σ st m en p from fun p k1 _ => H2.out.2.2.2.1 p (.inr k1))
              by_cases g1 : mid < en
              · have g1' : (mid : Int) < (en : Int) := by omega
                by_cases g2 : en < b
                · have g2' : (en : Int) < (b : Int) := by omega
                  have HC := Lib.hid (ih (b - mid) (by omega) mid en b (rtt σ st m en) w3 rfl g1 g2 hbn H2.out.1 H2.out.2.2.2.2.2 (HF.out.2.2.2.1.same (fun p k1 k2 => Hsame.out p k1 (by omega))) (HF.out.2.2.2.2.1.same (fun p k1 k2 => Hsame.out p (by omega) k2)) (HF.out.2.2.2.2.2.1.same Hsame.out))
                  go_wp2_with fail
                  refine HC.out.mono ?_
                  rintro e w5 ⟨rfl, τ3, q1, q2, q3, q4, q5⟩
                  have H3 := Lib.hid (And.intro q1 (And.intro q2 (And.intro q3 (And.intro q4 (H2.out.2.2.2.2.1.trans q5)))))
                  clear q1 q2 q3 q4 q5
                  have HJ := Lib.hid (join_all (by omega) (by omega) HF.out.2.2.2.2.2.2 HS.out.1 HS.out.2 H2.out.2.1 H2.out.2.2.1 H2.out.2.2.2.1 (H3.out.2.1) (H3.out.2.2.1) (H3.out.2.2.2.1))
                  go_wp2_with fail
                  go_end0
                  exact ⟨rfl, τ3, H3.out.1, HJ.out.1, HJ.out.2.1, HJ.out.2.2, H3.out.2.2.2.2⟩
                · have g2' : ¬ (en : Int) < (b : Int) := by omega
                  have HJ := Lib.hid (join_all (by omega) (by omega) HF.out.2.2.2.2.2.2 HS.out.1 HS.out.2 H2.out.2.1 H2.out.2.2.1 H2.out.2.2.2.1 (show Run X (rtt σ st m en) mid b from fun p q k1 k2 k3 => (HF.out.2.2.2.1.same (fun p k1 k2 => Hsame.out p k1 (by omega)) : Run X (rtt σ st m en) mid en) p q k1 k2 (by omega)) (Smp.refl _ _ _) (Oth.refl _ _ _))
                  go_wp2_with fail
                  go_end0
                  exact ⟨rfl, (rtt σ st m en), H2.out.1, HJ.out.1, HJ.out.2.1, HJ.out.2.2, H2.out.2.2.2.2.1⟩
              · have g1' : ¬ (mid : Int) < (en : Int) := by omega
                have HJ := Lib.hid (join_all (by omega) (by omega) HF.out.2.2.2.2.2.2 HS.out.1 HS.out.2 H2.out.2.1 H2.out.2.2.1 H2.out.2.2.2.1 (show Run X (rtt σ st m en) mid b from fun p q k1 k2 k3 => (HF.out.2.2.2.2.1.same (fun p k1 k2 => Hsame.out p (by omega) k2) : Run X (rtt σ st m en) en b) p q (by omega) k2 k3) (Smp.refl _ _ _) (Oth.refl _ _ _))
                go_wp2_with fail
                go_end0
                exact ⟨rfl, (rtt σ st m en), H2.out.1, HJ.out.1, HJ.out.2.1, HJ.out.2.2, H2.out.2.2.2.2.1⟩
          · have c2' : ¬ (m : Int) < (en : Int) := by omega
            have H1 := Lib.hid (show RowS wr g cap n X (rtt σ st m en) ∧ Only g w wr from ⟨by rw [rtt_same σ (by omega) (by omega) (by omega)]; exact HI.out.1, HI.out.2.2.2⟩)
            by_cases d1 : a < st
            · have d1' : (a : Int) < (st : Int) := by omega
              by_cases d2 : st < mid
              · have d2' : (st : Int) < (mid : Int) := by omega
                have HC := Lib.hid (ih (mid - a) (by omega) a st mid (rtt σ st m en) wr rfl d1 d2 (by omega) H1.out.1 (Hst.out.2.1.smp HS.out.1 HS.out.2 hbn) HF.out.1 HF.out.2.1 HF.out.2.2.1)
                go_wp2_with fail
                refine HC.out.mono ?_
                rintro e w4 ⟨rfl, τ2, q1, q2, q3, q4, q5⟩
                have H2 := Lib.hid (show RowS w4 g cap n X τ2 ∧ Run X τ2 a mid ∧ Smp (rtt σ st m en) τ2 a mid ∧ Oth (rtt σ st m en) τ2 a mid ∧ Only g w w4 ∧ FinS n X τ2 from ⟨q1, q2, q3, q4, H1.out.2.trans q5, (Hst.out.2.1.smp HS.out.1 HS.out.2 hbn).smp q3 q4 (by omega)⟩)
                clear q1 q2 q3 q4 q5
                have Hsame := Lib.hid (show ∀ p, mid ≤ p → p < b → τ2 p = rtt σ st m en p from fun p k1 _ => H2.out.2.2.2.1 p (.inr k1))
                by_cases g1 : mid < en
                · have g1' : (mid : Int) < (en : Int) := by omega
                  by_cases g2 : en < b
                  · have g2' : (en : Int) < (b : Int) := by omega
                    have HC := Lib.hid (ih (b - mid) (by omega) mid en b τ2 w4 rfl g1 g2 hbn H2.out.1 H2.out.2.2.2.2.2 (HF.out.2.2.2.1.same (fun p k1 k2 => Hsame.out p k1 (by omega))) (HF.out.2.2.2.2.1.same (fun p k1 k2 => Hsame.out p (by omega) k2)) (HF.out.2.2.2.2.2.1.same Hsame.out))
                    go_wp2_with fail
                    refine HC.out.mono ?_
                    rintro e w5 ⟨rfl, τ3, q1, q2, q3, q4, q5⟩
                    have H3 := Lib.hid (And.intro q1 (And.intro q2 (And.intro q3 (And.intro q4 (H2.out.2.2.2.2.1.trans q5)))))
                    clear q1 q2 q3 q4 q5
                    have HJ := Lib.hid (join_all (by omega) (by omega) HF.out.2.2.2.2.2.2 HS.out.1 HS.out.2 H2.out.2.1 H2.out.2.2.1 H2.out.2.2.2.1 (H3.out.2.1) (H3.out.2.2.1) (H3.out.2.2.2.1))
                    go_wp2_with fail
                    go_end0
                    exact ⟨rfl, τ3, H3.out.1, HJ.out.1, HJ.out.2.1, HJ.out.2.2, H3.out.2.2.2.2⟩
                  · have g2' : ¬ (en : Int) < (b : Int) := by omega
                    have HJ := Lib.hid (join_all (by omega) (by omega) HF.out.2.2.2.2.2.2 HS.out.1 HS.out.2 H2.out.2.1 H2.out.2.2.1 H2.out.2.2.2.1 (show Run X τ2 mid b from fun p q k1 k2 k3 => (HF.out.2.2.2.1.same (fun p k1 k2 => Hsame.out p k1 (by omega)) : Run X τ2 mid en) p q k1 k2 (by omega)) (Smp.refl _ _ _) (Oth.refl _ _ _))
                    go_wp2_with fail
                    go_end0
                    exact ⟨rfl, τ2, H2.out.1, HJ.out.1, HJ.out.2.1, HJ.out.2.2, H2.out.2.2.2.2.1⟩
                · have g1' : ¬ (mid : Int) < (en : Int) := by omega
                  have HJ := Lib.hid (join_all (by omega) (by omega) HF.out.2.2.2.2.2.2 HS.out.1 HS.out.2 H2.out.2.1 H2.out.2.2.1 H2.out.2.2.2.1 (show Run X τ2 mid b from fun p q k1 k2 k3 => (HF.out.2.2.2.2.1.same (fun p k1 k2 => Hsame.out p (by omega) k2) : Run X τ2 en b) p q (by omega) k2 k3) (Smp.refl _ _ _) (Oth.refl _ _ _))
                  go_wp2_with fail
                  go_end0
                  exact ⟨rfl, τ2, H2.out.1, HJ.out.1, HJ.out.2.1, HJ.out.2.2, H2.out.2.2.2.2.1⟩
              · have d2' : ¬ (st : Int) < (mid : Int) := by omega
                have H2 := Lib.hid (show RowS wr g cap n X (rtt σ st m en) ∧ Run X (rtt σ st m en) a mid ∧ Smp (rtt σ st m en) (rtt σ st m en) a mid ∧ Oth (rtt σ st m en) (rtt σ st m en) a mid ∧ Only g w wr ∧ FinS n X (rtt σ st m en) from ⟨H1.out.1, fun p q k1 k2 k3 => HF.out.1 p q k1 k2 (by omega), Smp.refl _ _ _, Oth.refl _ _ _, H1.out.2, Hst.out.2.1.smp HS.out.1 HS.out.2 hbn⟩)
                have Hsame := Lib.hid (show ∀ p, mid ≤ p → p < b → (rtt σ st m en) p = rtt σ st m en p from fun p k1 _ => H2.out.2.2.2.1 p (.inr k1))
                by_cases g1 : mid < en
                · have g1' : (mid : Int) < (en : Int) := by omega
                  by_cases g2 : en < b
                  · have g2' : (en : Int) < (b : Int) := by omega
                    have HC := Lib.hid (ih (b - mid) (by omega) mid en b (rtt σ st m en) wr rfl g1 g2 hbn H2.out.1 H2.out.2.2.2.2.2 (HF.out.2.2.2.1.same (fun p k1 k2 => Hsame.out p k1 (by omega))) (HF.out.2.2.2.2.1.same (fun p k1 k2 => Hsame.out p (by omega) k2)) (HF.out.2.2.2.2.2.1.same Hsame.out))
                    go_wp2_with fail
                    refine HC.out.mono ?_
                    rintro e w5 ⟨rfl, τ3, q1, q2, q3, q4, q5⟩
                    have H3 := Lib.hid (And.intro q1 (And.intro q2 (And.intro q3 (And.intro q4 (H2.out.2.2.2.2.1.trans q5)))))
                    clear q1 q2 q3 q4 q5
                    have HJ := Lib.hid (join_all (by omega) (by omega) HF.out.2.2.2.2.2.2 HS.out.1 HS.out.2 H2.out.2.1 H2.out.2.2.1 H2.out.2.2.2.1 (H3.out.2.1) (H3.out.2.2.1) (H3.out.2.2.2.1))
                    go_wp2_with fail
                    go_end0
                    exact ⟨rfl, τ3, H3.out.1, HJ.out.1, HJ.out.2.1, HJ.out.2.2, H3.out.2.2.2.2⟩
                  · have g2' : ¬ (en : Int) < (b : Int) := by omega
                    have HJ := Lib.hid (join_all (by omega) (by omega) HF.out.2.2.2.2.2.2 HS.out.1 HS.out.2 H2.out.2.1 H2.out.2.2.1 H2.out.2.2.2.1 (show Run X (rtt σ st m en) mid b from fun p q k1 k2 k3 => (HF.out.2.2.2.1.same (fun p k1 k2 => Hsame.out p k1 (by omega)) : Run X (rtt σ st m en) mid en) p q k1 k2 (by omega)) (Smp.refl _ _ _) (Oth.refl _ _ _))
                    go_wp2_with fail
                    go_end0
                    exact ⟨rfl, (rtt σ st m en), H2.out.1, HJ.out.1, HJ.out.2.1, HJ.out.2.2, H2.out.2.2.2.2.1⟩
                · have g1' : ¬ (mid : Int) < (en : Int) := by omega
                  have HJ := Lib.hid (join_all (by omega) (by omega) HF.out.2.2.2.2.2.2 HS.out.1 HS.out.2 H2.out.2.1 H2.out.2.2.1 H2.out.2.2.2.1 (show Run X (rtt σ st m en) mid b from fun p q k1 k2 k3 => (HF.out.2.2.2.2.1.same (fun p k1 k2 => Hsame.out p (by omega) k2) : Run X (rtt σ st m en) en b) p q (by omega) k2 k3) (Smp.refl _ _ _) (Oth.refl _ _ _))
                  go_wp2_with fail
                  go_end0
                  exact ⟨rfl, (rtt σ st m en), H2.out.1, HJ.out.1, HJ.out.2.1, HJ.out.2.2, H2.out.2.2.2.2.1⟩
            · have d1' : ¬ (a : Int) < (st : Int) := by omega
              have H2 := Lib.hid (show RowS wr g cap n X (rtt σ st m en) ∧ Run X (rtt σ st m en) a mid ∧ Smp (rtt σ st m en) (rtt σ st m en) a mid ∧ Oth (rtt σ st m en) (rtt σ st m en) a mid ∧ Only g w wr ∧ FinS n X (rtt σ st m en) from ⟨H1.out.1, fun p q k1 k2 k3 => HF.out.2.1 p q (by omega) k2 k3, Smp.refl _ _ _, Oth.refl _ _ _, H1.out.2, Hst.out.2.1.smp HS.out.1 HS.out.2 hbn⟩)
              have Hsame := Lib.hid (show ∀ p, mid ≤ p → p < b → (rtt σ st m en) p = rtt σ st m en p from fun p k1 _ => H2.out.2.2.2.1 p (.inr k1))
              by_cases g1 : mid < en
              · have g1' : (mid : Int) < (en : Int) := by omega
                by_cases g2 : en < b
                · have g2' : (en : Int) < (b : Int) := by omega
                  have HC := Lib.hid (ih (b - mid) (by omega) mid en b (rtt σ st m en) wr rfl g1 g2 hbn H2.out.1 H2.out.2.2.2.2.2 (HF.out.2.2.2.1.same (fun p k1 k2 => Hsame.out p k1 (by omega))) (HF.out.2.2.2.2.1.same (fun p k1 k2 => Hsame.out p (by omega) k2)) (HF.out.2.2.2.2.2.1.same Hsame.out))
                  go_wp2_with fail
                  refine HC.out.mono ?_
                  rintro e w5 ⟨rfl, τ3, q1, q2, q3, q4, q5⟩
                  have H3 := Lib.hid (And.intro q1 (And.intro q2 (And.intro q3 (And.intro q4 (H2.out.2.2.2.2.1.trans q5)))))
                  clear q1 q2 q3 q4 q5
                  have HJ := Lib.hid (join_all (by omega) (by omega) HF.out.2.2.2.2.2.2 HS.out.1 HS.out.2 H2.out.2.1 H2.out.2.2.1 H2.out.2.2.2.1 (H3.out.2.1) (H3.out.2.2.1) (H3.out.2.2.2.1))
                  go_wp2_with fail
                  go_end0
                  exact ⟨rfl, τ3, H3.out.1, HJ.out.1, HJ.out.2.1, HJ.out.2.2, H3.out.2.2.2.2⟩
                · have g2' : ¬ (en : Int) < (b : Int) := by omega
                  have HJ := Lib.hid (join_all (by omega) (by omega) HF.out.2.2.2.2.2.2 HS.out.1 HS.out.2 H2.out.2.1 H2.out.2.2.1 H2.out.2.2.2.1 (show Run X (rtt σ st m en) mid b from fun p q k1 k2 k3 => (HF.out.2.2.2.1.same (fun p k1 k2 => Hsame.out p k1 (by omega)) : Run X (rtt σ st m en) mid en) p q k1 k2 (by omega)) (Smp.refl _ _ _) (Oth.refl _ _ _))
                  go_wp2_with fail
                  go_end0
                  exact ⟨rfl, (rtt σ st m en), H2.out.1, HJ.out.1, HJ.out.2.1, HJ.out.2.2, H2.out.2.2.2.2.1⟩
              · have g1' : ¬ (mid : Int) < (en : Int) := by omega
                have HJ := Lib.hid (join_all (by omega) (by omega) HF.out.2.2.2.2.2.2 HS.out.1 HS.out.2 H2.out.2.1 H2.out.2.2.1 H2.out.2.2.2.1 (show Run X (rtt σ st m en) mid b from fun p q k1 k2 k3 => (HF.out.2.2.2.2.1.same (fun p k1 k2 => Hsame.out p (by omega) k2) : Run X (rtt σ st m en) en b) p q (by omega) k2 k3) (Smp.refl _ _ _) (Oth.refl _ _ _))
                go_wp2_with fail
                go_end0
                exact ⟨rfl, (rtt σ st m en), H2.out.1, HJ.out.1, HJ.out.2.1, HJ.out.2.2, H2.out.2.2.2.2.1⟩
        · have c1' : ¬ (st : Int) < (m : Int) := by omega
          have H1 := Lib.hid (show RowS wr g cap n X (rtt σ st m en) ∧ Only g w wr from ⟨by rw [rtt_same σ (by omega) (by omega) (by omega)]; exact HI.out.1, HI.out.2.2.2⟩)
          by_cases d1 : a < st
          · have d1' : (a : Int) < (st : Int) := by omega
            by_cases d2 : st < mid
            · have d2' : (st : Int) < (mid : Int) := by omega
              have HC := Lib.hid (ih (mid - a) (by omega) a st mid (rtt σ st m en) wr rfl d1 d2 (by omega) H1.out.1 (Hst.out.2.1.smp HS.out.1 HS.out.2 hbn) HF.out.1 HF.out.2.1 HF.out.2.2.1)
              go_wp2_with fail
              refine HC.out.mono ?_
              rintro e w4 ⟨rfl, τ2, q1, q2, q3, q4, q5⟩
              have H2 := Lib.hid (show RowS w4 g cap n X τ2 ∧ Run X τ2 a mid ∧ Smp (rtt σ st m en) τ2 a mid ∧ Oth (rtt σ st m en) τ2 a mid ∧ Only g w w4 ∧ FinS n X τ2 from ⟨q1, q2, q3, q4, H1.out.2.trans q5, (Hst.out.2.1.smp HS.out.1 HS.out.2 hbn).smp q3 q4 (by omega)⟩)
              clear q1 q2 q3 q4 q5
              have Hsame := Lib.hid (show ∀ p, mid ≤ p → p < b → τ2 p = rtt σ st m en p from fun p k1 _ => H2.out.2.2.2.1 p (.inr k1))
              by_cases g1 : mid < en
              · have g1' : (mid : Int) < (en : Int) := by omega
                by_cases g2 : en < b
                · have g2' : (en : Int) < (b : Int) := by omega
                  have HC := Lib.hid (ih (b - mid) (by omega) mid en b τ2 w4 rfl g1 g2 hbn H2.out.1 H2.out.2.2.2.2.2 (HF.out.2.2.2.1.same (fun p k1 k2 => Hsame.out p k1 (by omega))) (HF.out.2.2.2.2.1.same (fun p k1 k2 => Hsame.out p (by omega) k2)) (HF.out.2.2.2.2.2.1.same Hsame.out))
                  go_wp2_with fail
                  refine HC.out.mono ?_
                  rintro e w5 ⟨rfl, τ3, q1, q2, q3, q4, q5⟩
                  have H3 := Lib.hid (And.intro q1 (And.intro q2 (And.intro q3 (And.intro q4 (H2.out.2.2.2.2.1.trans q5)))))
                  clear q1 q2 q3 q4 q5
                  have HJ := Lib.hid (join_all (by omega) (by omega) HF.out.2.2.2.2.2.2 HS.out.1 HS.out.2 H2.out.2.1 H2.out.2.2.1 H2.out.2.2.2.1 (H3.out.2.1) (H3.out.2.2.1) (H3.out.2.2.2.1))
                  go_wp2_with fail
                  go_end0
                  exact ⟨rfl, τ3, H3.out.1, HJ.out.1, HJ.out.2.1, HJ.out.2.2, H3.out.2.2.2.2⟩
                · have g2' : ¬ (en : Int) < (b : Int) := by omega
                  have HJ := Lib.hid (join_all (by omega) (by omega) HF.out.2.2.2.2.2.2 HS.out.1 HS.out.2 H2.out.2.1 H2.out.2.2.1 H2.out.2.2.2.1 (show Run X τ2 mid b from fun p q k1 k2 k3 => (HF.out.2.2.2.1.same (fun p k1 k2 => Hsame.out p k1 (by omega)) : Run X τ2 mid en) p q k1 k2 (by omega)) (Smp.refl _ _ _) (Oth.refl _ _ _))
                  go_wp2_with fail
                  go_end0
                  exact ⟨rfl, τ2, H2.out.1, HJ.out.1, HJ.out.2.1, HJ.out.2.2, H2.out.2.2.2.2.1⟩
              · have g1' : ¬ (mid : Int) < (en : Int) := by omega
                have HJ := Lib.hid (join_all (by omega) (by omega) HF.out.2.2.2.2.2.2 HS.out.1 HS.out.2 H2.out.2.1 H2.out.2.2.1 H2.out.2.2.2.1 (show Run X τ2 mid b from fun p q k1 k2 k3 => (HF.out.2.2.2.2.1.same (fun p k1 k2 => Hsame.out p (by omega) k2) : Run X τ2 en b) p q (by omega) k2 k3) (Smp.refl _ _ _) (Oth.refl _ _ _))
                go_wp2_with fail
                go_end0
                exact ⟨rfl, τ2, H2.out.1, HJ.out.1, HJ.out.2.1, HJ.out.2.2, H2.out.2.2.2.2.1⟩
            · have d2' : ¬ (st : Int) < (mid : Int) := by omega
              have H2 := Lib.hid (show RowS wr g cap n X (rtt σ st m en) ∧ Run X (rtt σ st m en) a mid ∧ Smp (rtt σ st m en) (rtt σ st m en) a mid ∧ Oth (rtt σ st m en) (rtt σ st m en) a mid ∧ Only g w wr ∧ FinS n X (rtt σ st m en) from ⟨H1.out.1, fun p q k1 k2 k3 => HF.out.1 p q k1 k2 (by omega), Smp.refl _ _ _, Oth.refl _ _ _, H1.out.2, Hst.out.2.1.smp HS.out.1 HS.out.2 hbn⟩)
              have Hsame := Lib.hid (show ∀ p, mid ≤ p → p < b → (rtt σ st m en) p = rtt σ st m en p from fun p k1 _ => H2.out.2.2.2.1 p (.inr k1))
              by_cases g1 : mid < en
              · have g1' : (mid : Int) < (en : Int) := by omega
                by_cases g2 : en < b
                · have g2' : (en : Int) < (b : Int) := by omega
                  have HC := Lib.hid (ih (b - mid) (by omega) mid en b (rtt σ st m en) wr rfl g1 g2 hbn H2.out.1 H2.out.2.2.2.2.2 (HF.out.2.2.2.1.same (fun p k1 k2 => Hsame.out p k1 (by omega))) (HF.out.2.2.2.2.1.same (fun p k1 k2 => Hsame.out p (by omega) k2)) (HF.out.2.2.2.2.2.1.same Hsame.out))
                  go_wp2_with fail
                  refine HC.out.mono ?_
                  rintro e w5 ⟨rfl, τ3, q1, q2, q3, q4, q5⟩
                  have H3 := Lib.hid (And.intro q1 (And.intro q2 (And.intro q3 (And.intro q4 (H2.out.2.2.2.2.1.trans q5)))))
                  clear q1 q2 q3 q4 q5
                  have HJ := Lib.hid (join_all (by omega) (by omega) HF.out.2.2.2.2.2.2 HS.out.1 HS.out.2 H2.out.2.1 H2.out.2.2.1 H2.out.2.2.2.1 (H3.out.2.1) (H3.out.2.2.1) (H3.out.2.2.2.1))
                  go_wp2_with fail
                  go_end0
                  exact ⟨rfl, τ3, H3.out.1, HJ.out.1, HJ.out.2.1, HJ.out.2.2, H3.out.2.2.2.2⟩
                · have g2' : ¬ (en : Int) < (b : Int) := by omega
                  have HJ := Lib.hid (join_all (by omega) (by omega) HF.out.2.2.2.2.2.2 HS.out.1 HS.out.2 H2.out.2.1 H2.out.2.2.1 H2.out.2.2.2.1 (show Run X (rtt σ st m en) mid b from fun p q k1 k2 k3 => (HF.out.2.2.2.1.same (fun p k1 k2 => Hsame.out p k1 (by omega)) : Run X (rtt σ st m en) mid en) p q k1 k2 (by omega)) (Smp.refl _ _ _) (Oth.refl _ _ _))
                  go_wp2_with fail
                  go_end0
                  exact ⟨rfl, (rtt σ st m en), H2.out.1, HJ.out.1, HJ.out.2.1, HJ.out.2.2, H2.out.2.2.2.2.1⟩
              · have g1' : ¬ (mid : Int) < (en : Int) := by omega
                have HJ := Lib.hid (join_all (by omega) (by omega) HF.out.2.2.2.2.2.2 HS.out.1 HS.out.2 H2.out.2.1 H2.out.2.2.1 H2.out.2.2.2.1 (show Run X (rtt σ st m en) mid b from fun p q k1 k2 k3 => (HF.out.2.2.2.2.1.same (fun p k1 k2 => Hsame.out p (by omega) k2) : Run X (rtt σ st m en) en b) p q (by omega) k2 k3) (Smp.refl _ _ _) (Oth.refl _ _ _))
                go_wp2_with fail
                go_end0
                exact ⟨rfl, (rtt σ st m en), H2.out.1, HJ.out.1, HJ.out.2.1, HJ.out.2.2, H2.out.2.2.2.2.1⟩
          · have d1' : ¬ (a : Int) < (st : Int) := by omega
            have H2 := Lib.hid (show RowS wr g cap n X (rtt σ st m en) ∧ Run X (rtt σ st m en) a mid ∧ Smp (rtt σ st m en) (rtt σ st m en) a mid ∧ Oth (rtt σ st m en) (rtt σ st m en) a mid ∧ Only g w wr ∧ FinS n X (rtt σ st m en) from ⟨H1.out.1, fun p q k1 k2 k3 => HF.out.2.1 p q (by omega) k2 k3, Smp.refl _ _ _, Oth.refl _ _ _, H1.out.2, Hst.out.2.1.smp HS.out.1 HS.out.2 hbn⟩)
            have Hsame := Lib.hid (show ∀ p, mid ≤ p → p < b → (rtt σ st m en) p = rtt σ st m en p from fun p k1 _ => H2.out.2.2.2.1 p (.inr k1))
            by_cases g1 : mid < en
            · have g1' : (mid : Int) < (en : Int) := by omega
              by_cases g2 : en < b
              · have g2' : (en : Int) < (b : Int) := by omega
                have HC := Lib.hid (ih (b - mid) (by omega) mid en b (rtt σ st m en) wr rfl g1 g2 hbn H2.out.1 H2.out.2.2.2.2.2 (HF.out.2.2.2.1.same (fun p k1 k2 => Hsame.out p k1 (by omega))) (HF.out.2.2.2.2.1.same (fun p k1 k2 => Hsame.out p (by omega) k2)) (HF.out.2.2.2.2.2.1.same Hsame.out))
                go_wp2_with fail
                refine HC.out.mono ?_
                rintro e w5 ⟨rfl, τ3, q1, q2, q3, q4, q5⟩
                have H3 := Lib.hid (And.intro q1 (And.intro q2 (And.intro q3 (And.intro q4 (H2.out.2.2.2.2.1.trans q5)))))
                clear q1 q2 q3 q4 q5
                have HJ := Lib.hid (join_all (by omega) (by omega) HF.out.2.2.2.2.2.2 HS.out.1 HS.out.2 H2.out.2.1 H2.out.2.2.1 H2.out.2.2.2.1 (H3.out.2.1) (H3.out.2.2.1) (H3.out.2.2.2.1))
                go_wp2_with fail
                go_end0
                exact ⟨rfl, τ3, H3.out.1, HJ.out.1, HJ.out.2.1, HJ.out.2.2, H3.out.2.2.2.2⟩
              · have g2' : ¬ (en : Int) < (b : Int) := by omega
                have HJ := Lib.hid (join_all (by omega) (by omega) HF.out.2.2.2.2.2.2 HS.out.1 HS.out.2 H2.out.2.1 H2.out.2.2.1 H2.out.2.2.2.1 (show Run X (rtt σ st m en) mid b from fun p q k1 k2 k3 => (HF.out.2.2.2.1.same (fun p k1 k2 => Hsame.out p k1 (by omega)) : Run X (rtt σ st m en) mid en) p q k1 k2 (by omega)) (Smp.refl _ _ _) (Oth.refl _ _ _))
                go_wp2_with fail
                go_end0
                exact ⟨rfl, (rtt σ st m en), H2.out.1, HJ.out.1, HJ.out.2.1, HJ.out.2.2, H2.out.2.2.2.2.1⟩
            · have g1' : ¬ (mid : Int) < (en : Int) := by omega
              have HJ := Lib.hid (join_all (by omega) (by omega) HF.out.2.2.2.2.2.2 HS.out.1 HS.out.2 H2.out.2.1 H2.out.2.2.1 H2.out.2.2.2.1 (show Run X (rtt σ st m en) mid b from fun p q k1 k2 k3 => (HF.out.2.2.2.2.1.same (fun p k1 k2 => Hsame.out p (by omega) k2) : Run X (rtt σ st m en) en b) p q (by omega) k2 k3) (Smp.refl _ _ _) (Oth.refl _ _ _))
              go_wp2_with fail
              go_end0
              exact ⟨rfl, (rtt σ st m en), H2.out.1, HJ.out.1, HJ.out.2.1, HJ.out.2.2, H2.out.2.2.2.2.1⟩
theorem sym_any (g cap n : Nat) (X : Nat → Nat) (hn : n ≤ 64) : ∀ (k a m b : Nat) (σ : Nat → Nat) (w : World), b - a = k → a < m → m < b → b ≤ n → RowS w g cap n X σ → FinS n X σ → Run X σ a m → Run X σ m b → Sep σ a m b →
    Calls Try.prog 83 #[.slice (some ⟨g, 0, none⟩) n cap, .int .i64 (a : Int), .int .i64 (m : Int), .int .i64 (b : Int), .func (.func 69) #[] #[]] w (SymOut g cap n a b X σ w) := by
  intro k
  induction k using Nat.strongRecOn with
  | ind k ih =>
    intro a m b σ w hk ham hmb hbn hrow hfin h1 h2 hs
    subst hk
    by_cases c1 : a + 1 = m
    · exact sym_left g cap n a m b X σ w c1 hmb hbn hn hrow hfin h1 h2 hs
    · by_cases c2 : m + 1 = b
      · exact sym_right g cap n a m b X σ w (by omega) c2 hbn hn hrow hfin h1 h2 hs
      · exact sym_gen g cap n a m b X σ w (by omega) (by omega) hbn hn hrow hfin h1 h2 hs ih
end Go.Proofs.Ytlbapogmcnpmeaa.Avg
/- The program's stable sort, last part: blocks that are sorted and merged; the copy; middleOf, MiddleOf. -/
namespace Go.Proofs.Ytlbapogmcnpmeaa.Avg
open Go.ChangeShapes Go.WideShapes Go.ChangeAt Go.RowKit Go.Deep Go.Proofs.Ytlbapogmcnpmeaa Go.Proofs.Ytlbapogmcnpmeaa.Flt Go.Proofs.Ytlbapogmcnpmeaa.Mth Go.Proofs.Ytlbapogmcnpmeaa.Sgl
open Ieee (single double)
set_option linter.unusedVariables false
set_option linter.unusedSimpArgs false
theorem seg_keep {X σ τ : Nat → Nat} {a b c d : Nat} (h : Seg X σ a b) (o : Oth σ τ c d) (k : b ≤ c ∨ d ≤ a) : Seg X τ a b := h.same fun p h1 h2 => o p (by omega)
set_option maxRecDepth 20000 in
set_option maxHeartbeats 6400000 in
theorem stb_0 (g cap n : Nat) (X : Nat → Nat) (w : World) (hlo : 1 ≤ n) (hhi : n ≤ 19) (hrow : RowS w g cap n X (fun p => p)) (hfin : FinS n X (fun p => p)) :
    Calls Try.prog 77 #[.slice (some ⟨g, 0, none⟩) n cap, .int .i64 (n : Int), .func (.func 69) #[] #[]] w fun e w' => e = .returned (.tuple #[]) ∧ ∃ τ, RowS w' g cap n X τ ∧ Seg X τ 0 n ∧ Only g w w' := by
  have K0 := Lib.hid (And.intro hrow (And.intro hfin (Only.refl g w)))
  have J0 := Lib.hid (show ∀ p, 0 ≤ p → (fun p : Nat => p) p = p from fun _ _ => rfl)
  clear hrow hfin
  have ge20 : ¬ (20 : Int) ≤ (n : Int) := by omega
  have gt20 : ¬ (20 : Int) < (n : Int) := by omega
  have ge40 : ¬ (40 : Int) ≤ (n : Int) := by omega
  have gt40 : ¬ (40 : Int) < (n : Int) := by omega
  have ge60 : ¬ (60 : Int) ≤ (n : Int) := by omega
  have gt60 : ¬ (60 : Int) < (n : Int) := by omega
  have ge80 : ¬ (80 : Int) ≤ (n : Int) := by omega
  have gt80 : ¬ (80 : Int) < (n : Int) := by omega
  go_enter Try.func77, Try.ntmps77
  go_wp2_with fail
  refine wp_loop_rounds 1 ?_
  rw [rounds_succ]
  go_wp2_with fail
  refine (ins_any g cap n 0 n X (fun p : Nat => p) w (by omega) (by omega) (by omega) K0.out.1 K0.out.2.1 (fun p h1 _ => rfl)).mono ?_
  rintro e w1 ⟨rfl, τ1, q1, q2, q3, q4, q5⟩
  have K1 := Lib.hid (And.intro q1 (And.intro q4 (K0.out.2.2.trans q5)))
  have J1 := Lib.hid (show ∀ p, n ≤ p → τ1 p = p from fun p hp => (q3 p (.inr hp)).trans rfl)
  have S1_0_n := Lib.hid q2
  clear q1 q2 q3 q4 q5
  go_wp2_with fail
  refine wp_loop_rounds 1 ?_
  rw [rounds_succ]
  go_wp2_with fail
  go_end0
  exact ⟨rfl, τ1, K1.out.1, S1_0_n.out, K1.out.2.2⟩
set_option maxRecDepth 20000 in
set_option maxHeartbeats 6400000 in
theorem stb_1 (g cap n : Nat) (X : Nat → Nat) (w : World) (hlo : 20 ≤ n) (hhi : n ≤ 20) (hrow : RowS w g cap n X (fun p => p)) (hfin : FinS n X (fun p => p)) :
    Calls Try.prog 77 #[.slice (some ⟨g, 0, none⟩) n cap, .int .i64 (n : Int), .func (.func 69) #[] #[]] w fun e w' => e = .returned (.tuple #[]) ∧ ∃ τ, RowS w' g cap n X τ ∧ Seg X τ 0 n ∧ Only g w w' := by
  have K0 := Lib.hid (And.intro hrow (And.intro hfin (Only.refl g w)))
  have J0 := Lib.hid (show ∀ p, 0 ≤ p → (fun p : Nat => p) p = p from fun _ _ => rfl)
  clear hrow hfin
  have ge20 : (20 : Int) ≤ (n : Int) := by omega
  have gt20 : ¬ (20 : Int) < (n : Int) := by omega
  have ge40 : ¬ (40 : Int) ≤ (n : Int) := by omega
  have gt40 : ¬ (40 : Int) < (n : Int) := by omega
  have ge60 : ¬ (60 : Int) ≤ (n : Int) := by omega
  have gt60 : ¬ (60 : Int) < (n : Int) := by omega
  have ge80 : ¬ (80 : Int) ≤ (n : Int) := by omega
  have gt80 : ¬ (80 : Int) < (n : Int) := by omega
  go_enter Try.func77, Try.ntmps77
  go_wp2_with fail
  refine wp_loop_rounds 2 ?_
  rw [rounds_succ]
  go_wp2_with fail
  refine (ins_any g cap n 0 20 X (fun p : Nat => p) w (by omega) (by omega) (by omega) K0.out.1 K0.out.2.1 (fun p h1 _ => rfl)).mono ?_
  rintro e w1 ⟨rfl, τ1, q1, q2, q3, q4, q5⟩
  have K1 := Lib.hid (And.intro q1 (And.intro q4 (K0.out.2.2.trans q5)))
  have J1 := Lib.hid (show ∀ p, 20 ≤ p → τ1 p = p from fun p hp => (q3 p (.inr hp)).trans rfl)
  have S1_0_20 := Lib.hid q2
  clear q1 q2 q3 q4 q5
  go_wp2_with fail
  rw [rounds_succ]
  go_wp2_with fail
  refine (ins_any g cap n 20 n X τ1 w1 (by omega) (by omega) (by omega) K1.out.1 K1.out.2.1 (fun p h1 _ => J1.out p h1)).mono ?_
  rintro e w2 ⟨rfl, τ2, q1, q2, q3, q4, q5⟩
  have K2 := Lib.hid (And.intro q1 (And.intro q4 (K1.out.2.2.trans q5)))
  have J2 := Lib.hid (show ∀ p, n ≤ p → τ2 p = p from fun p hp => (q3 p (.inr hp)).trans (J1.out p (by omega)))
  have S2_20_n := Lib.hid q2
  have S2_0_20 := Lib.hid (seg_keep S1_0_20.out q3 (by omega))
  clear q1 q2 q3 q4 q5
  go_wp2_with fail
  refine wp_loop_rounds 1 ?_
  rw [rounds_succ]
  go_wp2_with fail
  go_end0
  have hn0 : n = 20 := by omega
  exact ⟨rfl, τ2, K2.out.1, (by rw [hn0]; exact S2_0_20.out), K2.out.2.2⟩
set_option maxRecDepth 20000 in
set_option maxHeartbeats 6400000 in
theorem stb_2 (g cap n : Nat) (X : Nat → Nat) (w : World) (hlo : 21 ≤ n) (hhi : n ≤ 39) (hrow : RowS w g cap n X (fun p => p)) (hfin : FinS n X (fun p => p)) :
    Calls Try.prog 77 #[.slice (some ⟨g, 0, none⟩) n cap, .int .i64 (n : Int), .func (.func 69) #[] #[]] w fun e w' => e = .returned (.tuple #[]) ∧ ∃ τ, RowS w' g cap n X τ ∧ Seg X τ 0 n ∧ Only g w w' := by
  have K0 := Lib.hid (And.intro hrow (And.intro hfin (Only.refl g w)))
  have J0 := Lib.hid (show ∀ p, 0 ≤ p → (fun p : Nat => p) p = p from fun _ _ => rfl)
  clear hrow hfin
  have ge20 : (20 : Int) ≤ (n : Int) := by omega
  have gt20 : (20 : Int) < (n : Int) := by omega
  have ge40 : ¬ (40 : Int) ≤ (n : Int) := by omega
  have gt40 : ¬ (40 : Int) < (n : Int) := by omega
  have ge60 : ¬ (60 : Int) ≤ (n : Int) := by omega
  have gt60 : ¬ (60 : Int) < (n : Int) := by omega
  have ge80 : ¬ (80 : Int) ≤ (n : Int) := by omega
  have gt80 : ¬ (80 : Int) < (n : Int) := by omega
  go_enter Try.func77, Try.ntmps77
  go_wp2_with fail
  refine wp_loop_rounds 2 ?_
  rw [rounds_succ]
  go_wp2_with fail
  refine (ins_any g cap n 0 20 X (fun p : Nat => p) w (by omega) (by omega) (by omega) K0.out.1 K0.out.2.1 (fun p h1 _ => rfl)).mono ?_
  rintro e w1 ⟨rfl, τ1, q1, q2, q3, q4, q5⟩
  have K1 := Lib.hid (And.intro q1 (And.intro q4 (K0.out.2.2.trans q5)))
  have J1 := Lib.hid (show ∀ p, 20 ≤ p → τ1 p = p from fun p hp => (q3 p (.inr hp)).trans rfl)
  have S1_0_20 := Lib.hid q2
  clear q1 q2 q3 q4 q5
  go_wp2_with fail
  rw [rounds_succ]
  go_wp2_with fail
  refine (ins_any g cap n 20 n X τ1 w1 (by omega) (by omega) (by omega) K1.out.1 K1.out.2.1 (fun p h1 _ => J1.out p h1)).mono ?_
  rintro e w2 ⟨rfl, τ2, q1, q2, q3, q4, q5⟩
  have K2 := Lib.hid (And.intro q1 (And.intro q4 (K1.out.2.2.trans q5)))
  have J2 := Lib.hid (show ∀ p, n ≤ p → τ2 p = p from fun p hp => (q3 p (.inr hp)).trans (J1.out p (by omega)))
  have S2_20_n := Lib.hid q2
  have S2_0_20 := Lib.hid (seg_keep S1_0_20.out q3 (by omega))
  clear q1 q2 q3 q4 q5
  go_wp2_with fail
  refine wp_loop_rounds 2 ?_
  rw [rounds_succ]
  go_wp2_with fail
  refine wp_loop_rounds 1 ?_
  rw [rounds_succ]
  go_wp2_with fail
  refine (sym_any g cap n X (by omega) (n - 0) 0 20 n τ2 w2 rfl (by omega) (by omega) (by omega) K2.out.1 K2.out.2.1 S2_0_20.out.run S2_20_n.out.run (S2_0_20.out.sep S2_20_n.out)).mono ?_
  rintro e w3 ⟨rfl, τ3, q1, q2, q3, q4, q5⟩
  have K3 := Lib.hid (And.intro q1 (And.intro (K2.out.2.1.smp q3 q4 (by omega)) (K2.out.2.2.trans q5)))
  have S3_0_n := Lib.hid (Seg.merge (by omega) (by omega) S2_0_20.out S2_20_n.out q2 q3)
  clear q1 q2 q3 q4 q5
  go_wp2_with fail
  rw [rounds_succ]
  go_wp2_with fail
  go_end0
  exact ⟨rfl, τ3, K3.out.1, S3_0_n.out, K3.out.2.2⟩
set_option maxRecDepth 20000 in
set_option maxHeartbeats 6400000 in
theorem stb_3 (g cap n : Nat) (X : Nat → Nat) (w : World) (hlo : 40 ≤ n) (hhi : n ≤ 40) (hrow : RowS w g cap n X (fun p => p)) (hfin : FinS n X (fun p => p)) :
    Calls Try.prog 77 #[.slice (some ⟨g, 0, none⟩) n cap, .int .i64 (n : Int), .func (.func 69) #[] #[]] w fun e w' => e = .returned (.tuple #[]) ∧ ∃ τ, RowS w' g cap n X τ ∧ Seg X τ 0 n ∧ Only g w w' := by
  have K0 := Lib.hid (And.intro hrow (And.intro hfin (Only.refl g w)))
  have J0 := Lib.hid (show ∀ p, 0 ≤ p → (fun p : Nat => p) p = p from fun _ _ => rfl)
  clear hrow hfin
  have ge20 : (20 : Int) ≤ (n : Int) := by omega
  have gt20 : (20 : Int) < (n : Int) := by omega
  have ge40 : (40 : Int) ≤ (n : Int) := by omega
  have gt40 : ¬ (40 : Int) < (n : Int) := by omega
  have ge60 : ¬ (60 : Int) ≤ (n : Int) := by omega
  have gt60 : ¬ (60 : Int) < (n : Int) := by omega
  have ge80 : ¬ (80 : Int) ≤ (n : Int) := by omega
  have gt80 : ¬ (80 : Int) < (n : Int) := by omega
  go_enter Try.func77, Try.ntmps77
  go_wp2_with fail
  refine wp_loop_rounds 3 ?_
  rw [rounds_succ]
  go_wp2_with fail
  refine (ins_any g cap n 0 20 X (fun p : Nat => p) w (by omega) (by omega) (by omega) K0.out.1 K0.out.2.1 (fun p h1 _ => rfl)).mono ?_
  rintro e w1 ⟨rfl, τ1, q1, q2, q3, q4, q5⟩
  have K1 := Lib.hid (And.intro q1 (And.intro q4 (K0.out.2.2.trans q5)))
  have J1 := Lib.hid (show ∀ p, 20 ≤ p → τ1 p = p from fun p hp => (q3 p (.inr hp)).trans rfl)
  have S1_0_20 := Lib.hid q2
  clear q1 q2 q3 q4 q5
  go_wp2_with fail
  rw [rounds_succ]
  go_wp2_with fail
  refine (ins_any g cap n 20 40 X τ1 w1 (by omega) (by omega) (by omega) K1.out.1 K1.out.2.1 (fun p h1 _ => J1.out p h1)).mono ?_
  rintro e w2 ⟨rfl, τ2, q1, q2, q3, q4, q5⟩
  have K2 := Lib.hid (And.intro q1 (And.intro q4 (K1.out.2.2.trans q5)))
  have J2 := Lib.hid (show ∀ p, 40 ≤ p → τ2 p = p from fun p hp => (q3 p (.inr hp)).trans (J1.out p (by omega)))
  have S2_20_40 := Lib.hid q2
  have S2_0_20 := Lib.hid (seg_keep S1_0_20.out q3 (by omega))
  clear q1 q2 q3 q4 q5
  go_wp2_with fail
  rw [rounds_succ]
  go_wp2_with fail
  refine (ins_any g cap n 40 n X τ2 w2 (by omega) (by omega) (by omega) K2.out.1 K2.out.2.1 (fun p h1 _ => J2.out p h1)).mono ?_
  rintro e w3 ⟨rfl, τ3, q1, q2, q3, q4, q5⟩
  have K3 := Lib.hid (And.intro q1 (And.intro q4 (K2.out.2.2.trans q5)))
  have J3 := Lib.hid (show ∀ p, n ≤ p → τ3 p = p from fun p hp => (q3 p (.inr hp)).trans (J2.out p (by omega)))
  have S3_40_n := Lib.hid q2
  have S3_20_40 := Lib.hid (seg_keep S2_20_40.out q3 (by omega))
  have S3_0_20 := Lib.hid (seg_keep S2_0_20.out q3 (by omega))
  clear q1 q2 q3 q4 q5
  go_wp2_with fail
  refine wp_loop_rounds 2 ?_
  rw [rounds_succ]
  go_wp2_with fail
  refine wp_loop_rounds 2 ?_
  rw [rounds_succ]
  go_wp2_with fail
  refine (sym_any g cap n X (by omega) (40 - 0) 0 20 40 τ3 w3 rfl (by omega) (by omega) (by omega) K3.out.1 K3.out.2.1 S3_0_20.out.run S3_20_40.out.run (S3_0_20.out.sep S3_20_40.out)).mono ?_
  rintro e w4 ⟨rfl, τ4, q1, q2, q3, q4, q5⟩
  have K4 := Lib.hid (And.intro q1 (And.intro (K3.out.2.1.smp q3 q4 (by omega)) (K3.out.2.2.trans q5)))
  have S4_0_40 := Lib.hid (Seg.merge (by omega) (by omega) S3_0_20.out S3_20_40.out q2 q3)
  have S4_40_n := Lib.hid (seg_keep S3_40_n.out q4 (by omega))
  clear q1 q2 q3 q4 q5
  go_wp2_with fail
  rw [rounds_succ]
  go_wp2_with fail
  rw [rounds_succ]
  go_wp2_with fail
  go_end0
  have hn0 : n = 40 := by omega
  exact ⟨rfl, τ4, K4.out.1, (by rw [hn0]; exact S4_0_40.out), K4.out.2.2⟩
set_option maxRecDepth 20000 in
set_option maxHeartbeats 6400000 in
theorem stb_4 (g cap n : Nat) (X : Nat → Nat) (w : World) (hlo : 41 ≤ n) (hhi : n ≤ 59) (hrow : RowS w g cap n X (fun p => p)) (hfin : FinS n X (fun p => p)) :
    Calls Try.prog 77 #[.slice (some ⟨g, 0, none⟩) n cap, .int .i64 (n : Int), .func (.func 69) #[] #[]] w fun e w' => e = .returned (.tuple #[]) ∧ ∃ τ, RowS w' g cap n X τ ∧ Seg X τ 0 n ∧ Only g w w' := by
  have K0 := Lib.hid (And.intro hrow (And.intro hfin (Only.refl g w)))
  have J0 := Lib.hid (show ∀ p, 0 ≤ p → (fun p : Nat => p) p = p from fun _ _ => rfl)
  clear hrow hfin
  have ge20 : (20 : Int) ≤ (n : Int) := by omega
  have gt20 : (20 : Int) < (n : Int) := by omega
  have ge40 : (40 : Int) ≤ (n : Int) := by omega
  have gt40 : (40 : Int) < (n : Int) := by omega
  have ge60 : ¬ (60 : Int) ≤ (n : Int) := by omega
  have gt60 : ¬ (60 : Int) < (n : Int) := by omega
  have ge80 : ¬ (80 : Int) ≤ (n : Int) := by omega
  have gt80 : ¬ (80 : Int) < (n : Int) := by omega
  go_enter Try.func77, Try.ntmps77
  go_wp2_with fail
  refine wp_loop_rounds 3 ?_
  rw [rounds_succ]
  go_wp2_with fail
  refine (ins_any g cap n 0 20 X (fun p : Nat => p) w (by omega) (by omega) (by omega) K0.out.1 K0.out.2.1 (fun p h1 _ => rfl)).mono ?_
  rintro e w1 ⟨rfl, τ1, q1, q2, q3, q4, q5⟩
  have K1 := Lib.hid (And.intro q1 (And.intro q4 (K0.out.2.2.trans q5)))
  have J1 := Lib.hid (show ∀ p, 20 ≤ p → τ1 p = p from fun p hp => (q3 p (.inr hp)).trans rfl)
  have S1_0_20 := Lib.hid q2
  clear q1 q2 q3 q4 q5
  go_wp2_with fail
  rw [rounds_succ]
  go_wp2_with fail
  refine (ins_any g cap n 20 40 X τ1 w1 (by omega) (by omega) (by omega) K1.out.1 K1.out.2.1 (fun p h1 _ => J1.out p h1)).mono ?_
  rintro e w2 ⟨rfl, τ2, q1, q2, q3, q4, q5⟩
  have K2 := Lib.hid (And.intro q1 (And.intro q4 (K1.out.2.2.trans q5)))
  have J2 := Lib.hid (show ∀ p, 40 ≤ p → τ2 p = p from fun p hp => (q3 p (.inr hp)).trans (J1.out p (by omega)))
  have S2_20_40 := Lib.hid q2
  have S2_0_20 := Lib.hid (seg_keep S1_0_20.out q3 (by omega))
  clear q1 q2 q3 q4 q5
  go_wp2_with fail
  rw [rounds_succ]
  go_wp2_with fail
  refine (ins_any g cap n 40 n X τ2 w2 (by omega) (by omega) (by omega) K2.out.1 K2.out.2.1 (fun p h1 _ => J2.out p h1)).mono ?_
  rintro e w3 ⟨rfl, τ3, q1, q2, q3, q4, q5⟩
  have K3 := Lib.hid (And.intro q1 (And.intro q4 (K2.out.2.2.trans q5)))
  have J3 := Lib.hid (show ∀ p, n ≤ p → τ3 p = p from fun p hp => (q3 p (.inr hp)).trans (J2.out p (by omega)))
  have S3_40_n := Lib.hid q2
  have S3_20_40 := Lib.hid (seg_keep S2_20_40.out q3 (by omega))
  have S3_0_20 := Lib.hid (seg_keep S2_0_20.out q3 (by omega))
  clear q1 q2 q3 q4 q5
  go_wp2_with fail
  refine wp_loop_rounds 3 ?_
  rw [rounds_succ]
  go_wp2_with fail
  refine wp_loop_rounds 2 ?_
  rw [rounds_succ]
  go_wp2_with fail
  refine (sym_any g cap n X (by omega) (40 - 0) 0 20 40 τ3 w3 rfl (by omega) (by omega) (by omega) K3.out.1 K3.out.2.1 S3_0_20.out.run S3_20_40.out.run (S3_0_20.out.sep S3_20_40.out)).mono ?_
  rintro e w4 ⟨rfl, τ4, q1, q2, q3, q4, q5⟩
  have K4 := Lib.hid (And.intro q1 (And.intro (K3.out.2.1.smp q3 q4 (by omega)) (K3.out.2.2.trans q5)))
  have S4_0_40 := Lib.hid (Seg.merge (by omega) (by omega) S3_0_20.out S3_20_40.out q2 q3)
  have S4_40_n := Lib.hid (seg_keep S3_40_n.out q4 (by omega))
  clear q1 q2 q3 q4 q5
  go_wp2_with fail
  rw [rounds_succ]
  go_wp2_with fail
  rw [rounds_succ]
  go_wp2_with fail
  refine wp_loop_rounds 1 ?_
  rw [rounds_succ]
  go_wp2_with fail
  refine (sym_any g cap n X (by omega) (n - 0) 0 40 n τ4 w4 rfl (by omega) (by omega) (by omega) K4.out.1 K4.out.2.1 S4_0_40.out.run S4_40_n.out.run (S4_0_40.out.sep S4_40_n.out)).mono ?_
  rintro e w5 ⟨rfl, τ5, q1, q2, q3, q4, q5⟩
  have K5 := Lib.hid (And.intro q1 (And.intro (K4.out.2.1.smp q3 q4 (by omega)) (K4.out.2.2.trans q5)))
  have S5_0_n := Lib.hid (Seg.merge (by omega) (by omega) S4_0_40.out S4_40_n.out q2 q3)
  clear q1 q2 q3 q4 q5
  go_wp2_with fail
  rw [rounds_succ]
  go_wp2_with fail
  go_end0
  exact ⟨rfl, τ5, K5.out.1, S5_0_n.out, K5.out.2.2⟩
set_option maxRecDepth 20000 in
set_option maxHeartbeats 6400000 in
theorem stb_5 (g cap n : Nat) (X : Nat → Nat) (w : World) (hlo : 60 ≤ n) (hhi : n ≤ 60) (hrow : RowS w g cap n X (fun p => p)) (hfin : FinS n X (fun p => p)) :
    Calls Try.prog 77 #[.slice (some ⟨g, 0, none⟩) n cap, .int .i64 (n : Int), .func (.func 69) #[] #[]] w fun e w' => e = .returned (.tuple #[]) ∧ ∃ τ, RowS w' g cap n X τ ∧ Seg X τ 0 n ∧ Only g w w' := by
  have K0 := Lib.hid (And.intro hrow (And.intro hfin (Only.refl g w)))
  have J0 := Lib.hid (show ∀ p, 0 ≤ p → (fun p : Nat => p) p = p from fun _ _ => rfl)
  clear hrow hfin
  have ge20 : (20 : Int) ≤ (n : Int) := by omega
  have gt20 : (20 : Int) < (n : Int) := by omega
  have ge40 : (40 : Int) ≤ (n : Int) := by omega
  have gt40 : (40 : Int) < (n : Int) := by omega
  have ge60 : (60 : Int) ≤ (n : Int) := by omega
  have gt60 : ¬ (60 : Int) < (n : Int) := by omega
  have ge80 : ¬ (80 : Int) ≤ (n : Int) := by omega
  have gt80 : ¬ (80 : Int) < (n : Int) := by omega
  go_enter Try.func77, Try.ntmps77
  go_wp2_with fail
  refine wp_loop_rounds 4 ?_
  rw [rounds_succ]
  go_wp2_with fail
  refine (ins_any g cap n 0 20 X (fun p : Nat => p) w (by omega) (by omega) (by omega) K0.out.1 K0.out.2.1 (fun p h1 _ => rfl)).mono ?_
  rintro e w1 ⟨rfl, τ1, q1, q2, q3, q4, q5⟩
  have K1 := Lib.hid (And.intro q1 (And.intro q4 (K0.out.2.2.trans q5)))
  have J1 := Lib.hid (show ∀ p, 20 ≤ p → τ1 p = p from fun p hp => (q3 p (.inr hp)).trans rfl)
  have S1_0_20 := Lib.hid q2
  clear q1 q2 q3 q4 q5
  go_wp2_with fail
  rw [rounds_succ]
  go_wp2_with fail
  refine (ins_any g cap n 20 40 X τ1 w1 (by omega) (by omega) (by omega) K1.out.1 K1.out.2.1 (fun p h1 _ => J1.out p h1)).mono ?_
  rintro e w2 ⟨rfl, τ2, q1, q2, q3, q4, q5⟩
  have K2 := Lib.hid (And.intro q1 (And.intro q4 (K1.out.2.2.trans q5)))
  have J2 := Lib.hid (show ∀ p, 40 ≤ p → τ2 p = p from fun p hp => (q3 p (.inr hp)).trans (J1.out p (by omega)))
  have S2_20_40 := Lib.hid q2
  have S2_0_20 := Lib.hid (seg_keep S1_0_20.out q3 (by omega))
  clear q1 q2 q3 q4 q5
  go_wp2_with fail
  rw [rounds_succ]
  go_wp2_with fail
  refine (ins_any g cap n 40 60 X τ2 w2 (by omega) (by omega) (by omega) K2.out.1 K2.out.2.1 (fun p h1 _ => J2.out p h1)).mono ?_
  rintro e w3 ⟨rfl, τ3, q1, q2, q3, q4, q5⟩
  have K3 := Lib.hid (And.intro q1 (And.intro q4 (K2.out.2.2.trans q5)))
  have J3 := Lib.hid (show ∀ p, 60 ≤ p → τ3 p = p from fun p hp => (q3 p (.inr hp)).trans (J2.out p (by omega)))
  have S3_40_60 := Lib.hid q2
  have S3_20_40 := Lib.hid (seg_keep S2_20_40.out q3 (by omega))
  have S3_0_20 := Lib.hid (seg_keep S2_0_20.out q3 (by omega))
  clear q1 q2 q3 q4 q5
  go_wp2_with fail
  rw [rounds_succ]
  go_wp2_with fail
  refine (ins_any g cap n 60 n X τ3 w3 (by omega) (by omega) (by omega) K3.out.1 K3.out.2.1 (fun p h1 _ => J3.out p h1)).mono ?_
  rintro e w4 ⟨rfl, τ4, q1, q2, q3, q4, q5⟩
  have K4 := Lib.hid (And.intro q1 (And.intro q4 (K3.out.2.2.trans q5)))
  have J4 := Lib.hid (show ∀ p, n ≤ p → τ4 p = p from fun p hp => (q3 p (.inr hp)).trans (J3.out p (by omega)))
  have S4_60_n := Lib.hid q2
  have S4_40_60 := Lib.hid (seg_keep S3_40_60.out q3 (by omega))
  have S4_20_40 := Lib.hid (seg_keep S3_20_40.out q3 (by omega))
  have S4_0_20 := Lib.hid (seg_keep S3_0_20.out q3 (by omega))
  clear q1 q2 q3 q4 q5
  go_wp2_with fail
  refine wp_loop_rounds 3 ?_
  rw [rounds_succ]
  go_wp2_with fail
  refine wp_loop_rounds 2 ?_
  rw [rounds_succ]
  go_wp2_with fail
  refine (sym_any g cap n X (by omega) (40 - 0) 0 20 40 τ4 w4 rfl (by omega) (by omega) (by omega) K4.out.1 K4.out.2.1 S4_0_20.out.run S4_20_40.out.run (S4_0_20.out.sep S4_20_40.out)).mono ?_
  rintro e w5 ⟨rfl, τ5, q1, q2, q3, q4, q5⟩
  have K5 := Lib.hid (And.intro q1 (And.intro (K4.out.2.1.smp q3 q4 (by omega)) (K4.out.2.2.trans q5)))
  have S5_0_40 := Lib.hid (Seg.merge (by omega) (by omega) S4_0_20.out S4_20_40.out q2 q3)
  have S5_60_n := Lib.hid (seg_keep S4_60_n.out q4 (by omega))
  have S5_40_60 := Lib.hid (seg_keep S4_40_60.out q4 (by omega))
  clear q1 q2 q3 q4 q5
  go_wp2_with fail
  rw [rounds_succ]
  have S5_40_n := Lib.hid (show Seg X τ5 40 n from by rw [show n = 60 by omega]; exact S5_40_60.out)
  go_wp2_with fail
  rw [rounds_succ]
  go_wp2_with fail
  refine wp_loop_rounds 1 ?_
  rw [rounds_succ]
  go_wp2_with fail
  refine (sym_any g cap n X (by omega) (n - 0) 0 40 n τ5 w5 rfl (by omega) (by omega) (by omega) K5.out.1 K5.out.2.1 S5_0_40.out.run S5_40_n.out.run (S5_0_40.out.sep S5_40_n.out)).mono ?_
  rintro e w6 ⟨rfl, τ6, q1, q2, q3, q4, q5⟩
  have K6 := Lib.hid (And.intro q1 (And.intro (K5.out.2.1.smp q3 q4 (by omega)) (K5.out.2.2.trans q5)))
  have S6_0_n := Lib.hid (Seg.merge (by omega) (by omega) S5_0_40.out S5_40_n.out q2 q3)
  clear q1 q2 q3 q4 q5
  go_wp2_with fail
  rw [rounds_succ]
  go_wp2_with fail
  go_end0
  exact ⟨rfl, τ6, K6.out.1, S6_0_n.out, K6.out.2.2⟩
set_option maxRecDepth 20000 in
set_option maxHeartbeats 6400000 in
theorem stb_6 (g cap n : Nat) (X : Nat → Nat) (w : World) (hlo : 61 ≤ n) (hhi : n ≤ 64) (hrow : RowS w g cap n X (fun p => p)) (hfin : FinS n X (fun p => p)) :
    Calls Try.prog 77 #[.slice (some ⟨g, 0, none⟩) n cap, .int .i64 (n : Int), .func (.func 69) #[] #[]] w fun e w' => e = .returned (.tuple #[]) ∧ ∃ τ, RowS w' g cap n X τ ∧ Seg X τ 0 n ∧ Only g w w' := by
  have K0 := Lib.hid (And.intro hrow (And.intro hfin (Only.refl g w)))
  have J0 := Lib.hid (show ∀ p, 0 ≤ p → (fun p : Nat => p) p = p from fun _ _ => rfl)
  clear hrow hfin
  have ge20 : (20 : Int) ≤ (n : Int) := by omega
  have gt20 : (20 : Int) < (n : Int) := by omega
  have ge40 : (40 : Int) ≤ (n : Int) := by omega
  have gt40 : (40 : Int) < (n : Int) := by omega
  have ge60 : (60 : Int) ≤ (n : Int) := by omega
  have gt60 : (60 : Int) < (n : Int) := by omega
  have ge80 : ¬ (80 : Int) ≤ (n : Int) := by omega
  have gt80 : ¬ (80 : Int) < (n : Int) := by omega
  go_enter Try.func77, Try.ntmps77
  go_wp2_with fail
  refine wp_loop_rounds 4 ?_
  rw [rounds_succ]
  go_wp2_with fail
  refine (ins_any g cap n 0 20 X (fun p : Nat => p) w (by omega) (by omega) (by omega) K0.out.1 K0.out.2.1 (fun p h1 _ => rfl)).mono ?_
  rintro e w1 ⟨rfl, τ1, q1, q2, q3, q4, q5⟩
  have K1 := Lib.hid (And.intro q1 (And.intro q4 (K0.out.2.2.trans q5)))
  have J1 := Lib.hid (show ∀ p, 20 ≤ p → τ1 p = p from fun p hp => (q3 p (.inr hp)).trans rfl)
  have S1_0_20 := Lib.hid q2
  clear q1 q2 q3 q4 q5
  go_wp2_with fail
  rw [rounds_succ]
  go_wp2_with fail
  refine (ins_any g cap n 20 40 X τ1 w1 (by omega) (by omega) (by omega) K1.out.1 K1.out.2.1 (fun p h1 _ => J1.out p h1)).mono ?_
  rintro e w2 ⟨rfl, τ2, q1, q2, q3, q4, q5⟩
  have K2 := Lib.hid (And.intro q1 (And.intro q4 (K1.out.2.2.trans q5)))
  have J2 := Lib.hid (show ∀ p, 40 ≤ p → τ2 p = p from fun p hp => (q3 p (.inr hp)).trans (J1.out p (by omega)))
  have S2_20_40 := Lib.hid q2
  have S2_0_20 := Lib.hid (seg_keep S1_0_20.out q3 (by omega))
  clear q1 q2 q3 q4 q5
  go_wp2_with fail
  rw [rounds_succ]
  go_wp2_with fail
  refine (ins_any g cap n 40 60 X τ2 w2 (by omega) (by omega) (by omega) K2.out.1 K2.out.2.1 (fun p h1 _ => J2.out p h1)).mono ?_
  rintro e w3 ⟨rfl, τ3, q1, q2, q3, q4, q5⟩
  have K3 := Lib.hid (And.intro q1 (And.intro q4 (K2.out.2.2.trans q5)))
  have J3 := Lib.hid (show ∀ p, 60 ≤ p → τ3 p = p from fun p hp => (q3 p (.inr hp)).trans (J2.out p (by omega)))
  have S3_40_60 := Lib.hid q2
  have S3_20_40 := Lib.hid (seg_keep S2_20_40.out q3 (by omega))
  have S3_0_20 := Lib.hid (seg_keep S2_0_20.out q3 (by omega))
  clear q1 q2 q3 q4 q5
  go_wp2_with fail
  rw [rounds_succ]
  go_wp2_with fail
  refine (ins_any g cap n 60 n X τ3 w3 (by omega) (by omega) (by omega) K3.out.1 K3.out.2.1 (fun p h1 _ => J3.out p h1)).mono ?_
  rintro e w4 ⟨rfl, τ4, q1, q2, q3, q4, q5⟩
  have K4 := Lib.hid (And.intro q1 (And.intro q4 (K3.out.2.2.trans q5)))
  have J4 := Lib.hid (show ∀ p, n ≤ p → τ4 p = p from fun p hp => (q3 p (.inr hp)).trans (J3.out p (by omega)))
  have S4_60_n := Lib.hid q2
  have S4_40_60 := Lib.hid (seg_keep S3_40_60.out q3 (by omega))
  have S4_20_40 := Lib.hid (seg_keep S3_20_40.out q3 (by omega))
  have S4_0_20 := Lib.hid (seg_keep S3_0_20.out q3 (by omega))
  clear q1 q2 q3 q4 q5
  go_wp2_with fail
  refine wp_loop_rounds 3 ?_
  rw [rounds_succ]
  go_wp2_with fail
  refine wp_loop_rounds 2 ?_
  rw [rounds_succ]
  go_wp2_with fail
  refine (sym_any g cap n X (by omega) (40 - 0) 0 20 40 τ4 w4 rfl (by omega) (by omega) (by omega) K4.out.1 K4.out.2.1 S4_0_20.out.run S4_20_40.out.run (S4_0_20.out.sep S4_20_40.out)).mono ?_
  rintro e w5 ⟨rfl, τ5, q1, q2, q3, q4, q5⟩
  have K5 := Lib.hid (And.intro q1 (And.intro (K4.out.2.1.smp q3 q4 (by omega)) (K4.out.2.2.trans q5)))
  have S5_0_40 := Lib.hid (Seg.merge (by omega) (by omega) S4_0_20.out S4_20_40.out q2 q3)
  have S5_60_n := Lib.hid (seg_keep S4_60_n.out q4 (by omega))
  have S5_40_60 := Lib.hid (seg_keep S4_40_60.out q4 (by omega))
  clear q1 q2 q3 q4 q5
  go_wp2_with fail
  rw [rounds_succ]
  go_wp2_with fail
  refine (sym_any g cap n X (by omega) (n - 40) 40 60 n τ5 w5 rfl (by omega) (by omega) (by omega) K5.out.1 K5.out.2.1 S5_40_60.out.run S5_60_n.out.run (S5_40_60.out.sep S5_60_n.out)).mono ?_
  rintro e w6 ⟨rfl, τ6, q1, q2, q3, q4, q5⟩
  have K6 := Lib.hid (And.intro q1 (And.intro (K5.out.2.1.smp q3 q4 (by omega)) (K5.out.2.2.trans q5)))
  have S6_40_n := Lib.hid (Seg.merge (by omega) (by omega) S5_40_60.out S5_60_n.out q2 q3)
  have S6_0_40 := Lib.hid (seg_keep S5_0_40.out q4 (by omega))
  clear q1 q2 q3 q4 q5
  go_wp2_with fail
  rw [rounds_succ]
  go_wp2_with fail
  refine wp_loop_rounds 1 ?_
  rw [rounds_succ]
  go_wp2_with fail
  refine (sym_any g cap n X (by omega) (n - 0) 0 40 n τ6 w6 rfl (by omega) (by omega) (by omega) K6.out.1 K6.out.2.1 S6_0_40.out.run S6_40_n.out.run (S6_0_40.out.sep S6_40_n.out)).mono ?_
  rintro e w7 ⟨rfl, τ7, q1, q2, q3, q4, q5⟩
  have K7 := Lib.hid (And.intro q1 (And.intro (K6.out.2.1.smp q3 q4 (by omega)) (K6.out.2.2.trans q5)))
  have S7_0_n := Lib.hid (Seg.merge (by omega) (by omega) S6_0_40.out S6_40_n.out q2 q3)
  clear q1 q2 q3 q4 q5
  go_wp2_with fail
  rw [rounds_succ]
  go_wp2_with fail
  go_end0
  exact ⟨rfl, τ7, K7.out.1, S7_0_n.out, K7.out.2.2⟩
theorem stb_any (g cap n : Nat) (X : Nat → Nat) (w : World) (h1 : 1 ≤ n) (hn : n ≤ 64) (hrow : RowS w g cap n X (fun p => p)) (hfin : FinS n X (fun p => p)) :
    Calls Try.prog 77 #[.slice (some ⟨g, 0, none⟩) n cap, .int .i64 (n : Int), .func (.func 69) #[] #[]] w fun e w' => e = .returned (.tuple #[]) ∧ ∃ τ, RowS w' g cap n X τ ∧ Seg X τ 0 n ∧ Only g w w' := by
  by_cases c0 : n < 20
  · exact stb_0 g cap n X w h1 (by omega) hrow hfin
  by_cases c1 : n < 21
  · exact stb_1 g cap n X w (by omega) (by omega) hrow hfin
  by_cases c2 : n < 40
  · exact stb_2 g cap n X w (by omega) (by omega) hrow hfin
  by_cases c3 : n < 41
  · exact stb_3 g cap n X w (by omega) (by omega) hrow hfin
  by_cases c4 : n < 60
  · exact stb_4 g cap n X w (by omega) (by omega) hrow hfin
  by_cases c5 : n < 61
  · exact stb_5 g cap n X w (by omega) (by omega) hrow hfin
  exact stb_6 g cap n X w (by omega) hn hrow hfin
theorem sort_any (g cap n : Nat) (X : Nat → Nat) (w : World) (h1 : 1 ≤ n) (hn : n ≤ 64) (hrow : RowS w g cap n X (fun p => p)) (hfin : FinS n X (fun p => p)) :
    Calls Try.prog 68 #[.slice (some ⟨g, 0, none⟩) n cap, .func (.func 69) #[] #[]] w fun e w' => e = .returned (.tuple #[]) ∧ ∃ τ, RowS w' g cap n X τ ∧ Seg X τ 0 n ∧ Only g w w' := by
  have HC := Lib.hid (stb_any g cap n X w h1 hn hrow hfin)
  clear hrow hfin
  go_enter Try.func68, Try.ntmps68
  go_wp2_with fail
  refine HC.out.mono ?_
  rintro e w2 ⟨rfl, τ, q1, q2, q3⟩
  have H2 := Lib.hid (And.intro q1 (And.intro q2 q3))
  clear q1 q2 q3
  go_wp2_with fail
  go_end0
  exact ⟨rfl, τ, H2.out.1, H2.out.2.1, H2.out.2.2⟩
theorem clone_any (b off len cap : Nat) (X : Nat → Nat) (w : World) (h1 : 1 ≤ len) (hl : len ≤ 1048576) (h : LstF w (some ⟨b, off, none⟩) len X) :
    Calls Try.prog 67 #[.slice (some ⟨b, off, none⟩) len cap] w fun e w' => ∃ g cp, e = .returned (.slice (some ⟨g, 0, none⟩) len cp) ∧ OwnF w.heap.size w' (.slice (some ⟨g, 0, none⟩) len cp) len X ∧ Below w.heap.size w w' := by
  obtain ⟨b', off', ha, hlt, hc⟩ := LstF.cells h (by omega)
  cases ha
  have hba := (Below.refl w.heap.size w).alloc (Nat.le_refl _) (.cells #[] 30)
  have hc2 := hc.keep hlt hba
  obtain ⟨gC, cC, wC, krunC, hownC, hbelC⟩ := appF (base := w.heap.size) (w := w.alloc (.cells #[] 30)) (n := 0) (cap := 0) (m := len) (c := cap) (g := w.heap.size) (ad := ⟨b, off, none⟩) (Y := X) (litF w) (fun j hj => by rw [addr_add]; exact hc2 j hj) (by omega) (by rw [sz_alloc]; omega)
  rw [Nat.zero_add] at krunC hownC
  have H9 := Lib.hid (show OwnF w.heap.size wC (.slice (some ⟨gC, 0, none⟩) len cC) len X ∧ Below w.heap.size w wC from ⟨ownF_congr hownC (fun j hj => by rw [spl_eq, if_pos (by omega), Nat.sub_zero]), hba.trans hbelC⟩)
  clear hba hc2 hownC hbelC hc h
  have hnil : ∀ w : World, (binOp BinOp.eql 22 (.slice (some ⟨b, off, none⟩) len cap) (.slice none 0 0)).run Try.prog w = .ok (.bool false) w := fun w => rfl
  go_enter Try.func67, Try.ntmps67
  go_wp2_with (at_builtin; go_loud (refine wpList_append_run rfl (.tmp 5) (.tmp 6) _ rfl rfl rfl krunC ?_))
  go_ret
  exact ⟨gC, cC, rfl, H9.out.1, H9.out.2⟩
theorem row_of {base : Nat} {w : World} {g cp n : Nat} {X : Nat → Nat} (h : OwnF base w (.slice (some ⟨g, 0, none⟩) n cp) n X) : RowS w g cp n X (fun p => p) := by
  have hc := (ownF_cells h).2.2.2
  rcases h.2 with ⟨e, _⟩ | ⟨g', cap, cur, e, hb, hg, hh, hm, hs, ht⟩
  · cases e
  · cases e
    refine ⟨fun i => cur[i]?.getD undef, ⟨cur, hg, by omega, fun i hi => ?_⟩, hh, fun i hi => ?_⟩
    · show cur[i]? = some (cur[i]?.getD undef)
      rw [Array.getElem?_eq_getElem (show i < cur.size by omega)]; rfl
    · have := hc i hi
      rw [Nat.zero_add, cell_of_row _ g i _ _ _ hg] at this
      show cur[i]?.getD undef = .float .f32 (X i)
      rw [this]; rfl
set_option maxHeartbeats 400000 in
theorem middleOf_any (a : Option Addr) (len cap : Nat) (X : Nat → Nat) (w : World) (hg : meanB len X = true) (h : LstF w a len X) :
    Calls Try.prog 51 #[.slice a len cap] w fun e w' => e = .returned (.float .f32 (midN len X)) ∧ Below w.heap.size w w' := by
  obtain ⟨hq, h1⟩ := meanB_iff.1 hg
  obtain ⟨h64, hfin⟩ := good_iff.1 hq
  obtain ⟨b, off, ha, hlt, hc⟩ := LstF.cells h (by omega)
  subst ha
  have HC := Lib.hid (clone_any b off len cap X w h1 (by omega) h)
  have Hs := Lib.hid (show midN len X = srt X len ((len - 1) / 2) by unfold midN; rw [if_pos hg])
  have Hfin := Lib.hid hfin
  obtain ⟨k, hk⟩ : ∃ k, (len - 1) / 2 = k := ⟨_, rfl⟩
  rw [hk] at Hs
  have hkl : k < len := by omega
  have hkl' : (k : Int) < (len : Int) := by omega
  have hw1 : IntKind.i64.wrap ((len : Int) - 1) = (len : Int) - 1 := by rw [IntKind.wrap_i64]; omega
  have f1 : ((len : Int) - 1).tdiv 2 = (k : Int) := by rw [Int.tdiv_eq_ediv_of_nonneg (by omega)]; omega
  have hw2 : IntKind.i64.wrap (k : Int) = (k : Int) := by rw [IntKind.wrap_i64]; omega
  clear hg hk hc hfin hq h
  go_enter Try.func51, Try.ntmps51
  go_wp2_with fail
  refine HC.out.mono ?_
  rintro e w2 ⟨g, cp, rfl, hown, hbel⟩
  have HS := Lib.hid (sort_any g cp len X w2 h1 h64 (row_of hown) Hfin.out)
  have H2 := Lib.hid (And.intro hbel (ownF_cells hown).1)
  clear hown hbel
  go_wp2_with fail
  refine HS.out.mono ?_
  rintro e w3 ⟨rfl, τ, q1, q2, q3⟩
  have hc := q1.cell hkl
  rw [seg_srt Hfin.out q2 hkl] at hc
  have H3 := Lib.hid (H2.out.1.trans (q3.below H2.out.2 H2.out.1.size))
  clear q1 q2 q3
  go_wp2_with fail
  go_ret
  exact ⟨by rw [Hs.out]; rfl, H3.out⟩
theorem ent_mid : ∀ args w, (callFunc 51 args).run Try.prog w = .ok (.enter 51 args) w := ent _ _ _ Try.func51 (by kernel_rfl) rfl
theorem impl_middle (a : Option Addr) (len cap : Nat) (X : Nat → Nat) (w : World) (hl : len ≤ 1048576) (h : LstF w a len X) :
    Calls Try.prog 28 #[.slice a len cap] w fun e w' => e = .returned (.tuple #[.float .f32 (midN len X), .bool (meanB len X)]) ∧ Below w.heap.size w w' := by
  have HR := Lib.hid (reck_all_F _ ent_mid 1 (by omega) (midN len X) (meanB len X) a len cap X w hl h rfl (fun hq h1 h64 w1 hL => (middleOf_any a len cap X w1 (by unfold meanB; rw [hq, decide_eq_true h1]; rfl) hL).mono (by rintro e wX ⟨rfl, hw⟩; exact ⟨rfl, hw⟩)))
  have Hs := Lib.hid (show (if meanB len X = true then midN len X else 0) = midN len X by
    split
    · rfl
    · rename_i hb; unfold midN; rw [if_neg hb])
  rw [Hs.out] at HR
  clear h
  go_enter Try.func28, Try.ntmps28
  go_wp2_with fail
  refine HR.out.mono ?_
  rintro e w' ⟨rfl, hb⟩
  have Hb := Lib.hid hb
  clear hb
  go_wp2_with fail
  go_ret2
  exact ⟨rfl, Hb.out⟩
theorem midN_fin (n : Nat) (X : Nat → Nat) : finB (midN n X) = true := by
  unfold midN
  split
  · rename_i h
    obtain ⟨hq, h1⟩ := meanB_iff.1 h
    exact srt_fin (good_iff.1 hq).2 _ (by omega)
  · decide
theorem midN_wf {n : Nat} {X : Nat → Nat} (hw : WfF n X) : (Lit.float .f32 (midN n X)).wf = true := by
  unfold midN
  split
  · rename_i h
    obtain ⟨hq, h1⟩ := meanB_iff.1 h
    obtain ⟨i, hi, e⟩ := srt_mem X n ((n - 1) / 2) (by omega)
    rw [e]; exact hw i hi
  · rfl
theorem midN_mem (n : Nat) (X : Nat → Nat) (h : meanB n X = true) : ∃ i, i < n ∧ midN n X = X i := by
  obtain ⟨hq, h1⟩ := meanB_iff.1 h
  obtain ⟨i, hi, e⟩ := srt_mem X n ((n - 1) / 2) (by omega)
  exact ⟨i, hi, by unfold midN; rw [if_pos h]; exact e⟩
end Go.Proofs.Ytlbapogmcnpmeaa.Avg
