/- The program's stable sort, second part: two stretches exchanged, rotation. -/
import Derived.Test.YtlbapogmcnpmeaaSrtC
namespace Go.Proofs.Ytlbapogmcnpmeaa.Avg
open Go.ChangeShapes Go.WideShapes Go.ChangeAt Go.RowKit Go.Deep Go.Proofs.Ytlbapogmcnpmeaa Go.Proofs.Ytlbapogmcnpmeaa.Flt Go.Proofs.Ytlbapogmcnpmeaa.Mth Go.Proofs.Ytlbapogmcnpmeaa.Sgl
open Ieee (single double)
set_option linter.unusedVariables false
set_option linter.unusedSimpArgs false
set_option maxHeartbeats 3200000 in
theorem swr_any (g cap n p q L : Nat) (X σ : Nat → Nat) (F : Value) (w : World) (hpq : p + L ≤ q) (hqn : q + L ≤ n) (hn : n ≤ 64) (hrow : RowS w g cap n X σ) :
    Calls Try.prog 87 #[.slice (some ⟨g, 0, none⟩) n cap, .int .i64 (p : Int), .int .i64 (q : Int), .int .i64 (L : Int), F] w fun e w' => e = .returned (.tuple #[]) ∧ RowS w' g cap n X (swr σ p q L) ∧ Only g w w' := by
  have Hst := Lib.hid hrow
  have mixed := mixed_yes
  clear hrow
  go_enter Try.func87, Try.ntmps87
  go_wp2_with fail
  go_loopw [10] (fun iv wr => ∃ k : Nat, iv = .int .i64 (k : Int) ∧ k ≤ L ∧ Hid (RowS wr g cap n X (swr σ p q k) ∧ Only g w wr))
    (fun iv _ => L - (intOf iv).toNat)
  case atStart => exact ⟨0, rfl, Nat.zero_le _, Lib.hid ⟨by rw [swr_zero]; exact Hst.out, Only.refl _ _⟩⟩
  case round =>
    obtain ⟨k, rfl, hk, HI⟩ := hrel
    by_cases hlt : k < L
    · have hlt' : (k : Int) < (L : Int) := by omega
      obtain ⟨i1, h1⟩ : ∃ i, p + k = i := ⟨_, rfl⟩
      obtain ⟨i2, h2⟩ : ∃ i, q + k = i := ⟨_, rfl⟩
      have hw1 : IntKind.i64.wrap ((p : Int) + (k : Int)) = (i1 : Int) := by rw [IntKind.wrap_i64]; omega
      have hw2 : IntKind.i64.wrap ((q : Int) + (k : Int)) = (i2 : Int) := by rw [IntKind.wrap_i64]; omega
      have b1 : (i1 : Int) < (n : Int) := by omega
      have b2 : (i2 : Int) < (n : Int) := by omega
      obtain ⟨r1, r2⟩ := HI.out
      have c1 := r1.cell (i := i1) (by omega)
      have c2 := r1.cell (i := i2) (by omega)
      have f1 := r1.frozen i1
      have f2 := r1.frozen i2
      have c3 := r1.second (i := i1) (j := i2) (by omega) (by omega) (.float .f32 (X (swr σ p q k i2)))
      have S := r1.swap (i := i1) (j := i2) (by omega) (by omega) (by omega)
      have hst : swp (swr σ p q k) i1 i2 = swr σ p q (k + 1) := by rw [← h1, ← h2]; exact swr_step σ (by omega)
      rw [hst] at S
      obtain ⟨x, hx⟩ : ∃ x, X (swr σ p q k i1) = x := ⟨_, rfl⟩
      obtain ⟨y, hy⟩ : ∃ y, X (swr σ p q k i2) = y := ⟨_, rfl⟩
      rw [hx] at c1 S
      rw [hy] at c2 c3 S
      have HS := Lib.hid (show RowS (((wr.setCell ⟨g, i1, none⟩ (.float .f32 y)).setCell ⟨g, i2, none⟩ (.float .f32 x)).drew) g cap n X (swr σ p q (k + 1)) ∧ Only g w (((wr.setCell ⟨g, i1, none⟩ (.float .f32 y)).setCell ⟨g, i2, none⟩ (.float .f32 x)).drew) from ⟨S.drew, ((r2.setCell i1 _).setCell i2 _).drewN 1⟩)
      clear S r1 r2 HI hx hy hst h1 h2
      go_wp2_with fail
      go_big_region_o
      clear c1 c2 c3 f1 f2
      generalize ((wr.setCell ⟨g, i1, none⟩ (.float .f32 y)).setCell ⟨g, i2, none⟩ (.float .f32 x)).drew = w4 at HS ⊢
      go_wp2_with fail
      go_roundw
      case rel => exact ⟨k + 1, by go_num, by omega, HS⟩
      case measure => simp [intOf]; omega
    · obtain rfl : k = L := by omega
      go_wp2_with fail
      go_end0
      exact ⟨rfl, HI.out.1, HI.out.2⟩
set_option maxHeartbeats 3200000 in
theorem rot_any (g cap n a m b : Nat) (X σ : Nat → Nat) (F : Value) (w : World) (ham : a < m) (hmb : m < b) (hbn : b ≤ n) (hn : n ≤ 64) (hrow : RowS w g cap n X σ) :
    Calls Try.prog 86 #[.slice (some ⟨g, 0, none⟩) n cap, .int .i64 (a : Int), .int .i64 (m : Int), .int .i64 (b : Int), F] w fun e w' => e = .returned (.tuple #[]) ∧ RowS w' g cap n X (rtt σ a m b) ∧ Only g w w' := by
  have Hst := Lib.hid hrow
  clear hrow
  have hw1 : IntKind.i64.wrap ((m : Int) - (a : Int)) = ((m - a : Nat) : Int) := by rw [IntKind.wrap_i64]; omega
  have hw2 : IntKind.i64.wrap ((b : Int) - (m : Int)) = ((b - m : Nat) : Int) := by rw [IntKind.wrap_i64]; omega
  go_enter Try.func86, Try.ntmps86
  go_wp2_with fail
  go_loopw [10, 11] (fun iv jv wr => ∃ (i j : Nat) (τ : Nat → Nat), iv = .int .i64 (i : Int) ∧ jv = .int .i64 (j : Int) ∧ 1 ≤ i ∧ 1 ≤ j ∧ a + i ≤ m ∧ m + j ≤ b ∧ Hid (RowS wr g cap n X τ ∧ Rot (rtt σ a m b) τ a m b i j ∧ Only g w wr))
    (fun iv jv _ => (intOf iv).toNat + (intOf jv).toNat)
  case atStart => exact ⟨m - a, b - m, σ, by first | rfl | go_num, by first | rfl | go_num, by omega, by omega, by omega, by omega, Lib.hid ⟨Hst.out, Rot.start σ (by omega) (by omega), Only.refl _ _⟩⟩
  case round =>
    obtain ⟨i, j, τ, rfl, rfl, hi, hj, hia, hjb, HI⟩ := hrel
    clear hw1 hw2
    have hw3 : IntKind.i64.wrap ((m : Int) - (i : Int)) = ((m - i : Nat) : Int) := by rw [IntKind.wrap_i64]; omega
    rcases Nat.lt_trichotomy i j with c | c | c
    · have e1 : ¬ ((i : Int) = (j : Int)) := by omega
      have e2 : ¬ ((j : Int) < (i : Int)) := by omega
      have hw4 : IntKind.i64.wrap ((m : Int) + (j : Int)) = ((m + j : Nat) : Int) := by rw [IntKind.wrap_i64]; omega
      have hw5 : IntKind.i64.wrap (((m + j : Nat) : Int) - (i : Int)) = ((m + j - i : Nat) : Int) := by rw [IntKind.wrap_i64]; omega
      have hw6 : IntKind.i64.wrap ((j : Int) - (i : Int)) = ((j - i : Nat) : Int) := by rw [IntKind.wrap_i64]; omega
      obtain ⟨m1, hm1⟩ : ∃ x, m - i = x := ⟨_, rfl⟩
      obtain ⟨m2, hm2⟩ : ∃ x, m + j - i = x := ⟨_, rfl⟩
      obtain ⟨m3, hm3⟩ : ∃ x, m + j = x := ⟨_, rfl⟩
      obtain ⟨m4, hm4⟩ : ∃ x, j - i = x := ⟨_, rfl⟩
      rw [hm1] at hw3
      rw [hm3] at hw4
      rw [hm3, ← hm3, hm2, hm3] at hw5
      rw [hm4] at hw6
      have HS := Lib.hid (swr_any g cap n m1 m2 i X τ F wr (by omega) (by omega) hn HI.out.1)
      have HR := Lib.hid (show Rot (rtt σ a m b) (swr τ m1 m2 i) a m b i m4 from by rw [← hm1, ← hm2, ← hm4]; exact HI.out.2.1.right (by omega) c)
      have HB := Lib.hid (show 1 ≤ m4 ∧ m + m4 ≤ b ∧ m4 < j from by omega)
      have HO := Lib.hid HI.out.2.2
      clear HI hm1 hm2 hm3 hm4
      go_wp2_with fail
      refine HS.out.mono ?_
      rintro e w2 ⟨rfl, h1, h2⟩
      have H2 := Lib.hid (And.intro h1 (And.intro HR.out (HO.out.trans h2)))
      clear h1 h2
      go_wp2_with fail
      go_roundw
      case rel => exact ⟨i, m4, _, by first | rfl | go_num, by first | rfl | go_num, hi, HB.out.1, hia, HB.out.2.1, H2⟩
      case measure => have := HB.out.2.2; simp [intOf]; omega
    · subst c
      have HS := Lib.hid (swr_any g cap n (m - i) m i X τ F wr (by omega) (by omega) hn HI.out.1)
      have HR := HI.out.2.1.last (by omega)
      rw [HR] at HS
      have HO := Lib.hid HI.out.2.2
      clear HI HR
      obtain ⟨m1, hm1⟩ : ∃ x, m - i = x := ⟨_, rfl⟩
      rw [hm1] at hw3 HS
      clear hm1
      go_wp2_with fail
      refine HS.out.mono ?_
      rintro e w2 ⟨rfl, h1, h2⟩
      have H2 := Lib.hid (And.intro h1 (HO.out.trans h2))
      clear h1 h2
      go_wp2_with fail
      go_end0
      exact ⟨rfl, H2.out.1, H2.out.2⟩
    · have e1 : ¬ ((i : Int) = (j : Int)) := by omega
      have e2 : (j : Int) < (i : Int) := by omega
      have hw6 : IntKind.i64.wrap ((i : Int) - (j : Int)) = ((i - j : Nat) : Int) := by rw [IntKind.wrap_i64]; omega
      obtain ⟨m1, hm1⟩ : ∃ x, m - i = x := ⟨_, rfl⟩
      obtain ⟨m4, hm4⟩ : ∃ x, i - j = x := ⟨_, rfl⟩
      rw [hm1] at hw3
      rw [hm4] at hw6
      have HS := Lib.hid (swr_any g cap n m1 m j X τ F wr (by omega) (by omega) hn HI.out.1)
      have HR := Lib.hid (show Rot (rtt σ a m b) (swr τ m1 m j) a m b m4 j from by rw [← hm1, ← hm4]; exact HI.out.2.1.left (by omega) c)
      have HB := Lib.hid (show 1 ≤ m4 ∧ a + m4 ≤ m ∧ m4 < i from by omega)
      have HO := Lib.hid HI.out.2.2
      clear HI hm1 hm4
      go_wp2_with fail
      refine HS.out.mono ?_
      rintro e w2 ⟨rfl, h1, h2⟩
      have H2 := Lib.hid (And.intro h1 (And.intro HR.out (HO.out.trans h2)))
      clear h1 h2
      go_wp2_with fail
      go_roundw
      case rel => exact ⟨m4, j, _, by first | rfl | go_num, by first | rfl | go_num, HB.out.1, hj, HB.out.2.1, hjb, H2⟩
      case measure => have := HB.out.2.2; simp [intOf]; omega
end Go.Proofs.Ytlbapogmcnpmeaa.Avg
