/- Plain facts: quotients and products of any two finite words, by rungs. No program stands here. -/
import Derived.Test.YtkjjeccgmeiniaaFltF
namespace Go.Proofs.Ytkjjeccgmeiniaa.Flt
open Ieee

theorem rne_cmp {N D N' D' : Nat} (hD : 0 < D) (hD' : 0 < D') (h1 : ∀ k, k * D ≤ 2 * N ↔ k * D' ≤ 2 * N') (h2 : ∀ k, 2 * N ≤ k * D ↔ 2 * N' ≤ k * D') : rne N D = rne N' D' := by
  have e : N / D = N' / D' := by
    apply Nat.le_antisymm
    · rw [Nat.le_div_iff_mul_le hD']
      have := (h1 (2 * (N / D))).1 (by rw [Nat.mul_assoc]; exact Nat.mul_le_mul_left 2 (Nat.div_mul_le_self N D))
      rw [Nat.mul_assoc] at this
      omega
    · rw [Nat.le_div_iff_mul_le hD]
      have := (h1 (2 * (N' / D'))).2 (by rw [Nat.mul_assoc]; exact Nat.mul_le_mul_left 2 (Nat.div_mul_le_self N' D'))
      rw [Nat.mul_assoc] at this
      omega
  have a1 := h1 (2 * (N / D) + 1)
  have a2 := h2 (2 * (N / D) + 1)
  have b1 := Nat.div_add_mod N D
  have b2 := Nat.div_add_mod N' D'
  rw [← e] at b2
  rw [Nat.add_mul, Nat.add_mul, Nat.mul_assoc, Nat.mul_assoc, Nat.mul_comm (N / D) D, Nat.mul_comm (N / D) D', Nat.one_mul, Nat.one_mul] at a1 a2
  have c1 : D < 2 * (N % D) ↔ D' < 2 * (N' % D') := by
    constructor
    · intro h; have := a2; omega
    · intro h; have := a2; omega
  have c2 : D = 2 * (N % D) ↔ D' = 2 * (N' % D') := by
    constructor
    · intro h; have := a2; have := a1; omega
    · intro h; have := a2; have := a1; omega
  unfold rne
  rw [e, decide_eq_decide.2 c1]
  have c3 : (D == 2 * (N % D)) = (D' == 2 * (N' % D')) := by
    rw [Bool.eq_iff_iff, beq_iff_eq, beq_iff_eq]; exact c2
  rw [c3]

theorem sticky_ge {X n : Nat} (hn : 0 < n) (k : Nat) : k * n ≤ X ↔ 2 * k ≤ 2 * (X / n) + (X % n != 0).toNat := by
  rw [← Nat.le_div_iff_mul_le hn]
  have : (X % n != 0).toNat ≤ 1 := by cases (X % n != 0) <;> simp
  omega
theorem sticky_le {X n : Nat} (hn : 0 < n) (k : Nat) : X ≤ k * n ↔ 2 * (X / n) + (X % n != 0).toNat ≤ 2 * k := by
  have hd := Nat.div_add_mod X n
  by_cases h : X % n = 0
  · rw [h]
    simp only [bne_self_eq_false, Bool.toNat_false, Nat.add_zero]
    rw [h, Nat.add_zero] at hd
    constructor
    · intro hx
      have : X / n ≤ k := by
        rw [← hd, Nat.mul_comm k n] at hx
        exact Nat.le_of_mul_le_mul_left hx hn
      omega
    · intro hx
      rw [← hd, Nat.mul_comm k n]
      exact Nat.mul_le_mul_left n (by omega)
  · have hs : (X % n != 0).toNat = 1 := by simp [bne, h]
    rw [hs]
    have h1 : X / n < k ↔ X < k * n := Nat.div_lt_iff_lt_mul hn
    constructor
    · intro hx
      have : X ≠ k * n := fun e => h (by rw [e]; exact Nat.mul_mod_left k n)
      have := h1.2 (by omega)
      omega
    · intro hx
      have := h1.1 (by omega)
      omega
def stk (X n : Nat) : Nat := 2 * (X / n) + (X % n != 0).toNat
theorem unit_ge {X n : Nat} (hn : 0 < n) (k g d : Nat) : k * 2 ^ (g + d) * n ≤ X * 2 ^ g ↔ 2 * (k * 2 ^ (g + d)) ≤ stk X n * 2 ^ g := by
  have h := sticky_ge (X := X) hn (k * 2 ^ d)
  have e1 : k * 2 ^ (g + d) * n = k * 2 ^ d * n * 2 ^ g := by rw [Nat.pow_add]; ac_rfl
  have e2 : 2 * (k * 2 ^ (g + d)) = 2 * (k * 2 ^ d) * 2 ^ g := by rw [Nat.pow_add]; ac_rfl
  rw [e1, e2, Nat.mul_le_mul_right_iff (Nat.two_pow_pos g), Nat.mul_le_mul_right_iff (Nat.two_pow_pos g)]
  exact h
theorem unit_le {X n : Nat} (hn : 0 < n) (k g d : Nat) : X * 2 ^ g ≤ k * 2 ^ (g + d) * n ↔ stk X n * 2 ^ g ≤ 2 * (k * 2 ^ (g + d)) := by
  have h := sticky_le (X := X) hn (k * 2 ^ d)
  have e1 : k * 2 ^ (g + d) * n = k * 2 ^ d * n * 2 ^ g := by rw [Nat.pow_add]; ac_rfl
  have e2 : 2 * (k * 2 ^ (g + d)) = 2 * (k * 2 ^ d) * 2 ^ g := by rw [Nat.pow_add]; ac_rfl
  rw [e1, e2, Nat.mul_le_mul_right_iff (Nat.two_pow_pos g), Nat.mul_le_mul_right_iff (Nat.two_pow_pos g)]
  exact h
theorem log2_cmp {A B : Nat} (h : ∀ p, 2 ^ p ≤ A ↔ 2 ^ p ≤ B) : A.log2 = B.log2 := by
  have h0 := h 0
  by_cases ha : A = 0
  · have : B = 0 := by simp at h0; omega
    rw [ha, this]
  · have hb : B ≠ 0 := by simp at h0; omega
    apply Nat.le_antisymm
    · exact (Nat.le_log2 hb).2 ((h _).1 (Nat.log2_self_le ha))
    · exact (Nat.le_log2 ha).2 ((h _).2 (Nat.log2_self_le hb))
theorem stk_ge {X n : Nat} {c : Nat} (h : c ≤ X / n) : 2 * c ≤ stk X n := by unfold stk; omega
theorem ex_sticky (f : Format) {X n g h : Nat} (hn : 0 < n) (hq : 2 ^ (f.fractionBits + 1) ≤ X / n) : ex f (X * 2 ^ g) (n * 2 ^ h) = ex f (stk X n * 2 ^ g) (2 ^ (h + 1)) := by
  unfold ex
  congr 1
  refine log2_cmp fun p => ?_
  rw [Nat.le_div_iff_mul_le (Nat.mul_pos hn (Nat.two_pow_pos h)), Nat.le_div_iff_mul_le (Nat.two_pow_pos _)]
  have hX : n ≤ X := by
    have : 1 ≤ X / n := Nat.le_trans (Nat.two_pow_pos _) hq
    rw [Nat.le_div_iff_mul_le hn] at this; omega
  by_cases hg : g ≤ p + h
  · obtain ⟨d, hd⟩ : ∃ d, p + h = g + d := ⟨p + h - g, by omega⟩
    have := unit_ge (X := X) hn 1 g d
    rw [Nat.one_mul, ← hd] at this
    rw [show 2 ^ p * (n * 2 ^ h) = 2 ^ (p + h) * n by rw [Nat.pow_add]; ac_rfl, show 2 ^ p * 2 ^ (h + 1) = 2 * 2 ^ (p + h) by rw [Nat.pow_succ, Nat.pow_add]; ac_rfl]
    exact this
  · have e1 : 2 ^ p * (n * 2 ^ h) ≤ X * 2 ^ g := by
      rw [show 2 ^ p * (n * 2 ^ h) = n * 2 ^ (p + h) by rw [Nat.pow_add]; ac_rfl]
      exact Nat.mul_le_mul hX (Nat.pow_le_pow_right (by omega) (by omega))
    have e2 : 2 ^ p * 2 ^ (h + 1) ≤ stk X n * 2 ^ g := by
      rw [show 2 ^ p * 2 ^ (h + 1) = 2 * 2 ^ (p + h) by rw [Nat.pow_succ, Nat.pow_add]; ac_rfl]
      exact Nat.mul_le_mul (by have := stk_ge (X := X) (n := n) (c := 1) (Nat.le_trans (Nat.two_pow_pos _) hq); omega) (Nat.pow_le_pow_right (by omega) (by omega))
    exact ⟨fun _ => e2, fun _ => e1⟩
theorem ex_room (f : Format) {S g h : Nat} (hS : 2 ^ (f.fractionBits + 2) ≤ S) : g + 1 ≤ h + ex f (S * 2 ^ g) (2 ^ (h + 1)) := by
  by_cases hg : g < h
  · omega
  · obtain ⟨d, rfl⟩ : ∃ d, g = h + d := ⟨g - h, by omega⟩
    have h1 : 2 ^ (f.fractionBits + 1 + d) ≤ S * 2 ^ (h + d) / 2 ^ (h + 1) := by
      rw [Nat.le_div_iff_mul_le (Nat.two_pow_pos _), ← Nat.pow_add]
      refine Nat.le_trans ?_ (Nat.mul_le_mul_right _ hS)
      rw [← Nat.pow_add]
      exact Nat.pow_le_pow_right (by omega) (by omega)
    have h2 := (Nat.le_log2 (by have := Nat.two_pow_pos (f.fractionBits + 1 + d); omega)).2 h1
    unfold ex
    omega
theorem rr_sticky (f : Format) {X n g h : Nat} (hn : 0 < n) (hq : 2 ^ (f.fractionBits + 1) ≤ X / n) : rr f (X * 2 ^ g) (n * 2 ^ h) = rr f (stk X n * 2 ^ g) (2 ^ (h + 1)) := by
  have he := ex_sticky f (g := g) (h := h) hn hq
  have hr := ex_room f (g := g) (h := h) (S := stk X n) (by have := stk_ge hq; rw [Nat.pow_succ]; omega)
  unfold rr
  rw [he]
  generalize ex f (stk X n * 2 ^ g) (2 ^ (h + 1)) = E at *
  congr 1
  obtain ⟨d, hd⟩ : ∃ d, h + E = g + d + 1 := ⟨h + E - g - 1, by omega⟩
  have e1 : ∀ k, k * (n * 2 ^ h * 2 ^ E) = 2 * (k * 2 ^ (g + d) * n) := fun k => by
    rw [show k * (n * 2 ^ h * 2 ^ E) = k * n * 2 ^ (h + E) by rw [Nat.pow_add]; ac_rfl, hd, Nat.pow_succ]; ac_rfl
  have e2 : ∀ k, k * (2 ^ (h + 1) * 2 ^ E) = 2 * (2 * (k * 2 ^ (g + d))) := fun k => by
    rw [show k * (2 ^ (h + 1) * 2 ^ E) = 2 * (k * 2 ^ (h + E)) by rw [Nat.pow_succ, Nat.pow_add]; ac_rfl, hd, Nat.pow_succ]; ac_rfl
  refine rne_cmp (Nat.mul_pos (Nat.mul_pos hn (Nat.two_pow_pos _)) (Nat.two_pow_pos _)) (Nat.mul_pos (Nat.two_pow_pos _) (Nat.two_pow_pos _)) (fun k => ?_) (fun k => ?_)
  · rw [e1, e2]
    have := unit_ge (X := X) hn k g d
    omega
  · rw [e1, e2]
    have := unit_le (X := X) hn k g d
    omega
/-- the units of the least place in 1 -/
def lam (f : Format) : Nat := (-f.leastPlace).toNat
def quoRung (f : Format) (r s : Nat) : Nat := min (rr f (mg f r * 2 ^ lam f) (mg f s)) f.infRung
def mulRung (f : Format) (r s : Nat) : Nat := min (rr f (mg f r * mg f s) (2 ^ lam f)) f.infRung
theorem pow2_mul (c u v : Nat) : c * 2 ^ u * 2 ^ v = c * 2 ^ (u + v) := by rw [Nat.mul_assoc, ← Nat.pow_add]
theorem rr_zero (f : Format) {D : Nat} (hD : 0 < D) : rr f 0 D = 0 := rr_exact f 0 hD (by rw [mg_zero]; simp)
theorem div_rr (f : Format) (hL : f.leastPlace ≤ 0) {x y : Nat} (hx : rung f x < f.infRung) (hy : rung f y < f.infRung) (h0 : rung f y ≠ 0) :
    f.div x y = some (f.word (sgn f x ^^ sgn f y) (quoRung f (rung f x) (rung f y))) := by
  have hn : 0 < mg f (rung f y) := Nat.pos_of_ne_zero fun e => h0 ((mg_eq_zero f).1 e)
  have mx := mg_ss f (rung f x)
  have my := mg_ss f (rung f y)
  unfold Format.div quoRung
  rw [reads_fin f hx, reads_fin f hy]
  rw [mx, my]
  rw [my] at hn
  clear mx my h0
  generalize ss f (rung f x) = m at *
  generalize ss f (rung f y) = n at *
  generalize qq f (rung f x) = a at *
  generalize qq f (rung f y) = b at *
  have hn0 : 0 < n := by
    rcases Nat.eq_zero_or_pos n with e | e
    · subst e; simp at hn
    · exact e
  unfold Datum.quotient
  simp only
  rw [if_neg (by omega)]
  rw [Option.map_some, Option.some.injEq]
  generalize (sgn f x ^^ sgn f y) = s
  show f.nearest s (stk (m <<< (f.fractionBits + 2 + n.log2 - m.log2)) n) _ = _
  by_cases hm : m = 0
  · subst hm
    rw [Nat.zero_shiftLeft, show stk 0 n = 0 by unfold stk; simp, Nat.zero_mul, Nat.zero_mul, rr_zero f hn]
    unfold Format.nearest
    rw [if_pos rfl, Nat.zero_min]
  · rw [Nat.shiftLeft_eq]
    have hmore : m.log2 + (f.fractionBits + 2 + n.log2 - m.log2) ≥ f.fractionBits + 2 + n.log2 := by omega
    generalize f.fractionBits + 2 + n.log2 - m.log2 = more at *
    have hq : 2 ^ (f.fractionBits + 1) ≤ m * 2 ^ more / n := by
      rw [Nat.le_div_iff_mul_le hn0]
      have h1 : n < 2 ^ (n.log2 + 1) := Nat.lt_log2_self
      have h2 : 2 ^ m.log2 ≤ m := Nat.log2_self_le hm
      calc 2 ^ (f.fractionBits + 1) * n ≤ 2 ^ (f.fractionBits + 1) * 2 ^ (n.log2 + 1) := Nat.mul_le_mul_left _ (by omega)
        _ = 2 ^ (f.fractionBits + 2 + n.log2) := by rw [← Nat.pow_add]; congr 1; omega
        _ ≤ 2 ^ (m.log2 + more) := Nat.pow_le_pow_right (by omega) hmore
        _ = 2 ^ m.log2 * 2 ^ more := Nat.pow_add ..
        _ ≤ m * 2 ^ more := Nat.mul_le_mul_right _ h2
    have hst := rr_sticky f (g := a + lam f) (h := b + more) hn0 hq
    rw [nearest_rr]
    congr 2
    have c1 : rr f (m * 2 ^ a * 2 ^ lam f) (n * 2 ^ b) = rr f (m * 2 ^ more * 2 ^ (a + lam f)) (n * 2 ^ (b + more)) := by
      refine rr_congr f hn (Nat.mul_pos hn0 (Nat.two_pow_pos _)) ?_
      rw [Nat.pow_add, Nat.pow_add]; ac_rfl
    rw [c1, hst]
    refine rr_congr f (Nat.two_pow_pos _) (Nat.two_pow_pos _) ?_
    rw [pow2_mul, pow2_mul]
    congr 2
    unfold lam
    omega
theorem mul_rr (f : Format) (hL : f.leastPlace ≤ 0) {x y : Nat} (hx : rung f x < f.infRung) (hy : rung f y < f.infRung) :
    f.mul x y = some (f.word (sgn f x ^^ sgn f y) (mulRung f (rung f x) (rung f y))) := by
  have mx := mg_ss f (rung f x)
  have my := mg_ss f (rung f y)
  unfold Format.mul mulRung
  rw [reads_fin f hx, reads_fin f hy]
  rw [mx, my]
  clear mx my
  generalize ss f (rung f x) = m at *
  generalize ss f (rung f y) = n at *
  generalize qq f (rung f x) = a at *
  generalize qq f (rung f y) = b at *
  rw [product_num, Option.map_some, write_num, nearest_rr]
  congr 3
  refine rr_congr f (Nat.two_pow_pos _) (Nat.two_pow_pos _) ?_
  rw [show m * 2 ^ a * (n * 2 ^ b) = m * n * 2 ^ (a + b) by rw [Nat.pow_add]; ac_rfl, pow2_mul, pow2_mul]
  congr 2
  unfold lam
  omega
end Go.Proofs.Ytkjjeccgmeiniaa.Flt
