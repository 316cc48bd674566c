/- Plain facts: how far a sum that is rounded at each step lies from the exact one; the sum in order and the sum by halves. No program stands here. -/
import Derived.Test.YtkjjeccgmeiniaaAvgP
import Derived.Test.YtkjjeccgmeiniaaFltT
namespace Go.Proofs.Ytkjjeccgmeiniaa.Flt
open Ieee Go.RowKit
set_option linter.unusedVariables false
theorem frac_double : 2 ^ double.fractionBits = 4503599627370496 := by decide
/-- the error of one rounding -/
theorem rnd_err {z : Int} (h : rgD z.natAbs < double.infRung) : 9007199254740992 * (rndD z - z).natAbs ≤ z.natAbs + 4503599627370496 := by
  have h1 := rr_hi double (N := z.natAbs) (D := 1) (by omega)
  have h2 := rr_lo double (N := z.natAbs) (D := 1) (by omega)
  rw [frac_double, Nat.mul_one, Nat.mul_one] at h1 h2
  have e : rr double z.natAbs 1 = rgD z.natAbs := by
    unfold rgD at h ⊢
    omega
  rw [e] at h1 h2
  rw [rnd_eqD]
  generalize mg double (rgD z.natAbs) = m at *
  split <;> omega
/-- a sum that was reached by k roundings: 'p' exactly, of amounts that come to 's' -/
structure Er (B : Nat) (k a : Nat) (p : Int) (am : Nat) : Prop where
  e : 4503599627370496 * (sv double a - p).natAbs ≤ k * B
  s : p.natAbs ≤ am
  b : am + 4503599627370496 ≤ B
theorem Er.add {B k j a b r : Nat} {p q : Int} {s t : Nat} (h : Er B k a p s) (g : Er B j b q t) (hst : s + t + 4503599627370496 ≤ B) (hk : k + j ≤ 1000) (hr : sv double r = rndD (sv double a + sv double b)) (hf : rgD (sv double a + sv double b).natAbs < double.infRung) : Er B (k + j + 1) r (p + q) (s + t) := by
  obtain ⟨e1, s1, b1⟩ := h
  obtain ⟨e2, s2, b2⟩ := g
  have h3 := rnd_err hf
  refine ⟨?_, by omega, hst⟩
  rw [hr]
  clear hr
  generalize sv double a = u at *
  generalize sv double b = v at *
  generalize rndD (u + v) = w at *
  have m1 : k * B + j * B ≤ 1000 * B := by
    rw [← Nat.add_mul]; exact Nat.mul_le_mul_right _ hk
  have m2 : (k + j + 1) * B = k * B + j * B + B := by rw [Nat.add_mul, Nat.add_mul, Nat.one_mul]
  rw [m2]
  generalize k * B = kb at *
  generalize j * B = jb at *
  omega
theorem Er.mono {B k j a : Nat} {p : Int} {s : Nat} (h : Er B k a p s) (hk : k ≤ j) : Er B j a p s := ⟨Nat.le_trans h.e (Nat.mul_le_mul_right _ hk), h.s, h.b⟩
theorem Er.leaf {B x : Nat} (h : (vW x).natAbs + 4503599627370496 ≤ B) : Er B 0 (widen x) (vW x) (vW x).natAbs := ⟨by unfold vW; simp, Nat.le_refl _, h⟩
theorem Er.zero {B : Nat} (h : 4503599627370496 ≤ B) : Er B 0 0 0 0 := ⟨by rw [show sv double 0 = 0 from (sv_eq_zero double).2 (by decide)]; simp, by simp, by omega⟩
/-- the exact sum, and the sum of the amounts -/
def exS (xs : List Nat) : Int := (xs.map vW).sum
def amS (xs : List Nat) : Nat := (xs.map fun x => (vW x).natAbs).sum
theorem amS_app (xs ys : List Nat) : amS (xs ++ ys) = amS xs + amS ys := by unfold amS; simp
theorem exS_app (xs ys : List Nat) : exS (xs ++ ys) = exS xs + exS ys := by unfold exS; simp
/-- the sum by halves -/
def halF : Nat → List Nat → Nat
  | 0, _ => 0
  | f + 1, xs => if xs.length = 0 then 0 else if xs.length = 1 then widen (xs.getD 0 0) else addW (halF f (xs.take (xs.length / 2))) (halF f (xs.drop (xs.length / 2)))
theorem Bd.add {lo hi k j a b : Nat} (hlo : fnS lo = true) (hhi : fnS hi = true) (h : Bd lo hi k a) (g : Bd lo hi j b) (hk : k + j ≤ 30000) :
    floatBits .add .f64 a b = some (addW a b) ∧ Bd lo hi (k + j) (addW a b) ∧ sv double (addW a b) = rndD (sv double a + sv double b) ∧ rgD (sv double a + sv double b).natAbs < double.infRung := by
  obtain ⟨r, e1, e2, e3, e4, e5⟩ := add_valD h.f g.f
  have hr : addW a b = r := by unfold addW; rw [e1]; rfl
  rw [hr]
  have m1 : ((k + j : Nat) : Int) * vW lo = (k : Int) * vW lo + (j : Int) * vW lo := by rw [Int.natCast_add, Int.add_mul]
  have m2 : ((k + j : Nat) : Int) * vW hi = (k : Int) * vW hi + (j : Int) * vW hi := by rw [Int.natCast_add, Int.add_mul]
  have b1 := h.l
  have b2 := h.h
  have b3 := g.l
  have b4 := g.h
  obtain ⟨⟨p1, p2⟩, p3⟩ := rnd_between (z := sv double a + sv double b) hlo hhi hk (by omega) (by omega)
  exact ⟨e1, ⟨e2, by rw [e4]; exact p3, by rw [e5]; exact p1, by rw [e5]; exact p2⟩, e5, p3⟩
theorem Bd.leaf {lo hi x : Nat} (hlo : fnS lo = true) (hhi : fnS hi = true) (hx : fnS x = true) (h1 : sv single lo ≤ sv single x) (h2 : sv single x ≤ sv single hi) : Bd lo hi 1 (widen x) := by
  refine ⟨widen_wl x, ?_, ?_, ?_⟩
  · rw [rung_widen, if_pos (fnS_iff.1 hx)]; exact (wr_spec (fnS_iff.1 hx)).1
  · rw [Int.natCast_one, Int.one_mul]; exact (vW_le hlo hx).2 h1
  · rw [Int.natCast_one, Int.one_mul]; exact (vW_le hx hhi).2 h2
/-- all elements lie between -/
def Btw (lo hi : Nat) (xs : List Nat) : Prop := ∀ x ∈ xs, fnS x = true ∧ sv single lo ≤ sv single x ∧ sv single x ≤ sv single hi
theorem sum_er {lo hi B : Nat} (hlo : fnS lo = true) (hhi : fnS hi = true) : ∀ (ys xs : List Nat) (a : Nat), Bd lo hi xs.length a → Er B xs.length a (exS xs) (amS xs) → Btw lo hi ys → xs.length + ys.length ≤ 1000 → amS (xs ++ ys) + 4503599627370496 ≤ B →
    Bd lo hi (xs.length + ys.length) (sumF a ys) ∧ Er B (xs.length + ys.length) (sumF a ys) (exS (xs ++ ys)) (amS (xs ++ ys))
  | [], xs, a, h, g, _, _, _ => by rw [List.append_nil]; exact ⟨h, g⟩
  | y :: r, xs, a, h, g, hb, hk, hB => by
    obtain ⟨f, l, u⟩ := hb y (by simp)
    simp only [List.length_cons] at hk ⊢
    have e : xs ++ y :: r = (xs ++ [y]) ++ r := by simp
    rw [e] at hB ⊢
    have hB' : amS (xs ++ [y]) + 4503599627370496 ≤ B := by rw [amS_app] at hB; omega
    have hy : amS [y] = (vW y).natAbs := by simp [amS]
    have hy2 : exS [y] = vW y := by simp [exS]
    rw [amS_app, hy] at hB'
    obtain ⟨_, b1, b2, b3⟩ := h.add hlo hhi (Bd.leaf hlo hhi f l u) (by omega)
    have g1 := g.add (Er.leaf (B := B) (x := y) (by omega)) hB' (by omega) b2 b3
    have hl : (xs ++ [y]).length = xs.length + 1 := by simp
    have := sum_er hlo hhi r (xs ++ [y]) (addW a (widen y)) (by rw [hl]; exact b1) (by rw [hl, amS_app, exS_app, hy, hy2]; exact g1) (fun x hx => hb x (by simp [hx])) (by rw [hl]; omega) hB
    rw [hl] at this
    rw [show xs.length + (r.length + 1) = xs.length + 1 + r.length by omega]
    exact this
theorem hal_er {lo hi B : Nat} (hlo : fnS lo = true) (hhi : fnS hi = true) : ∀ (f : Nat) (xs : List Nat), xs.length ≤ f → xs.length ≤ 1000 → Btw lo hi xs → amS xs + 4503599627370496 ≤ B → Bd lo hi xs.length (halF f xs) ∧ Er B (xs.length - 1) (halF f xs) (exS xs) (amS xs)
  | 0, xs, h0, _, _, hB => by
    have : xs = [] := List.length_eq_zero_iff.1 (by omega)
    subst this
    exact ⟨Bd.zero lo hi, Er.zero (by simp [amS] at hB; omega)⟩
  | f + 1, xs, h0, hk, hb, hB => by
    unfold halF
    by_cases l0 : xs.length = 0
    · have : xs = [] := List.length_eq_zero_iff.1 l0
      subst this
      exact ⟨Bd.zero lo hi, Er.zero (by simp [amS] at hB; omega)⟩
    · rw [if_neg l0]
      by_cases l1 : xs.length = 1
      · obtain ⟨x, rfl⟩ := List.length_eq_one_iff.1 l1
        obtain ⟨fx, l, u⟩ := hb x (by simp)
        rw [if_pos l1]
        have hy : amS [x] = (vW x).natAbs := by simp [amS]
        have hy2 : exS [x] = vW x := by simp [exS]
        rw [hy] at hB ⊢
        rw [hy2]
        exact ⟨Bd.leaf hlo hhi fx l u, Er.leaf hB⟩
      · rw [if_neg l1]
        obtain ⟨k, hk2⟩ : ∃ k, xs.length / 2 = k := ⟨_, rfl⟩
        rw [hk2]
        have t1 : (xs.take k).length = k := by rw [List.length_take]; omega
        have t2 : (xs.drop k).length = xs.length - k := List.length_drop
        have hsp : amS xs = amS (xs.take k) + amS (xs.drop k) := by rw [← amS_app, List.take_append_drop]
        have hsp2 : exS xs = exS (xs.take k) + exS (xs.drop k) := by rw [← exS_app, List.take_append_drop]
        obtain ⟨b1, g1⟩ := hal_er (B := B) hlo hhi f (xs.take k) (by omega) (by omega) (fun x hx => hb x (List.mem_of_mem_take hx)) (by omega)
        obtain ⟨b2, g2⟩ := hal_er (B := B) hlo hhi f (xs.drop k) (by omega) (by omega) (fun x hx => hb x (List.mem_of_mem_drop hx)) (by omega)
        obtain ⟨_, b3, b4, b5⟩ := b1.add hlo hhi b2 (by omega)
        have g3 := g1.add g2 (by omega) (by omega) b4 b5
        rw [hsp, hsp2]
        constructor
        · rw [show xs.length = (xs.take k).length + (xs.drop k).length by omega]; exact b3
        · exact g3.mono (by omega)
end Go.Proofs.Ytkjjeccgmeiniaa.Flt
