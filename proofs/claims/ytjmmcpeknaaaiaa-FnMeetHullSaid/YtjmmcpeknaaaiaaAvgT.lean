/- Plain facts: the sum in order and the sum by halves differ by less than a million-millionth of the sum of the amounts. No program stands here. -/
import Derived.Test.YtjmmcpeknaaaiaaAvgE
namespace Go.Proofs.Ytjmmcpeknaaaiaa.Flt
open Ieee Go.RowKit
set_option linter.unusedVariables false
theorem lt_w32 {x : Nat} (h : x < 4294967296) : x < 2 ^ FloatKind.f32.format.width := by rw [show FloatKind.f32.format = single from rfl, width_single]; exact h
abbrev ng32 (x : Nat) : Nat := Op.negFloat .f32 x
theorem ng32_fn {x : Nat} (h : x < 4294967296) : fnS (ng32 x) = fnS x := by
  unfold fnS
  rw [show rung single (ng32 x) = rung single x from rung_neg .f32 (lt_w32 h)]
theorem ng32_sv {x : Nat} (h : x < 4294967296) : sv single (ng32 x) = -sv single x := by
  unfold sv
  rw [show rung single (ng32 x) = rung single x from rung_neg .f32 (lt_w32 h), show sgn single (ng32 x) = !sgn single x from sgn_neg .f32 (lt_w32 h)]
  cases sgn single x <;> simp
theorem ng32_vW {x : Nat} (h : x < 4294967296) (hf : fnS x = true) : vW (ng32 x) = -vW x := by
  rw [vW_eq hf, vW_eq (by rw [ng32_fn h]; exact hf), show rung single (ng32 x) = rung single x from rung_neg .f32 (lt_w32 h), show sgn single (ng32 x) = !sgn single x from sgn_neg .f32 (lt_w32 h)]
  cases sgn single x <;> simp
theorem vW_neg {x : Nat} (hf : fnS x = true) : vW x < 0 ↔ sv single x < 0 := by
  have h0 : fnS 0 = true := by decide
  have z : sv single 0 = 0 := (sv_eq_zero single).2 (by decide)
  have zW : vW 0 = 0 := by rw [vW_eq h0, show rung single 0 = 0 by decide]; decide +kernel
  have := vW_le h0 hf
  rw [z, zW] at this
  omega
/-- one amount more -/
def mosW (s x : Nat) : Nat := if sv single x < 0 then (floatBits .sub .f64 s (widen x)).getD 0 else addW s (widen x)
def mosF (a : Nat) (xs : List Nat) : Nat := xs.foldl mosW a
theorem mosF_snoc (a : Nat) (xs : List Nat) (x : Nat) : mosF a (xs ++ [x]) = mosW (mosF a xs) x := by unfold mosF; simp
/-- the words between the greatest single and its negative -/
def hiW : Nat := 2139095039
def loW : Nat := 4286578687
theorem hiW_fn : fnS hiW = true ∧ fnS loW = true := by decide
theorem all_btw {x : Nat} (h : fnS x = true) : sv single loW ≤ sv single x ∧ sv single x ≤ sv single hiW := by
  have hr := fnS_iff.1 h
  rw [inf_single] at hr
  have hm : mg single (rung single x) ≤ mg single 2139095039 := mg_le single (by omega)
  have e1 : sv single hiW = ((mg single 2139095039 : Nat) : Int) := by unfold sv; rw [show sgn single hiW = false by decide, show rung single hiW = 2139095039 by decide]; rfl
  have e2 : sv single loW = -((mg single 2139095039 : Nat) : Int) := by unfold sv; rw [show sgn single loW = true by decide, show rung single loW = 2139095039 by decide]; rfl
  rw [e1, e2]
  unfold sv
  generalize mg single 2139095039 = M at *
  generalize mg single (rung single x) = m at *
  split <;> omega
def Fin32 (xs : List Nat) : Prop := ∀ x ∈ xs, fnS x = true ∧ x < 4294967296
theorem Fin32.btw {xs : List Nat} (h : Fin32 xs) : Btw loW hiW xs := fun x hx => ⟨(h x hx).1, all_btw (h x hx).1⟩
theorem fn0 : fnS 0 = true := by decide
theorem sv0 : sv single 0 = 0 := (sv_eq_zero single).2 (by decide)
theorem vW0 : vW 0 = 0 := by rw [vW_eq fn0, show rung single 0 = 0 by decide]; decide +kernel
theorem mos_step {k a x B : Nat} {p : Int} {s : Nat} (h : Bd 0 hiW k a) (g : Er B k a p s) (hx : fnS x = true ∧ x < 4294967296) (hk : k + 1 ≤ 1000) (hB : s + (vW x).natAbs + 4503599627370496 ≤ B) :
    (if sv single x < 0 then floatBits .sub .f64 a (widen x) = some (mosW a x) else floatBits .add .f64 a (widen x) = some (mosW a x)) ∧ Bd 0 hiW (k + 1) (mosW a x) ∧ Er B (k + 1) (mosW a x) (p + ((vW x).natAbs : Int)) (s + (vW x).natAbs) := by
  obtain ⟨hf, hw⟩ := hx
  have hn : fnS (ng32 x) = true := by rw [ng32_fn hw]; exact hf
  have f0 := fn0
  have z0 := sv0
  by_cases hneg : sv single x < 0
  · rw [if_pos hneg]
    have hv := (vW_neg hf).2 hneg
    have e : vW (ng32 x) = ((vW x).natAbs : Int) := by rw [ng32_vW hw hf]; omega
    have ea : (vW (ng32 x)).natAbs = (vW x).natAbs := by rw [e]; omega
    have b1 : sv single 0 ≤ sv single (ng32 x) := by rw [z0, ng32_sv hw]; omega
    have b2 := (all_btw hn).2
    obtain ⟨_, c1, c2, c3⟩ := h.add f0 hiW_fn.1 (Bd.leaf f0 hiW_fn.1 hn b1 b2) (by omega)
    have fx : rung double (widen x) < double.infRung := by
      rw [rung_widen, if_pos (fnS_iff.1 hf)]; exact (wr_spec (fnS_iff.1 hf)).1
    obtain ⟨r, e1, e2, e3, e4, e5⟩ := sub_valD h.f fx
    have hr : mosW a x = r := by unfold mosW; rw [if_pos hneg, e1]; rfl
    have hz : sv double a - sv double (widen x) = sv double a + sv double (widen (ng32 x)) := by
      show sv double a - vW x = sv double a + vW (ng32 x)
      rw [ng32_vW hw hf]; omega
    rw [hz] at e4 e5
    have gl := Er.leaf (B := B) (x := ng32 x) (by rw [ea]; omega)
    rw [ea, e] at gl
    rw [hr]
    refine ⟨e1, ⟨e2, by rw [e4]; exact c3, ?_, ?_⟩, ?_⟩
    · rw [e5, ← c2]; exact c1.l
    · rw [e5, ← c2]; exact c1.h
    · exact g.add gl hB (by omega) e5 c3
  · rw [if_neg hneg]
    have hv : ¬ vW x < 0 := fun h' => hneg ((vW_neg hf).1 h')
    have e : vW x = ((vW x).natAbs : Int) := by omega
    have b1 : sv single 0 ≤ sv single x := by rw [z0]; omega
    have b2 := (all_btw hf).2
    obtain ⟨c0, c1, c2, c3⟩ := h.add f0 hiW_fn.1 (Bd.leaf f0 hiW_fn.1 hf b1 b2) (by omega)
    have hr : mosW a x = addW a (widen x) := by unfold mosW; rw [if_neg hneg]
    have gl := Er.leaf (B := B) (x := x) (by omega)
    rw [hr]
    refine ⟨c0, c1, ?_⟩
    have := g.add gl hB (by omega) c2 c3
    rw [← e]; exact this
theorem mos_er {B : Nat} : ∀ (ys xs : List Nat) (a : Nat), Bd 0 hiW xs.length a → Er B xs.length a (amS xs : Int) (amS xs) → Fin32 ys → xs.length + ys.length ≤ 1000 → amS (xs ++ ys) + 4503599627370496 ≤ B →
    Bd 0 hiW (xs.length + ys.length) (mosF a ys) ∧ Er B (xs.length + ys.length) (mosF a ys) (amS (xs ++ ys) : Int) (amS (xs ++ ys))
  | [], xs, a, h, g, _, _, _ => by rw [List.append_nil]; exact ⟨h, g⟩
  | y :: r, xs, a, h, g, hb, hk, hB => by
    simp only [List.length_cons] at hk ⊢
    have e : xs ++ y :: r = (xs ++ [y]) ++ r := by simp
    rw [e] at hB ⊢
    have hB' : amS (xs ++ [y]) + 4503599627370496 ≤ B := by rw [amS_app] at hB; omega
    have hy : amS [y] = (vW y).natAbs := by simp [amS]
    rw [amS_app, hy] at hB'
    obtain ⟨_, b1, b2⟩ := mos_step h g (hb y (by simp)) (by omega) hB'
    have hl : (xs ++ [y]).length = xs.length + 1 := by simp
    have := mos_er r (xs ++ [y]) (mosW a y) (by rw [hl]; exact b1) (by rw [hl, amS_app, hy, Int.natCast_add]; exact b2) (fun x hx => hb x (by simp [hx])) (by rw [hl]; omega) hB
    rw [hl] at this
    rw [show xs.length + (r.length + 1) = xs.length + 1 + r.length by omega]
    exact this
theorem amS_mul : ∀ (xs : List Nat), (∀ x ∈ xs, fnS x = true) → ∃ m, amS xs = m * 2 ^ W
  | [], _ => ⟨0, by simp [amS]⟩
  | x :: r, h => by
    obtain ⟨m, hm⟩ := amS_mul r (fun y hy => h y (by simp [hy]))
    have hf := h x (by simp)
    have e : amS (x :: r) = (vW x).natAbs + amS r := by simp [amS]
    refine ⟨mg single (rung single x) + m, ?_⟩
    rw [e, hm, vW_abs hf, (wr_spec (fnS_iff.1 hf)).2, Nat.add_mul]
theorem amS_big {xs : List Nat} (h : ∀ x ∈ xs, fnS x = true) : amS xs = 0 ∨ 4503599627370496 ≤ amS xs := by
  obtain ⟨m, hm⟩ := amS_mul xs h
  have hp : 4503599627370496 ≤ 2 ^ W := by
    rw [show (4503599627370496 : Nat) = 2 ^ 52 by decide]
    exact Nat.pow_le_pow_right (by omega) (by rw [W_eq]; omega)
  rw [hm]
  generalize 2 ^ W = p at *
  rcases m with _ | m
  · left; rw [Nat.zero_mul]
  · right
    have := Nat.le_mul_of_pos_left p (show 0 < m + 1 by omega)
    omega
theorem amS_zero : ∀ {xs : List Nat}, amS xs = 0 → ∀ x ∈ xs, vW x = 0
  | [], _, x, hx => by simp at hx
  | y :: r, h, x, hx => by
    have e : amS (y :: r) = (vW y).natAbs + amS r := by simp [amS]
    rw [e] at h
    rcases List.mem_cons.1 hx with rfl | h'
    · omega
    · exact amS_zero (by omega) x h'
/-- a million-millionth -/
def cW : Nat := 4427486594234968593
theorem cW_big : PV ≤ mg double (rung double cW) * 1099511627776 := by decide +kernel
theorem cW_f : rung double cW < double.infRung ∧ sgn double cW = false := by decide +kernel
theorem two_sums {xs : List Nat} (h : Fin32 xs) (hn : xs.length ≤ 64) :
    (sv double (sumF 0 xs) - sv double (halF xs.length xs)).natAbs * PV ≤ (sv double (mosF 0 xs)).natAbs * mg double (rung double cW) ∧ 0 ≤ sv double (mosF 0 xs) := by
  have hf : ∀ x ∈ xs, fnS x = true := fun x hx => (h x hx).1
  obtain ⟨B, hB⟩ : ∃ B, amS xs + 4503599627370496 = B := ⟨_, rfl⟩
  have z0 : amS [] = 0 := by simp [amS]
  have z1 : exS [] = 0 := by simp [exS]
  obtain ⟨b1, g1⟩ := sum_er (B := B) hiW_fn.2 hiW_fn.1 xs [] 0 (Bd.zero _ _) (by rw [z0, z1]; exact Er.zero (by omega)) h.btw (by simp; omega) (by rw [List.nil_append]; omega)
  obtain ⟨b2, g2⟩ := hal_er (B := B) hiW_fn.2 hiW_fn.1 xs.length xs (Nat.le_refl _) (by omega) h.btw (by omega)
  obtain ⟨b3, g3⟩ := mos_er (B := B) xs [] 0 (Bd.zero 0 hiW) (by rw [z0]; exact Er.zero (by omega)) h (by simp; omega) (by rw [List.nil_append]; omega)
  rw [List.nil_append] at g1 g3
  simp only [List.length_nil, Nat.zero_add] at g1 g3 b1 b3
  have e1 := g1.e
  have e2 := (g2.mono (Nat.sub_le _ 1)).e
  have e3 := g3.e
  have m1 : xs.length * B ≤ 64 * B := Nat.mul_le_mul_right _ hn
  have hc := cW_big
  have hp := b3.l
  rw [vW0, Int.mul_zero] at hp
  refine ⟨?_, hp⟩
  rcases amS_big hf with h0 | h0
  · -- all are zeros
    have hz : Btw 0 0 xs := fun x hx => by
      have := amS_zero h0 x hx
      have zW := vW0
      have a1 := (vW_le fn0 (hf x hx)).1 (by omega)
      have a2 := (vW_le (hf x hx) fn0).1 (by omega)
      exact ⟨hf x hx, a1, a2⟩
    have c1 := Bd.sum fn0 fn0 xs 0 0 (Bd.zero 0 0) hz (by omega)
    have c2 := (hal_er (B := B) fn0 fn0 xs.length xs (Nat.le_refl _) (by omega) hz (by omega)).1
    have l1 := c1.l
    have l2 := c1.h
    have l3 := c2.l
    have l4 := c2.h
    rw [vW0, Int.mul_zero] at l1 l2 l3 l4
    rw [show sv double (sumF 0 xs) - sv double (halF xs.length xs) = 0 by omega, Int.natAbs_zero, Nat.zero_mul]
    exact Nat.zero_le _
  · generalize sv double (sumF 0 xs) = A at *
    generalize sv double (halF xs.length xs) = H at *
    generalize sv double (mosF 0 xs) = Mo at *
    generalize xs.length * B = nB at *
    generalize exS xs = T at *
    generalize mg double (rung double cW) = c at *
    have k1 : (A - H).natAbs * 1099511627776 ≤ Mo.natAbs := by omega
    have k2 : (A - H).natAbs * PV ≤ (A - H).natAbs * (c * 1099511627776) := Nat.mul_le_mul_left _ hc
    have k3 : (A - H).natAbs * (c * 1099511627776) = (A - H).natAbs * 1099511627776 * c := by ac_rfl
    exact Nat.le_trans k2 (k3 ▸ Nat.mul_le_mul_right _ k1)
end Go.Proofs.Ytjmmcpeknaaaiaa.Flt
