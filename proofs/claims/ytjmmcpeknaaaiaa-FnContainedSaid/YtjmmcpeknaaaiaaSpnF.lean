/- Plain facts for what sums, products and negatives of spans hold: ends rounded outward keep what lies between. No program stands here. -/
import Derived.Test.YtjmmcpeknaaaiaaSpnQ
namespace Go.Proofs.Ytjmmcpeknaaaiaa.Spn
open Go.RowKit Go.Proofs.Ytjmmcpeknaaaiaa.Flt
open Ieee (single double)
set_option linter.unusedVariables false
set_option linter.unusedSimpArgs false
def Bd (z : Nat) : Prop := (sv double z).natAbs ≤ mg single 2139095039 * 2 ^ W
theorem sv_top : sv single 2139095039 = ((mg single 2139095039 : Nat) : Int) ∧ sv single 4286578687 = -((mg single 2139095039 : Nat) : Int) := by
  constructor
  · rcases sv_cases 2139095039 with ⟨h1, h2⟩ | ⟨h1, h2⟩
    · rw [h2]; rfl
    · exact absurd h1 (by decide)
  · rcases sv_cases 4286578687 with ⟨h1, h2⟩ | ⟨h1, h2⟩
    · exact absurd h1 (by decide)
    · rw [h2]; rfl
theorem pw_cast : PW = ((2 ^ W : Nat) : Int) := rfl
theorem vW_pw {x : Nat} (h : fnS x = true) : vW x = sv single x * PW := by
  rw [vW_eq h, (wr_spec (fnS_iff.1 h)).2, pw_cast]
  rcases sv_cases x with ⟨h1, h2⟩ | ⟨h1, h2⟩
  · rw [h1, h2, if_neg (by decide)]; exact Int.natCast_mul _ _
  · rw [h1, h2, if_pos rfl, Int.neg_mul]; exact congrArg Neg.neg (Int.natCast_mul _ _)
theorem fin_of {x : Nat} (h1 : -((mg single 2139095039 : Nat) : Int) ≤ sv single x) (h2 : sv single x ≤ ((mg single 2139095039 : Nat) : Int)) : fnS x = true := by
  refine fnS_iff.2 ?_
  have h : mg single (rung single x) ≤ mg single 2139095039 := by
    rcases sv_cases x with ⟨_, h3⟩ | ⟨_, h3⟩ <;> omega
  have := (mg_le_iff single).1 h
  rw [inf_single]; omega
theorem bd_le {z : Nat} (h : Bd z) : -((mg single 2139095039 : Nat) : Int) * PW ≤ sv double z ∧ sv double z ≤ ((mg single 2139095039 : Nat) : Int) * PW := by
  unfold Bd at h
  rw [pw_cast, Int.neg_mul, ← Int.natCast_mul]
  omega
theorem le_pw {a b : Int} (h : a * PW ≤ b * PW) : a ≤ b := Int.le_of_mul_le_mul_right h PW_pos
theorem rd_fin {z : Nat} (h : Bd z) : fnS (rdW z) = true ∧ rdW z < 4294967296 ∧ vW (rdW z) ≤ sv double z := by
  have hi := nrw_fit h
  obtain ⟨h1, h2, h3, h4⟩ := rd_facts hi
  have b := bd_le h
  have lo := h4 4286578687 (by decide) (by decide) (by rw [sv_top.2]; exact b.1)
  rw [sv_top.2] at lo
  have hf := fin_of lo (le_pw (Int.le_trans h3 b.2))
  exact ⟨hf, h2, by rw [vW_pw hf]; exact h3⟩
theorem ru_fin {z : Nat} (h : Bd z) : fnS (ruW z) = true ∧ ruW z < 4294967296 ∧ sv double z ≤ vW (ruW z) := by
  have hi := nrw_fit h
  obtain ⟨h1, h2, h3, h4⟩ := ru_facts hi
  have b := bd_le h
  have up := h4 2139095039 (by decide) (by decide) (by rw [sv_top.1]; exact b.2)
  rw [sv_top.1] at up
  have hf := fin_of (le_pw (Int.le_trans b.1 h3)) up
  exact ⟨hf, h2, by rw [vW_pw hf]; exact h3⟩
/-- ends rounded outward make a valid span, and it holds what lies between them -/
theorem out_vs {l h : Nat} (bl : Bd l) (bh : Bd h) (hle : sv double l ≤ sv double h) : Vs (rdW l) (ruW h) := by
  have r := rd_fin bl
  have u := ru_fin bh
  exact ⟨r.1, u.1, by omega⟩
theorem out_hd {l h v : Nat} (bl : Bd l) (bh : Bd h) (nv : isNaN double v = false) (h1 : sv double l ≤ sv double v) (h2 : sv double v ≤ sv double h) : hdB (rdW l) (ruW h) v = true := by
  have r := rd_fin bl
  have u := ru_fin bh
  exact (hd_fn (out_vs bl bh (by omega))).2 ⟨nv, by omega, by omega⟩
theorem add_bd {x y r : Nat} (hx : Sm x) (hy : Sm y) (h5 : sv double r = rndD (vW x + vW y)) : Bd r := by
  have ax := sm_abs hx
  have ay := sm_abs hy
  have hlo : fnS (Op.negFloat .f32 R25) = true := sm25.neg.fn
  have vlo : vW (Op.negFloat .f32 R25) = -((mg double (wr R25) : Nat) : Int) := by rw [ng_vW sm25.1 sm25.fn, vW25]
  have hb := rnd_between (lo := Op.negFloat .f32 R25) (hi := R25) (k := 2) (z := vW x + vW y) hlo sm25.fn (by omega) (by rw [vlo]; omega) (by rw [vW25]; omega)
  rw [vlo, vW25] at hb
  unfold Bd
  rw [h5]
  have h6 : (rndD (vW x + vW y)).natAbs ≤ 2 * mg double (wr R25) := by omega
  refine Nat.le_trans h6 ?_
  have h2 := fnS_iff.1 sm25.fn
  rw [show rung single R25 = R25 by decide] at h2
  rw [(wr_spec h2).2, ← Nat.mul_assoc]
  exact Nat.mul_le_mul_right _ big25
theorem mul_bd {x y p : Nat} (hx : Sm x) (hy : Sm y) (h5 : sv double p * ((PV : Nat) : Int) = vW x * vW y) : Bd p := by
  have ax := sm_abs hx
  have ay := sm_abs hy
  have e : (sv double p).natAbs * PV = (vW x).natAbs * (vW y).natAbs := by
    rw [← Int.natAbs_mul, ← h5, Int.natAbs_mul, Int.natAbs_natCast]
  have hm := Nat.mul_le_mul ax ay
  rw [← e] at hm
  have h2 := fnS_iff.1 sm25.fn
  rw [show rung single R25 = R25 by decide] at h2
  rw [(wr_spec h2).2] at hm
  unfold Bd
  refine Nat.le_of_mul_le_mul_right (Nat.le_trans hm ?_) PV_pos
  rw [← PV_eq]
  exact sq_pow sq25
/-- a number between two small ones is small -/
theorem held_sm {a b x : Nat} (ha : Sm a) (hb : Sm b) (wx : x < 4294967296) (nx : isNaN single x = false) (h1 : vW a ≤ vW x) (h2 : vW x ≤ vW b) : Sm x := by
  have aa := sm_abs ha
  have ab := sm_abs hb
  have hx : (vW x).natAbs ≤ mg double (wr R25) := by omega
  refine sm_of wx ?_ hx
  refine fnS_iff.2 ?_
  by_cases c : rung single x < single.infRung
  · exact c
  · exfalso
    unfold vW at hx
    rw [sv_abs, rung_widen, if_neg c] at hx
    have h2 := fnS_iff.1 sm25.fn
    rw [show rung single R25 = R25 by decide] at h2
    have := (mg_le_iff double).1 hx
    have := (wr_spec h2).1
    omega
theorem num_wid {x : Nat} : sv double (widen x) = vW x := rfl
theorem sum_held {a b c d x y L H : Nat} (ha : Sm a) (hb : Sm b) (hc : Sm c) (hd : Sm d) (wx : x < 4294967296) (nx : isNaN single x = false) (wy : y < 4294967296) (ny : isNaN single y = false)
    (hL : sv double L = rndD (vW a + vW c)) (hH : sv double H = rndD (vW b + vW d)) (h1 : hdB a b (widen x) = true) (h2 : hdB c d (widen y) = true) :
    ∃ r, floatBits .add .f64 (widen x) (widen y) = some r ∧ hdB (rdW L) (ruW H) r = true := by
  obtain ⟨_, _, x1, x2⟩ := hd_iff.1 h1
  obtain ⟨_, _, y1, y2⟩ := hd_iff.1 h2
  rw [num_wid] at x1 x2 y1 y2
  obtain ⟨r, r1, _, r3, _, r5, _⟩ := sm_add (held_sm ha hb wx nx x1 x2) (held_sm hc hd wy ny y1 y2)
  refine ⟨r, r1, out_hd (add_bd ha hc hL) (add_bd hb hd hH) r3 ?_ ?_⟩
  · rw [hL, r5]; exact rnd_monoD (by omega)
  · rw [hH, r5]; exact rnd_monoD (by omega)
theorem prod_held {a b c d x y m M : Nat} (ha : Sm a) (hb : Sm b) (hc : Sm c) (hd : Sm d) (wx : x < 4294967296) (nx : isNaN single x = false) (wy : y < 4294967296) (ny : isNaN single y = false)
    (bm : Bd m) (bM : Bd M)
    (m1 : sv double m * ((PV : Nat) : Int) ≤ vW a * vW c) (m2 : sv double m * ((PV : Nat) : Int) ≤ vW a * vW d) (m3 : sv double m * ((PV : Nat) : Int) ≤ vW b * vW c) (m4 : sv double m * ((PV : Nat) : Int) ≤ vW b * vW d)
    (M1 : vW a * vW c ≤ sv double M * ((PV : Nat) : Int)) (M2 : vW a * vW d ≤ sv double M * ((PV : Nat) : Int)) (M3 : vW b * vW c ≤ sv double M * ((PV : Nat) : Int)) (M4 : vW b * vW d ≤ sv double M * ((PV : Nat) : Int))
    (h1 : hdB a b (widen x) = true) (h2 : hdB c d (widen y) = true) :
    ∃ r, floatBits .mul .f64 (widen x) (widen y) = some r ∧ hdB (rdW m) (ruW M) r = true := by
  obtain ⟨_, _, x1, x2⟩ := hd_iff.1 h1
  obtain ⟨_, _, y1, y2⟩ := hd_iff.1 h2
  rw [num_wid] at x1 x2 y1 y2
  obtain ⟨r, r1, _, r3, _, r5, _⟩ := sm_mul (held_sm ha hb wx nx x1 x2) (held_sm hc hd wy ny y1 y2)
  have q := four_bd x1 x2 y1 y2 m1 m2 m3 m4 M1 M2 M3 M4
  rw [← r5] at q
  have pp : (0 : Int) < ((PV : Nat) : Int) := by exact_mod_cast PV_pos
  exact ⟨r, r1, out_hd bm bM r3 (Int.le_of_mul_le_mul_right q.1 pp) (Int.le_of_mul_le_mul_right q.2 pp)⟩
theorem neg_held {a b v : Nat} (ha : Sm a) (hb : Sm b) (wv : v < 18446744073709551616) (h1 : hdB a b v = true) : hdB (Op.negFloat .f32 b) (Op.negFloat .f32 a) (Op.negFloat .f64 v) = true := by
  obtain ⟨h0, h2, h3, h4⟩ := hd_iff.1 h1
  have w : v < 2 ^ FloatKind.f64.format.width := by rw [show FloatKind.f64.format = double from rfl, width_double]; exact wv
  refine hd_iff.2 ⟨by rw [neg_le ha.1 hb.1]; exact h0, ?_, ?_, ?_⟩
  · rw [show isNaN double (Op.negFloat .f64 v) = isNaN double v from isNaN_neg .f64 w]; exact h2
  · rw [ng_vW hb.1 hb.fn, show sv double (Op.negFloat .f64 v) = -sv double v from sv_neg .f64 w]; omega
  · rw [ng_vW ha.1 ha.fn, show sv double (Op.negFloat .f64 v) = -sv double v from sv_neg .f64 w]; omega
end Go.Proofs.Ytjmmcpeknaaaiaa.Spn
