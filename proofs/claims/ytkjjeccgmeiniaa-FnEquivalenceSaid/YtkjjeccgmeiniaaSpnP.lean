/- Plain facts for spans: the next single up and down, a double rounded down and up, the least and the greatest of four products. No program stands here. -/
import Derived.Test.YtkjjeccgmeiniaaAvgP
namespace Go.Proofs.Ytkjjeccgmeiniaa.Flt
open Ieee Go.RowKit
set_option linter.unusedVariables false
/-- the next single -/
def nuW (x : Nat) : Nat :=
  if sgn single x = false then (if rung single x = single.infRung then x else single.word false (rung single x + 1))
  else if rung single x = 0 then single.word false 1
  else if rung single x = 1 then 0
  else single.word true (rung single x - 1)
def ndW (x : Nat) : Nat := Op.negFloat .f32 (nuW (Op.negFloat .f32 x))
theorem num_le {x : Nat} (h : isNaN single x = false) : rung single x ≤ single.infRung := by
  have := of_decide_eq_false h
  omega
theorem sv_cases (x : Nat) : (sgn single x = false ∧ sv single x = ((mg single (rung single x) : Nat) : Int)) ∨ (sgn single x = true ∧ sv single x = -((mg single (rung single x) : Nat) : Int)) := by
  unfold sv
  cases sgn single x
  · exact .inl ⟨rfl, rfl⟩
  · exact .inr ⟨rfl, rfl⟩
theorem word_fit (s : Bool) {r : Nat} (h : r ≤ single.infRung) : single.word s r < 4294967296 := by
  have hi := inf_lt single
  have : single.word s r < 2 ^ single.width := by
    rw [two_sw single]
    unfold Format.word
    cases s
    · simp; omega
    · simp; omega
  rw [width_single] at this
  exact this
theorem nu_facts {x : Nat} (hx : isNaN single x = false) (hi : ¬ (sgn single x = false ∧ rung single x = single.infRung)) :
    isNaN single (nuW x) = false ∧ nuW x < 4294967296 ∧ sv single x < sv single (nuW x) ∧ ∀ z, isNaN single z = false → sv single x < sv single z → sv single (nuW x) ≤ sv single z := by
  have hr := num_le hx
  have i2 : 2 ≤ single.infRung := by rw [inf_single]; omega
  have lt : ∀ {r s : Nat}, r < s → mg single r < mg single s := fun h => (mg_lt_iff single).2 h
  have m0 := mg_zero single
  rcases sv_cases x with ⟨hs, e⟩ | ⟨hs, e⟩
  · have hrl : rung single x < single.infRung := by
      rcases Nat.lt_or_ge (rung single x) single.infRung with c | c
      · exact c
      · exact absurd ⟨hs, by omega⟩ hi
    have en : nuW x = single.word false (rung single x + 1) := by
      unfold nuW; rw [if_pos hs, if_neg (by omega)]
    have hle : rung single x + 1 ≤ single.infRung := by omega
    have es : sv single (nuW x) = ((mg single (rung single x + 1) : Nat) : Int) := by rw [en, word_sv single _ hle]; rfl
    refine ⟨by rw [en]; exact word_nan single _ hle, by rw [en]; exact word_fit _ hle, ?_, fun z hz hlt => ?_⟩
    · have := lt (show rung single x < rung single x + 1 by omega)
      rw [e, es]; omega
    · rw [e] at hlt
      rcases sv_cases z with ⟨zs, ez⟩ | ⟨zs, ez⟩
      · rw [ez] at hlt
        have h1 : mg single (rung single x) < mg single (rung single z) := by omega
        have h2 := (mg_lt_iff single).1 h1
        have h3 := mg_le single (show rung single x + 1 ≤ rung single z by omega)
        rw [es, ez]; omega
      · rw [ez] at hlt; omega
  · have hs' : ¬ sgn single x = false := by rw [hs]; simp
    by_cases c0 : rung single x = 0
    · have en : nuW x = single.word false 1 := by unfold nuW; rw [if_neg hs', if_pos c0]
      have hle : 1 ≤ single.infRung := by omega
      have es : sv single (nuW x) = ((mg single 1 : Nat) : Int) := by rw [en, word_sv single _ hle]; rfl
      have h01 := lt (show 0 < 1 by omega)
      rw [c0, m0] at e
      refine ⟨by rw [en]; exact word_nan single _ hle, by rw [en]; exact word_fit _ hle, by rw [e, es]; omega, fun z hz hlt => ?_⟩
      rw [e] at hlt
      rcases sv_cases z with ⟨zs, ez⟩ | ⟨zs, ez⟩
      · rw [ez] at hlt
        have h1 : mg single 0 < mg single (rung single z) := by rw [m0]; omega
        have h2 := (mg_lt_iff single).1 h1
        have h3 := mg_le single (show 1 ≤ rung single z by omega)
        rw [es, ez]; omega
      · rw [ez] at hlt; omega
    · by_cases c1 : rung single x = 1
      · have en : nuW x = 0 := by unfold nuW; rw [if_neg hs', if_neg c0, if_pos c1]
        have es : sv single (nuW x) = 0 := by rw [en]; exact (sv_eq_zero single).2 (by decide)
        have h01 := lt (show 0 < 1 by omega)
        rw [c1] at e
        refine ⟨by rw [en]; decide, by rw [en]; omega, by rw [e, es]; omega, fun z hz hlt => ?_⟩
        rw [e] at hlt
        rcases sv_cases z with ⟨zs, ez⟩ | ⟨zs, ez⟩
        · rw [es, ez]; omega
        · rw [ez] at hlt
          have h1 : mg single (rung single z) < mg single 1 := by omega
          have h2 := (mg_lt_iff single).1 h1
          have h3 : rung single z = 0 := by omega
          rw [h3, m0] at ez
          rw [es, ez]; omega
      · have hle : rung single x - 1 ≤ single.infRung := by omega
        have en : nuW x = single.word true (rung single x - 1) := by unfold nuW; rw [if_neg hs', if_neg c0, if_neg c1]
        have es : sv single (nuW x) = -((mg single (rung single x - 1) : Nat) : Int) := by rw [en, word_sv single _ hle]; rfl
        refine ⟨by rw [en]; exact word_nan single _ hle, by rw [en]; exact word_fit _ hle, ?_, fun z hz hlt => ?_⟩
        · have := lt (show rung single x - 1 < rung single x by omega)
          rw [e, es]; omega
        · rw [e] at hlt
          rcases sv_cases z with ⟨zs, ez⟩ | ⟨zs, ez⟩
          · rw [es, ez]; omega
          · rw [ez] at hlt
            have h1 : mg single (rung single z) < mg single (rung single x) := by omega
            have h2 := (mg_lt_iff single).1 h1
            have h3 := mg_le single (show rung single z ≤ rung single x - 1 by omega)
            rw [es, ez]; omega
theorem w32 {x : Nat} (h : x < 4294967296) : x < 2 ^ FloatKind.f32.format.width := by rw [show FloatKind.f32.format = single from rfl, width_single]; exact h
theorem ng_num {x : Nat} (h : x < 4294967296) : isNaN single (Op.negFloat .f32 x) = isNaN single x := isNaN_neg .f32 (w32 h)
theorem ng_sv {x : Nat} (h : x < 4294967296) : sv single (Op.negFloat .f32 x) = -sv single x := sv_neg .f32 (w32 h)
theorem ng_lt {x : Nat} (h : x < 4294967296) : Op.negFloat .f32 x < 4294967296 := by
  have := neg_lt .f32 (w32 h)
  rw [show FloatKind.f32.format = single from rfl, width_single] at this
  exact this
theorem ng_sgn {x : Nat} (h : x < 4294967296) : sgn single (Op.negFloat .f32 x) = !sgn single x := sgn_neg .f32 (w32 h)
theorem ng_rung {x : Nat} (h : x < 4294967296) : rung single (Op.negFloat .f32 x) = rung single x := rung_neg .f32 (w32 h)
theorem nd_facts {x : Nat} (wx : x < 4294967296) (hx : isNaN single x = false) (hi : ¬ (sgn single x = true ∧ rung single x = single.infRung)) :
    isNaN single (ndW x) = false ∧ ndW x < 4294967296 ∧ sv single (ndW x) < sv single x ∧ ∀ z, z < 4294967296 → isNaN single z = false → sv single z < sv single x → sv single z ≤ sv single (ndW x) := by
  have hi' : ¬ (sgn single (Op.negFloat .f32 x) = false ∧ rung single (Op.negFloat .f32 x) = single.infRung) := by
    rw [ng_sgn wx, ng_rung wx]
    intro h
    exact hi ⟨by have := h.1; cases hs : sgn single x <;> simp_all, h.2⟩
  obtain ⟨a1, a2, a3, a4⟩ := nu_facts (x := Op.negFloat .f32 x) (by rw [ng_num wx]; exact hx) hi'
  rw [ng_sv wx] at a3 a4
  unfold ndW
  refine ⟨by rw [ng_num a2]; exact a1, ng_lt a2, by rw [ng_sv a2]; omega, fun z wz hz hlt => ?_⟩
  have := a4 (Op.negFloat .f32 z) (by rw [ng_num wz]; exact hz) (by rw [ng_sv wz]; omega)
  rw [ng_sv wz] at this
  rw [ng_sv a2]; omega
/-! a double beside the single that it is narrowed to -/
theorem near_up (s : Bool) {q N D : Nat} (hD : 0 < D) (hq : rr single N D = q) (hi : q < single.infRung) : (if s = true then -(N : Int) else (N : Int)) < sv single (nuW (single.word s q)) * (D : Int) := by
  have hw : q < single.signWeight := Nat.lt_trans hi (inf_lt single)
  have hr := rung_word single s hw
  have hs := sgn_word single s hw
  have lo : ∀ r, r < q → mg single r * D < N := fun r hr => by
    rcases Nat.lt_or_ge (mg single r * D) N with c | c
    · exact c
    · have := rr_le single r hD c
      omega
  have up : ∀ r, q < r → N < mg single r * D := fun r hr => by
    rcases Nat.lt_or_ge N (mg single r * D) with c | c
    · exact c
    · have := rr_ge single r hD c
      omega
  have i1 : 1 ≤ single.infRung := by omega
  cases s
  · have en : nuW (single.word false q) = single.word false (q + 1) := by unfold nuW; rw [hs, if_pos rfl, hr, if_neg (by omega)]
    rw [en, word_sv single _ (by omega : q + 1 ≤ single.infRung)]
    have := up (q + 1) (by omega)
    simp only [Bool.false_eq_true, if_false]
    exact_mod_cast this
  · by_cases c0 : q = 0
    · have en : nuW (single.word true q) = single.word false 1 := by unfold nuW; rw [hs, if_neg (by simp), hr, if_pos c0]
      rw [en, word_sv single _ i1]
      have := up 1 (by omega)
      simp only [Bool.false_eq_true, if_false, if_true]
      have h2 : (N : Int) < ((mg single 1 : Nat) : Int) * (D : Int) := by exact_mod_cast this
      omega
    · by_cases c1 : q = 1
      · have en : nuW (single.word true q) = 0 := by unfold nuW; rw [hs, if_neg (by simp), hr, if_neg c0, if_pos c1]
        rw [en, (sv_eq_zero single).2 (show rung single 0 = 0 by decide)]
        have := lo 0 (by omega)
        rw [mg_zero, Nat.zero_mul] at this
        simp only [if_true, Int.zero_mul]
        omega
      · have en : nuW (single.word true q) = single.word true (q - 1) := by unfold nuW; rw [hs, if_neg (by simp), hr, if_neg c0, if_neg c1]
        rw [en, word_sv single _ (by omega : q - 1 ≤ single.infRung)]
        have := lo (q - 1) (by omega)
        simp only [if_true]
        have h2 : ((mg single (q - 1) : Nat) : Int) * (D : Int) < (N : Int) := by exact_mod_cast this
        rw [Int.neg_mul]
        omega
/-- the single that a double is narrowed to -/
def naW (x : Nat) : Nat := single.word (sgn double x) (nrw (rung double x))
def PW : Int := ((2 ^ W : Nat) : Int)
theorem PW_pos : 0 < PW := by unfold PW; exact_mod_cast Nat.two_pow_pos W
theorem na_run {x : Nat} (wx : x < 18446744073709551616) (hf : rung double x < double.infRung) (hi : nrw (rung double x) < single.infRung) : floatToFloatBits .f64 x .f32 = some (naW x) := by
  have := narrow_sgn (sgn double x) hf hi
  rw [show double.word (sgn double x) (rung double x) = x from (word_eq double (by rw [width_double]; exact wx)).symm] at this
  exact this
theorem ng_word (s : Bool) {q : Nat} (h : q ≤ single.infRung) : Op.negFloat .f32 (single.word s q) = single.word (!s) q := by
  have hw : q < single.signWeight := Nat.lt_of_le_of_lt h (inf_lt single)
  rw [neg_eq .f32 (w32 (word_fit s h))]
  show single.word (!sgn single (single.word s q)) (rung single (single.word s q)) = _
  rw [rung_word single s hw, sgn_word single s hw]
/-- strictly between the neighbors of what it is narrowed to -/
theorem na_near {x : Nat} (hi : nrw (rung double x) < single.infRung) : sv single (ndW (naW x)) * PW < sv double x ∧ sv double x < sv single (nuW (naW x)) * PW := by
  have hD := Nat.two_pow_pos W
  have u := near_up (sgn double x) hD (show rr single (mg double (rung double x)) (2 ^ W) = nrw (rung double x) from rfl) hi
  have d := near_up (!sgn double x) hD (show rr single (mg double (rung double x)) (2 ^ W) = nrw (rung double x) from rfl) hi
  have e : sv double x = if sgn double x = true then -((mg double (rung double x) : Nat) : Int) else ((mg double (rung double x) : Nat) : Int) := rfl
  have hle : nrw (rung double x) ≤ single.infRung := Nat.le_of_lt hi
  constructor
  · unfold ndW naW
    rw [ng_word _ hle]
    have hn : isNaN single (single.word (!sgn double x) (nrw (rung double x))) = false := word_nan single _ hle
    have hni : ¬ (sgn single (single.word (!sgn double x) (nrw (rung double x))) = false ∧ rung single (single.word (!sgn double x) (nrw (rung double x))) = single.infRung) := by
      rw [rung_word single _ (Nat.lt_of_le_of_lt hle (inf_lt single))]; omega
    rw [ng_sv (nu_facts hn hni).2.1, e, Int.neg_mul]
    unfold PW
    generalize sv single (nuW (single.word (!sgn double x) (nrw (rung double x)))) * ((2 ^ W : Nat) : Int) = v at *
    cases hs : sgn double x <;> simp only [hs, Bool.not_false, Bool.not_true, if_true, Bool.false_eq_true, if_false] at d ⊢ <;> omega
  · rw [e]
    exact u
/-! rounding down and up -/
def rdW (x : Nat) : Nat := if sv double x < sv single (naW x) * PW then ndW (naW x) else naW x
def ruW (x : Nat) : Nat := if sv single (naW x) * PW < sv double x then nuW (naW x) else naW x
theorem na_num {x : Nat} (hi : nrw (rung double x) < single.infRung) : isNaN single (naW x) = false ∧ naW x < 4294967296 ∧ rung single (naW x) < single.infRung := by
  have hle := Nat.le_of_lt hi
  refine ⟨word_nan single _ hle, word_fit _ hle, ?_⟩
  unfold naW
  rw [rung_word single _ (Nat.lt_of_le_of_lt hle (inf_lt single))]; exact hi
/-- what is rounded down is the greatest single that is not greater -/
theorem rd_facts {x : Nat} (hi : nrw (rung double x) < single.infRung) : isNaN single (rdW x) = false ∧ rdW x < 4294967296 ∧ sv single (rdW x) * PW ≤ sv double x ∧
    ∀ z, z < 4294967296 → isNaN single z = false → sv single z * PW ≤ sv double x → sv single z ≤ sv single (rdW x) := by
  obtain ⟨n1, n2, n3⟩ := na_num hi
  obtain ⟨h1, h2⟩ := na_near hi
  have hp := PW_pos
  have mono : ∀ a b : Int, a * PW < b * PW → a < b := fun a b h => Int.lt_of_mul_lt_mul_right h (Int.le_of_lt hp)
  have u := nu_facts n1 (by omega)
  have d := nd_facts n2 n1 (by omega)
  unfold rdW
  by_cases c : sv double x < sv single (naW x) * PW
  · rw [if_pos c]
    refine ⟨d.1, d.2.1, Int.le_of_lt h1, fun z wz hz hle => d.2.2.2 z wz hz (mono _ _ (by omega))⟩
  · rw [if_neg c]
    refine ⟨n1, n2, by omega, fun z wz hz hle => ?_⟩
    have hz2 := mono _ _ (show sv single z * PW < sv single (nuW (naW x)) * PW by omega)
    rcases Int.lt_or_le (sv single (naW x)) (sv single z) with k | k
    · have := u.2.2.2 z hz k; omega
    · exact k
theorem ru_facts {x : Nat} (hi : nrw (rung double x) < single.infRung) : isNaN single (ruW x) = false ∧ ruW x < 4294967296 ∧ sv double x ≤ sv single (ruW x) * PW ∧
    ∀ z, z < 4294967296 → isNaN single z = false → sv double x ≤ sv single z * PW → sv single (ruW x) ≤ sv single z := by
  obtain ⟨n1, n2, n3⟩ := na_num hi
  obtain ⟨h1, h2⟩ := na_near hi
  have hp := PW_pos
  have mono : ∀ a b : Int, a * PW < b * PW → a < b := fun a b h => Int.lt_of_mul_lt_mul_right h (Int.le_of_lt hp)
  have u := nu_facts n1 (by omega)
  have d := nd_facts n2 n1 (by omega)
  unfold ruW
  by_cases c : sv single (naW x) * PW < sv double x
  · rw [if_pos c]
    refine ⟨u.1, u.2.1, Int.le_of_lt h2, fun z wz hz hle => u.2.2.2 z hz (mono _ _ (by omega))⟩
  · rw [if_neg c]
    refine ⟨n1, n2, by omega, fun z wz hz hle => ?_⟩
    have hz2 := mono _ _ (show sv single (ndW (naW x)) * PW < sv single z * PW by omega)
    rcases Int.lt_or_le (sv single z) (sv single (naW x)) with k | k
    · have := d.2.2.2 z wz hz k; omega
    · exact k
/-- what lies between two neighbors is rounded to them -/
theorem rd_mid {x z : Nat} (hi : nrw (rung double z) < single.infRung) (wx : x < 4294967296) (hx : isNaN single x = false) (hxi : ¬ (sgn single x = false ∧ rung single x = single.infRung))
    (h1 : sv single x * PW < sv double z) (h2 : sv double z < sv single (nuW x) * PW) : sv single (rdW z) = sv single x ∧ sv single (ruW z) = sv single (nuW x) := by
  have hp := PW_pos
  have mono : ∀ a b : Int, a * PW < b * PW → a < b := fun a b h => Int.lt_of_mul_lt_mul_right h (Int.le_of_lt hp)
  obtain ⟨u1, u2, u3, u4⟩ := nu_facts hx hxi
  obtain ⟨d1, d2, d3, d4⟩ := rd_facts hi
  obtain ⟨e1, e2, e3, e4⟩ := ru_facts hi
  have a1 := d4 x wx hx (by omega)
  have a2 := mono _ _ (show sv single (rdW z) * PW < sv single (nuW x) * PW by omega)
  have b1 := e4 (nuW x) u2 u1 (by omega)
  have b2 := mono _ _ (show sv single x * PW < sv single (ruW z) * PW by omega)
  constructor
  · rcases Int.lt_or_le (sv single x) (sv single (rdW z)) with k | k
    · have := u4 _ d1 k; omega
    · omega
  · have := u4 _ e1 b2; omega
/-- a product lies between the least and the greatest of the four products of the ends -/
theorem four_bd {a b c d x y m M : Int} (h1 : a ≤ x) (h2 : x ≤ b) (h3 : c ≤ y) (h4 : y ≤ d) (m1 : m ≤ a * c) (m2 : m ≤ a * d) (m3 : m ≤ b * c) (m4 : m ≤ b * d) (M1 : a * c ≤ M) (M2 : a * d ≤ M) (M3 : b * c ≤ M) (M4 : b * d ≤ M) : m ≤ x * y ∧ x * y ≤ M := by
  rcases Int.le_total 0 y with hy | hy
  · have p1 := Int.mul_le_mul_of_nonneg_right h1 hy
    have p2 := Int.mul_le_mul_of_nonneg_right h2 hy
    constructor
    · rcases Int.le_total 0 a with ha | ha
      · have := Int.mul_le_mul_of_nonneg_left h3 ha; omega
      · have := Int.mul_le_mul_of_nonpos_left ha h4; omega
    · rcases Int.le_total 0 b with hb | hb
      · have := Int.mul_le_mul_of_nonneg_left h4 hb; omega
      · have := Int.mul_le_mul_of_nonpos_left hb h3; omega
  · have p1 := Int.mul_le_mul_of_nonpos_right h2 hy
    have p2 := Int.mul_le_mul_of_nonpos_right h1 hy
    constructor
    · rcases Int.le_total 0 b with hb | hb
      · have := Int.mul_le_mul_of_nonneg_left h3 hb; omega
      · have := Int.mul_le_mul_of_nonpos_left hb h4; omega
    · rcases Int.le_total 0 a with ha | ha
      · have := Int.mul_le_mul_of_nonneg_left h4 ha; omega
      · have := Int.mul_le_mul_of_nonpos_left ha h3; omega
end Go.Proofs.Ytkjjeccgmeiniaa.Flt
