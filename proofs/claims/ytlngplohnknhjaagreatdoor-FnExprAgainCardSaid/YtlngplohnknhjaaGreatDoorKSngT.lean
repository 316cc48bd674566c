/- Plain facts: the text of a single, and that it tells the single. No walk stands here. -/
import Derived.Test.YtlngplohnknhjaaGreatDoorKMadeAgain
import Derived.Test.YtlngplohnknhjaaGreatDoorPkB
import Derived.Lib.Strings
namespace Go.Proofs.YtlngplohnknhjaaGreatDoor.Sng
open Go.ChangeShapes Go.WideShapes Go.ChangeAt Go.RowKit Go.Proofs.YtlngplohnknhjaaGreatDoor Go.Proofs.YtlngplohnknhjaaGreatDoor.Flt Go.Proofs.YtlngplohnknhjaaGreatDoor.Mth
set_option linter.unusedVariables false
theorem ex_mt (n : Nat) (h : 0 < n) : ∃ p : Nat × Nat, p.1 % 2 = 1 ∧ n = p.1 * 2 ^ p.2 := by
  obtain ⟨m, t, h1, h2⟩ := two_odd n h
  exact ⟨(m, t), h1, h2⟩
open Classical in
noncomputable def mtOf (n : Nat) : Nat × Nat := if h : 0 < n then (ex_mt n h).choose else (0, 0)
theorem mt_spec {n : Nat} (h : 0 < n) : (mtOf n).1 % 2 = 1 ∧ n = (mtOf n).1 * 2 ^ (mtOf n).2 := by
  unfold mtOf
  rw [dif_pos h]
  exact (ex_mt n h).choose_spec
/-- the mantissa and the exponent of a finite single that is not 0 -/
noncomputable def mOf (x : Nat) : Nat := (mtOf (ss Ieee.single (rung Ieee.single x))).1
noncomputable def eOf (x : Nat) : Int := (qq Ieee.single (rung Ieee.single x) : Int) + (mtOf (ss Ieee.single (rung Ieee.single x))).2 - 149
/-- finite, and not 0 -/
def Some' (x : Nat) : Prop := rung Ieee.single x < Ieee.single.infRung ∧ rung Ieee.single x ≠ 0
theorem parts {x : Nat} (h : Some' x) : 1 ≤ mOf x ∧ mOf x < 16777216 ∧ mOf x % 2 = 1 ∧ -149 ≤ eOf x ∧ eOf x ≤ 127 ∧ ∃ t : Nat, ss Ieee.single (rung Ieee.single x) = mOf x * 2 ^ t ∧ eOf x = (qq Ieee.single (rung Ieee.single x) : Int) + t - 149 := by
  obtain ⟨hf, h0⟩ := h
  have hq := qq_lt_single hf
  have hs' := ss_single (rung Ieee.single x)
  have hm := mt_spec (ss_pos h0)
  have hodd : mOf x % 2 = 1 := hm.1
  have he : ss Ieee.single (rung Ieee.single x) = mOf x * 2 ^ (mtOf (ss Ieee.single (rung Ieee.single x))).2 := hm.2
  have e2 : eOf x = (qq Ieee.single (rung Ieee.single x) : Int) + (mtOf (ss Ieee.single (rung Ieee.single x))).2 - 149 := rfl
  generalize (mtOf (ss Ieee.single (rung Ieee.single x))).2 = t at *
  have hm1 : 1 ≤ mOf x := by omega
  have hp2 : 2 ^ t ≤ mOf x * 2 ^ t := Nat.le_mul_of_pos_left _ hm1
  have ht : t ≤ 23 := by
    have h2 : 2 ^ t < 2 ^ 24 := by omega
    have := (Nat.pow_lt_pow_iff_right (by omega : 1 < 2)).1 h2
    omega
  have hm2 : mOf x < 16777216 := by
    have : mOf x * 1 ≤ mOf x * 2 ^ t := Nat.mul_le_mul_left _ (Nat.two_pow_pos _)
    omega
  exact ⟨hm1, hm2, hodd, by omega, by omega, t, he, e2⟩
def sgL (x : Nat) : List UInt8 := if sgn Ieee.single x then [45] else [43]
open Classical in
noncomputable def bodyL (x : Nat) : List UInt8 := if rung Ieee.single x = Ieee.single.infRung then [105, 110, 102] else if rung Ieee.single x = 0 then [48] else Lib.itoa (mOf x : Int) ++ 112 :: Lib.itoa (eOf x)
/-- the text of a single -/
noncomputable def fmtL (x : Nat) : List UInt8 := if isNaN Ieee.single x then [110, 97, 110] else sgL x ++ bodyL x
theorem fmt_nan {x : Nat} (h : isNaN Ieee.single x = true) : fmtL x = [110, 97, 110] := by unfold fmtL; rw [h]; rfl
theorem fmt_num {x : Nat} (h : isNaN Ieee.single x = false) : fmtL x = sgL x ++ bodyL x := by unfold fmtL; rw [h]; rfl
theorem body_inf {x : Nat} (h : rung Ieee.single x = Ieee.single.infRung) : bodyL x = [105, 110, 102] := if_pos h
theorem body_zero {x : Nat} (h : rung Ieee.single x = 0) : bodyL x = [48] := by
  unfold bodyL
  rw [if_neg (by rw [h]; decide), if_pos h]
theorem body_some {x : Nat} (h : Some' x) : bodyL x = Lib.itoa (mOf x : Int) ++ 112 :: Lib.itoa (eOf x) := by
  unfold bodyL
  rw [if_neg (by have := h.1; omega), if_neg h.2]
theorem sg_signOf {x : Nat} (h : isNaN Ieee.single x = false) : (fnExactSignText.signOf x).data.toList = sgL x ∧ (fnExactSignText.signOf x).toList = sgL x := by
  have : (fnExactSignText.signOf x).data.toList = sgL x := by
    unfold fnExactSignText.signOf sgL
    rw [h]
    cases sgn Ieee.single x <;> rfl
  exact ⟨this, by rw [Lib.toList_data]; exact this⟩
/-- the three kinds of a single that is a number -/
theorem kinds {x : Nat} (h : isNaN Ieee.single x = false) : rung Ieee.single x = Ieee.single.infRung ∨ rung Ieee.single x = 0 ∨ Some' x := by
  unfold isNaN at h
  have h := of_decide_eq_false h
  by_cases h1 : rung Ieee.single x = Ieee.single.infRung
  · exact .inl h1
  · by_cases h2 : rung Ieee.single x = 0
    · exact .inr (.inl h2)
    · exact .inr (.inr ⟨by omega, h2⟩)
theorem itoa_pos {m : Nat} : Lib.itoa (m : Int) = Lib.decDigits m := Lib.itoa_nonneg m
theorem digits_some (m : Nat) : ∃ c l, Lib.decDigits m = c :: l := by
  by_cases h : m < 10
  · exact ⟨_, _, Lib.decDigits_one h⟩
  · rw [Lib.decDigits, dif_neg h]
    cases hl : Lib.decDigits (m / 10) with
    | nil => exact ⟨_, _, rfl⟩
    | cons c l => exact ⟨_, _, rfl⟩
theorem some_head {x : Nat} (h : Some' x) : ∃ c l, Lib.decDigits (mOf x) = c :: l ∧ Pu.dig c := by
  obtain ⟨c, l, hl⟩ := digits_some (mOf x)
  exact ⟨c, l, hl, (Pu.dec_facts (mOf x)).2 c (by rw [hl]; exact List.mem_cons_self ..)⟩
theorem not_dig {c : UInt8} {n : Nat} (h : Pu.dig c) (hc : c.toNat = n) (hn : n < 48 ∨ 57 < n) : False := by unfold Pu.dig at h; omega
theorem body_is_inf {x : Nat} (hn : isNaN Ieee.single x = false) (h : bodyL x = [105, 110, 102]) : rung Ieee.single x = Ieee.single.infRung := by
  rcases kinds hn with h1 | h1 | h1
  · exact h1
  · rw [body_zero h1] at h; exact absurd h (by decide)
  · obtain ⟨c, l, hl, hd⟩ := some_head h1
    rw [body_some h1, itoa_pos, hl] at h
    injection h with h2 _
    exact (not_dig hd (by rw [h2]; rfl) (.inr (by decide : (57 : Nat) < 105))).elim
theorem body_is_zero {x : Nat} (hn : isNaN Ieee.single x = false) (h : bodyL x = [48]) : rung Ieee.single x = 0 := by
  rcases kinds hn with h1 | h1 | h1
  · rw [body_inf h1] at h; exact absurd h (by decide)
  · exact h1
  · obtain ⟨c, l, hl, hd⟩ := some_head h1
    rw [body_some h1, itoa_pos, hl] at h
    have := congrArg List.length h
    simp at this
/-- a single that is a number, out of its sign and its kind -/
theorem sgd_inf {x : Nat} (wx : x < 2 ^ Ieee.single.width) (h : rung Ieee.single x = Ieee.single.infRung) (s : ByteArray) (hs : s.toList = sgL x) : Sgd.out s 2139095040 = (x, true) := by
  have nx : isNaN Ieee.single x = false := decide_eq_false (by omega)
  have := Mag.sg_out wx nx
  rw [h, inf_single] at this
  unfold Sgd.out at this ⊢
  rw [(sg_signOf nx).2] at this
  rw [hs]
  exact this
theorem sgd_zero {x : Nat} (wx : x < 2 ^ Ieee.single.width) (h : rung Ieee.single x = 0) (s : ByteArray) (hs : s.toList = sgL x) : Sgd.out s 0 = (x, true) := by
  have nx : isNaN Ieee.single x = false := isNaN_rung0 _ h
  have := Mag.sg_out wx nx
  rw [h] at this
  unfold Sgd.out at this ⊢
  rw [(sg_signOf nx).2] at this
  rw [hs]
  exact this
theorem out_sign {s t : ByteArray} (h : s.toList = t.toList) (m e : Int) : Mks.out s m e = Mks.out t m e := by
  have : s = t := Pu.bytes_inj h
  rw [this]
theorem made_some {x : Nat} (wx : x < 2 ^ Ieee.single.width) (h : Some' x) (s : ByteArray) (hs : s.toList = sgL x) : Mks.out s (mOf x) (eOf x) = (x, true) := by
  obtain ⟨h1, h2, h3, h4, h5, t, h6, h7⟩ := parts h
  have nx : isNaN Ieee.single x = false := decide_eq_false (by have := h.1; omega)
  rw [out_sign (t := fnExactSignText.signOf x) (by rw [hs, (sg_signOf nx).2]), h7]
  exact Mag.again_main wx h.1 h3 h6
theorem sg_one (x : Nat) : ∃ c, sgL x = [c] ∧ (c = 45 ∨ c = 43) := by
  unfold sgL
  cases sgn Ieee.single x
  · exact ⟨43, rfl, .inr rfl⟩
  · exact ⟨45, rfl, .inl rfl⟩
theorem fmt_not_nan {x : Nat} (h : isNaN Ieee.single x = false) : fmtL x ≠ [110, 97, 110] := by
  rw [fmt_num h]
  obtain ⟨c, hc, h2⟩ := sg_one x
  rw [hc]
  intro e
  injection e with e1 _
  rcases h2 with rfl | rfl <;> exact absurd e1 (by decide)
/-- the digits before a p, and what stands behind it -/
theorem split_p : ∀ {a b c d : List UInt8}, (∀ x ∈ a, x ≠ 112) → (∀ x ∈ c, x ≠ 112) → a ++ 112 :: b = c ++ 112 :: d → a = c ∧ b = d := by
  intro a
  induction a with
  | nil =>
    intro b c d _ hc h
    cases c with
    | nil => exact ⟨rfl, by injection h⟩
    | cons y c => injection h with h1 _; exact absurd h1.symm (hc y (List.mem_cons_self ..))
  | cons x a ih =>
    intro b c d ha hc h
    cases c with
    | nil => injection h with h1 _; exact absurd h1 (ha x (List.mem_cons_self ..))
    | cons y c =>
      injection h with h1 h2
      have := ih (fun z hz => ha z (List.mem_cons_of_mem _ hz)) (fun z hz => hc z (List.mem_cons_of_mem _ hz)) h2
      exact ⟨by rw [h1, this.1], this.2⟩
theorem dec_no_p (m : Nat) : ∀ x ∈ Lib.decDigits m, x ≠ 112 := by
  intro x hx e
  subst e
  exact not_dig ((Pu.dec_facts m).2 _ hx) rfl (.inr (by decide : (57 : Nat) < 112))
theorem dec_inj {m n : Nat} (h : Lib.decDigits m = Lib.decDigits n) : m = n := by rw [← (Pu.dec_facts m).1, h, (Pu.dec_facts n).1]
theorem itoa_neg' {e : Int} (h : e < 0) : Lib.itoa e = 45 :: Lib.decDigits (-e).toNat := by
  obtain ⟨u, rfl⟩ : ∃ u : Nat, e = -(u : Int) := ⟨(-e).toNat, by omega⟩
  rw [Lib.itoa_neg u (by omega)]
  congr 2
  omega
theorem itoa_pos' {e : Int} (h : 0 ≤ e) : Lib.itoa e = Lib.decDigits e.toNat := by
  obtain ⟨u, rfl⟩ := Int.eq_ofNat_of_zero_le h
  exact Lib.itoa_nonneg u
theorem dec_no_minus (m : Nat) (l : List UInt8) : Lib.decDigits m ≠ 45 :: l := by
  intro h
  exact not_dig ((Pu.dec_facts m).2 45 (by rw [h]; exact List.mem_cons_self ..)) rfl (.inl (by decide : (45 : Nat) < 48))
theorem itoa_inj {a b : Int} (h : Lib.itoa a = Lib.itoa b) : a = b := by
  by_cases ha : a < 0 <;> by_cases hb : b < 0
  · rw [itoa_neg' ha, itoa_neg' hb] at h
    injection h with _ h
    have := dec_inj h
    omega
  · rw [itoa_neg' ha, itoa_pos' (by omega)] at h
    exact absurd h.symm (dec_no_minus _ _)
  · rw [itoa_pos' (by omega), itoa_neg' hb] at h
    exact absurd h (dec_no_minus _ _)
  · rw [itoa_pos' (by omega), itoa_pos' (by omega)] at h
    have := dec_inj h
    omega
theorem sg_body {x y : Nat} (h : sgL x ++ bodyL x = sgL y ++ bodyL y) : sgL x = sgL y ∧ bodyL x = bodyL y := by
  obtain ⟨c, hc, _⟩ := sg_one x
  obtain ⟨d, hd, _⟩ := sg_one y
  rw [hc, hd] at h ⊢
  injection h with h1 h2
  exact ⟨by rw [h1], h2⟩
theorem fmt_inj {x y : Nat} (wx : x < 2 ^ Ieee.single.width) (wy : y < 2 ^ Ieee.single.width) (h : fmtL x = fmtL y) : sameW Ieee.single x y = true := by
  rw [sameW_iff]
  cases nx : isNaN Ieee.single x <;> cases ny : isNaN Ieee.single y
  · refine .inr ⟨rfl, rfl, ?_⟩
    rw [fmt_num nx, fmt_num ny] at h
    obtain ⟨hs, hb⟩ := sg_body h
    have hst := (sg_signOf nx).2
    have key : (x, true) = (y, true) := by
      rcases kinds nx with k | k | k
      · have k2 := body_is_inf ny (by rw [← hb, body_inf k])
        rw [← sgd_inf wx k _ hst, ← sgd_inf wy k2 _ (by rw [hst, hs])]
      · have k2 := body_is_zero ny (by rw [← hb, body_zero k])
        rw [← sgd_zero wx k _ hst, ← sgd_zero wy k2 _ (by rw [hst, hs])]
      · have k2 : Some' y := by
          rcases kinds ny with k2 | k2 | k2
          · have := body_is_inf nx (by rw [hb, body_inf k2])
            have := k.1
            omega
          · exact absurd (body_is_zero nx (by rw [hb, body_zero k2])) k.2
          · exact k2
        rw [body_some k, body_some k2, itoa_pos, itoa_pos] at hb
        obtain ⟨p1, p2⟩ := split_p (dec_no_p _) (dec_no_p _) hb
        rw [← made_some wx k _ hst, ← made_some wy k2 _ (by rw [hst, hs]), dec_inj p1, itoa_inj p2]
    injection key
  · exact absurd (h.trans (fmt_nan ny)) (fmt_not_nan nx)
  · exact absurd (h.symm.trans (fmt_nan nx)) (fmt_not_nan ny)
  · exact .inl ⟨rfl, rfl⟩
theorem fmt_len {x : Nat} : 2 ≤ (fmtL x).length ∧ (fmtL x).length ≤ 20 := by
  cases nx : isNaN Ieee.single x
  · rw [fmt_num nx]
    obtain ⟨c, hc, _⟩ := sg_one x
    rw [hc, List.length_append, List.length_singleton]
    rcases kinds nx with k | k | k
    · rw [body_inf k]; decide
    · rw [body_zero k]; decide
    · obtain ⟨h1, h2, h3, h4, h5, t, h6, h7⟩ := parts k
      rw [body_some k, List.length_append, List.length_cons, itoa_pos]
      have e1 : (Lib.decDigits (mOf x)).length ≤ 8 := by
        rw [Lib.decDigits_length]
        apply Nat.le_of_not_lt
        intro hc
        have hb : ∀ k u, k + 1 < Lib.nDigits u → 10 ^ (k + 1) ≤ u := by
          intro k
          induction k with
          | zero =>
            intro u hu
            apply Nat.le_of_not_lt
            intro hlt
            rw [Lib.nDigits_small (by simpa using hlt)] at hu
            omega
          | succ k ih =>
            intro u hu
            by_cases h10 : u < 10
            · rw [Lib.nDigits_small h10] at hu; omega
            · rw [Lib.nDigits_big h10] at hu
              have := ih (u / 10) (by omega)
              rw [Nat.pow_succ]
              omega
        have := hb 7 (mOf x) (by omega)
        omega
      have e2 : (Lib.itoa (eOf x)).length ≤ 10 := by
        by_cases he : eOf x < 0
        · rw [itoa_neg' he, List.length_cons, Lib.decDigits_length]
          have a1 : (-eOf x).toNat < 1000 := by omega
          generalize (-eOf x).toNat = u at a1
          have : Lib.nDigits u ≤ 3 := by
            by_cases b1 : u < 10
            · rw [Lib.nDigits_small b1]; omega
            · rw [Lib.nDigits_big b1]
              by_cases b2 : u / 10 < 10
              · rw [Lib.nDigits_small b2]; omega
              · rw [Lib.nDigits_big b2, Lib.nDigits_small (by omega)]; omega
          omega
        · rw [itoa_pos' (by omega), Lib.decDigits_length]
          exact Pu.nDigits_le10 _ (by omega)
      omega
  · rw [fmt_nan nx]; decide
end Go.Proofs.YtlngplohnknhjaaGreatDoor.Sng
