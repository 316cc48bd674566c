/- What is written is read as the same expression. Plain facts: no walk stands here. -/
import Derived.Test.YtlngplohnknhjaaGreatDoorKExpTx
namespace Go.Proofs.YtlngplohnknhjaaGreatDoor.Px
open Go.RowKit Go.Proofs.YtlngplohnknhjaaGreatDoor Go.Proofs.YtlngplohnknhjaaGreatDoor.Flt Go.Proofs.YtlngplohnknhjaaGreatDoor.Ex Go.Proofs.YtlngplohnknhjaaGreatDoor.Sng
set_option linter.unusedVariables false
set_option linter.unusedSimpArgs false
/-! numbers -/
/-- what may stand behind a number -/
def Nfol (r : Tx) : Prop := r = [] ∨ ∃ c q, r = c :: q ∧ (c = 32 ∨ c = 41)
theorem Fol.n {k : Nat} {r : Tx} (h : Fol k r) : Nfol r := by
  rcases h with (rfl | rfl) | ⟨q, rfl⟩ | ⟨j, q, _, _, rfl⟩
  · exact .inl rfl
  · exact .inr ⟨32, [], rfl, .inl rfl⟩
  · exact .inr ⟨41, q, rfl, .inr rfl⟩
  · exact .inr ⟨32, _, rfl, .inl rfl⟩
theorem dig_isD {c : UInt8} (h : Pu.dig c) : isD c = true := by
  unfold isD; rw [decide_eq_true h.1, decide_eq_true h.2]; rfl
theorem tw_all : ∀ {l r : Tx}, (∀ c ∈ l, isD c = true) → (r = [] ∨ ∃ c q, r = c :: q ∧ isD c = false) → (l ++ r).takeWhile isD = l
  | [], r, _, hr => by
    rcases hr with rfl | ⟨c, q, rfl, hc⟩
    · rfl
    · show List.takeWhile isD (c :: q) = []
      rw [List.takeWhile_cons, hc]; rfl
  | a :: l, r, hl, hr => by
    show List.takeWhile isD (a :: (l ++ r)) = _
    rw [List.takeWhile_cons, hl a (by simp), tw_all (fun c hc => hl c (by simp [hc])) hr]; rfl
theorem dg_all {l r : Tx} (hl : ∀ c ∈ l, isD c = true) (hr : r = [] ∨ ∃ c q, r = c :: q ∧ isD c = false) : dg (l ++ r) = l.length := by unfold dg; rw [tw_all hl hr]
theorem dec_isD (m : Nat) : ∀ c ∈ Lib.decDigits m, isD c = true := fun c hc => dig_isD ((Pu.dec_facts m).2 c hc)
theorem Nfol.noD {r : Tx} (h : Nfol r) : r = [] ∨ ∃ c q, r = c :: q ∧ isD c = false := by
  rcases h with h | ⟨c, q, h, rfl | rfl⟩
  · exact .inl h
  · exact .inr ⟨32, q, h, by decide⟩
  · exact .inr ⟨41, q, h, by decide⟩
theorem Nfol.noP {r : Tx} (h : Nfol r) {c : UInt8} (h1 : c ≠ 32) (h2 : c ≠ 41) : Lib.hasPrefix r [c] = false := by
  unfold Lib.hasPrefix
  rcases h with rfl | ⟨d, q, rfl, rfl | rfl⟩
  · rfl
  · simp [List.isPrefixOf, h1]
  · simp [List.isPrefixOf, h2]
theorem pre_cons (c : UInt8) (l : Tx) : Lib.hasPrefix (c :: l) [c] = true ∧ Lib.trimPrefix (c :: l) [c] = l := by
  have h : Lib.hasPrefix (c :: l) [c] = true := by unfold Lib.hasPrefix; simp [List.isPrefixOf]
  refine ⟨h, ?_⟩
  unfold Lib.trimPrefix
  rw [if_pos h]; rfl
theorem pre_no {p l : Tx} (h : Lib.hasPrefix l p = false) : Lib.trimPrefix l p = l := by unfold Lib.trimPrefix; rw [h]; rfl
theorem hp_ne {c d : UInt8} {l : Tx} (h : c ≠ d) : Lib.hasPrefix (d :: l) [c] = false := by unfold Lib.hasPrefix; simp [List.isPrefixOf, h]
theorem not32 {c : UInt8} (h : isD c = true) {d : UInt8} (hd : isD d = false) : c ≠ d := fun e => by rw [e, hd] at h; cases h
theorem some_of {f : Nat} (h : f < 2139095040) (h0 : f ≠ 0) : Some' f := by
  have hr : rung Ieee.single f = f := by unfold rung; rw [show Ieee.single.signWeight = 2147483648 from rfl]; exact Nat.mod_eq_of_lt (by omega)
  exact ⟨by rw [hr]; exact h, by rw [hr]; exact h0⟩
theorem zero_of : bodyL 0 = [48] := body_zero (by decide)
theorem num_ahead {f : Nat} {r : Tx} (hf : f < 2139095040) (hr : Nfol r ∨ ∃ q, r = 105 :: q) : numA (bodyL f ++ r) = bodyL f := by
  have hnd : r = [] ∨ ∃ c q, r = c :: q ∧ isD c = false := by
    rcases hr with h | ⟨q, rfl⟩
    · exact h.noD
    · exact .inr ⟨105, q, rfl, by decide⟩
  have hnp : Lib.hasPrefix r [112] = false := by
    rcases hr with h | ⟨q, rfl⟩
    · exact h.noP (by decide) (by decide)
    · exact hp_ne (by decide)
  by_cases h0 : f = 0
  · subst h0
    rw [zero_of]
    unfold numA
    have hd : dg ([48] ++ r) = 1 := dg_all (l := [48]) (by intro c hc; simp at hc; subst hc; decide) hnd
    simp only [hd]
    rw [show List.drop 1 ([48] ++ r) = r from rfl, hnp]
    simp
  · rw [body_some (some_of hf h0), itoa_pos]
    obtain ⟨m, hm⟩ : ∃ m, mOf f = m := ⟨_, rfl⟩
    obtain ⟨e, he⟩ : ∃ e, eOf f = e := ⟨_, rfl⟩
    rw [hm, he]
    obtain ⟨c, l, hcl⟩ := digits_some m
    have hlen : (Lib.decDigits m).length ≠ 0 := by rw [hcl]; simp
    have hd : dg ((Lib.decDigits m ++ 112 :: Lib.itoa e) ++ r) = (Lib.decDigits m).length := by
      rw [List.append_assoc]
      exact dg_all (dec_isD m) (.inr ⟨112, _, rfl, by decide⟩)
    unfold numA
    simp only [hd]
    have hdrop : ((Lib.decDigits m ++ 112 :: Lib.itoa e) ++ r).drop (Lib.decDigits m).length = 112 :: (Lib.itoa e ++ r) := by
      rw [List.append_assoc, List.drop_left]; rfl
    rw [hdrop, (pre_cons 112 _).1, (pre_cons 112 _).2]
    obtain ⟨k, hk, hpre, hsz⟩ : ∃ k : Nat, (Lib.trimPrefix (Lib.itoa e ++ r) [45] = Lib.decDigits k ++ r) ∧ True ∧ (Lib.itoa e).length ≥ (Lib.decDigits k).length := by
      by_cases he0 : e < 0
      · refine ⟨(-e).toNat, ?_, trivial, by rw [itoa_neg' he0]; simp⟩
        rw [itoa_neg' he0]; exact (pre_cons 45 _).2
      · refine ⟨e.toNat, ?_, trivial, by rw [itoa_pos' (by omega)]; exact Nat.le_refl _⟩
        rw [itoa_pos' (by omega)]
        obtain ⟨c2, l2, h2⟩ := digits_some e.toNat
        refine pre_no ?_
        rw [h2]
        exact hp_ne (fun h9 => not32 (dec_isD e.toNat c2 (by rw [h2]; simp)) (by decide : isD 45 = false) h9.symm)
    rw [hk]
    have hd2 : dg (Lib.decDigits k ++ r) = (Lib.decDigits k).length := dg_all (dec_isD k) hnd
    rw [hd2]
    obtain ⟨c3, l3, h3⟩ := digits_some k
    have hl3 : (Lib.decDigits k).length ≠ 0 := by rw [h3]; simp
    rw [if_neg (by simp [hlen, hl3])]
    have hN : ((Lib.decDigits m ++ 112 :: Lib.itoa e) ++ r).length - (Lib.decDigits k ++ r).length + (Lib.decDigits k).length = (Lib.decDigits m ++ 112 :: Lib.itoa e).length := by
      simp only [List.length_append, List.length_cons]
      omega
    rw [hN, List.take_left]
/-- the first byte of a number -/
theorem body_head {f : Nat} (hf : f < 2139095040) : ∃ c l, bodyL f = c :: l ∧ isD c = true := by
  by_cases h0 : f = 0
  · subst h0; exact ⟨48, [], zero_of, by decide⟩
  · obtain ⟨c, l, hcl⟩ := digits_some (mOf f)
    refine ⟨c, l ++ 112 :: Lib.itoa (eOf f), ?_, dec_isD (mOf f) c (by rw [hcl]; simp)⟩
    rw [body_some (some_of hf h0), itoa_pos, hcl]; rfl
/-- no operator and no word begins with another byte -/
theorem none_dig {c : UInt8} {l : Tx} (h : isD c = true) : opr 4 (c :: l) = none ∧ opr 5 (c :: l) = none ∧ tk [40] (c :: l) = none ∧ tk [115] (c :: l) = none := by
  have ne : ∀ d, isD d = false → (d == c) = false := fun d hd => beq_eq_false_iff_ne.2 (fun e => by rw [e, h] at hd; cases hd)
  have n32 : (c == 32) = false := beq_eq_false_iff_ne.2 (not32 h (by decide))
  have t : ∀ d p, isD d = false → tk (d :: p) (c :: l) = none := fun d p hd => tk_ne n32 (ne d hd)
  refine ⟨?_, ?_, t 40 [] (by decide), t 115 [] (by decide)⟩
  · unfold opr kindsOf txL
    simp [t 43 [] (by decide), t 45 [] (by decide)]
  · unfold opr kindsOf txL
    simp [t 99 [111, 110, 106] (by decide), t 114 [101] (by decide), t 105 [109] (by decide)]
theorem none_slot (l : Tx) : opr 4 (115 :: l) = none ∧ opr 5 (115 :: l) = none ∧ tk [40] (115 :: l) = none ∧ tk [115] (115 :: l) = some l := by
  refine ⟨?_, ?_, tk_ne (by decide) (by decide), tk_cons (by decide)⟩ <;>
    (unfold opr kindsOf txL; simp [tk, sk, Lib.trimLeftB, Lib.hasPrefix, List.isPrefixOf])
theorem none_open (l : Tx) : opr 4 (40 :: l) = none ∧ opr 5 (40 :: l) = none ∧ tk [40] (40 :: l) = some l := by
  refine ⟨?_, ?_, tk_cons (by decide)⟩ <;>
    (unfold opr kindsOf txL; simp [tk, sk, Lib.trimLeftB, Lib.hasPrefix, List.isPrefixOf])
theorem some_sign {k : Int} (h : k = 3 ∨ k = 4) (l : Tx) : opr 4 (txL k ++ l) = some (k, l) := by
  rcases h with rfl | rfl <;> (unfold opr kindsOf txL; simp [tk, sk, Lib.trimLeftB, Lib.hasPrefix, List.isPrefixOf])
theorem some_word {k : Int} (h : k = 5 ∨ k = 6 ∨ k = 7) (l : Tx) : opr 4 (txL k ++ l) = none ∧ opr 5 (txL k ++ l) = some (k, l) := by
  rcases h with rfl | rfl | rfl <;> (unfold opr kindsOf txL; simp [tk, sk, Lib.trimLeftB, Lib.hasPrefix, List.isPrefixOf])
/-! spaces ahead -/
theorem R.space_f {xs ys : List Nd} {l r : Tx} (h : R .factor xs l ys r) : R .factor xs (32 :: l) ys r := by
  cases h with
  | un a b c => exact .un (by rw [opr_space]; exact a) b c
  | fn a b c d e => exact .fn (by rw [opr_space]; exact a) (by rw [opr_space]; exact b) c d e
  | par a b c d => exact .par (by rw [opr_space]; exact a) (by rw [opr_space]; exact b) (by rw [tk_space]; exact c) d
  | slot a b c d e f => exact .slot (by rw [opr_space]; exact a) (by rw [opr_space]; exact b) (by rw [tk_space]; exact c) (by rw [tk_space]; exact d) e f
  | real a b c d e f g h1 i j => exact .real (by rw [opr_space]; exact a) (by rw [opr_space]; exact b) (by rw [tk_space]; exact c) (by rw [tk_space]; exact d) (by rw [sk_space]; exact e) (by rw [sk_space]; exact f) g h1 i j
  | imag a b c d e f g h1 i j => exact .imag (by rw [opr_space]; exact a) (by rw [opr_space]; exact b) (by rw [tk_space]; exact c) (by rw [tk_space]; exact d) (by rw [sk_space]; exact e) (by rw [sk_space]; exact f) g h1 i j
theorem R.space4 {xs ys : List Nd} {l r : Tx} (h : R (.chain 4) xs l ys r) : R (.chain 4) xs (32 :: l) ys r := by
  cases h with
  | four a => exact .four a.space_f
  | chain h1 h2 a b => omega
theorem R.space {k : Nat} (hk : 1 ≤ k ∧ k ≤ 4) {xs ys : List Nd} {l r : Tx} (h : R (.chain k) xs l ys r) : R (.chain k) xs (32 :: l) ys r := by
  have s3 : ∀ {xs ys : List Nd} {l r : Tx}, R (.chain 3) xs l ys r → R (.chain 3) xs (32 :: l) ys r := fun h => by
    cases h with
    | chain h1 h2 a b => exact .chain h1 h2 a.space4 b
  have s2 : ∀ {xs ys : List Nd} {l r : Tx}, R (.chain 2) xs l ys r → R (.chain 2) xs (32 :: l) ys r := fun h => by
    cases h with
    | chain h1 h2 a b => exact .chain h1 h2 (s3 a) b
  obtain rfl | rfl | rfl | rfl : k = 1 ∨ k = 2 ∨ k = 3 ∨ k = 4 := by omega
  · cases h with
    | chain h1 h2 a b => exact .chain h1 h2 (s2 a) b
  · exact s2 h
  · exact s3 h
  · exact h.space4
/-! written and read -/
/-- what is read of an operand in a chain, with what comes behind it -/
def Sp (t : Tr) (k : Nat) : Prop := ∀ (xs zs : List Nd) (r o : Tx), Fol (k + 1) r → (xs ++ pf t).length ≤ 60 → R (.loop k) (xs ++ pf t) r zs o → R (.chain k) xs (par k t ++ r) zs o
def Ch (t : Tr) (k : Nat) : Prop := ∀ (xs : List Nd) (r : Tx), Fol k r → (xs ++ pf t).length ≤ 60 → R (.chain k) xs (par k t ++ r) (xs ++ pf t) r
def Gf (t : Tr) : Prop := ∀ (xs : List Nd) (r : Tx), Fol 4 r → (xs ++ pf t).length ≤ 60 → R .factor xs (par 4 t ++ r) (xs ++ pf t) r
theorem ch_of_sp {t : Tr} {k : Nat} (hk : k = 1 ∨ k = 2 ∨ k = 3) (h : Sp t k) : Ch t k := fun xs r hf hl => h xs _ r _ (hf.up (by omega)) hl (.stop (hf.opr hk (Nat.le_refl _)))
theorem ch_four {t : Tr} (h : Gf t) : Ch t 4 := fun xs r hf hl => .four (h xs r hf hl)
theorem par_next {t : Tr} {k : Nat} (h : strT t ≠ k) : par k t = par (k + 1) t := by
  unfold par
  by_cases h1 : strT t < k
  · rw [if_pos h1, if_pos (by omega)]
  · rw [if_neg h1, if_neg (by omega)]
theorem desc {t : Tr} {k : Nat} (hk : 1 ≤ k ∧ k ≤ 3) (hs : strT t ≠ k) (h : Ch t (k + 1)) : Sp t k := fun xs zs r o hf hl hR => by
  rw [par_next hs]
  exact .chain hk.1 hk.2 (h xs r hf hl) hR
theorem fol_close (k : Nat) (q : Tx) : Fol k (41 :: q) := .inr (.inl ⟨q, rfl⟩)
theorem gf_par {t : Tr} (hs : strT t < 4) (hs1 : 1 ≤ strT t) (h : Ch t 1) : Gf t := fun xs r hf hl => by
  unfold par
  rw [if_pos hs]
  have e : 40 :: txT t ++ [41] ++ r = 40 :: (par 1 t ++ 41 :: r) := by
    have : par 1 t = txT t := if_neg (by omega)
    rw [this]; simp
  rw [e]
  obtain ⟨h1, h2, h3⟩ := none_open (par 1 t ++ 41 :: r)
  exact .par h1 h2 h3 (.encl (h xs _ (fol_close 1 r) hl) (tk_cons (by decide)))
theorem up_all {t : Tr} (hs : 4 ≤ strT t) (h : Gf t) : Sp t 3 ∧ Sp t 2 ∧ Sp t 1 := by
  have s3 : Sp t 3 := desc (by omega) (by omega) (ch_four h)
  have s2 : Sp t 2 := desc (by omega) (by omega) (ch_of_sp (by omega) s3)
  exact ⟨s3, s2, desc (by omega) (by omega) (ch_of_sp (by omega) s2)⟩
/-- all that is read of a tree -/
structure Good (t : Tr) : Prop where
  s1 : Sp t 1
  s2 : Sp t 2
  s3 : Sp t 3
  g : Gf t
theorem Good.ch {t : Tr} (h : Good t) {k : Nat} (hk : 1 ≤ k ∧ k ≤ 4) : Ch t k := by
  obtain rfl | rfl | rfl | rfl : k = 1 ∨ k = 2 ∨ k = 3 ∨ k = 4 := by omega
  · exact ch_of_sp (by omega) h.s1
  · exact ch_of_sp (by omega) h.s2
  · exact ch_of_sp (by omega) h.s3
  · exact ch_four h.g
theorem Good.sp {t : Tr} (h : Good t) {k : Nat} (hk : k = 1 ∨ k = 2 ∨ k = 3) : Sp t k := by
  rcases hk with rfl | rfl | rfl
  · exact h.s1
  · exact h.s2
  · exact h.s3
theorem good_of_g {t : Tr} (hs : 4 ≤ strT t) (h : Gf t) : Good t := by
  obtain ⟨a, b, c⟩ := up_all hs h
  exact ⟨c, b, a, h⟩
theorem good_of_s {t : Tr} {s : Nat} (hs : s = 1 ∨ s = 2 ∨ s = 3) (he : strT t = s) (h : Sp t s) : Good t := by
  rcases hs with rfl | rfl | rfl
  · have g := gf_par (by omega) (by omega) (ch_of_sp (by omega) h)
    have s3 : Sp t 3 := desc (by omega) (by omega) (ch_four g)
    exact ⟨h, desc (by omega) (by omega) (ch_of_sp (by omega) s3), s3, g⟩
  · have s1 : Sp t 1 := desc (by omega) (by omega) (ch_of_sp (by omega) h)
    have g := gf_par (by omega) (by omega) (ch_of_sp (by omega) s1)
    exact ⟨s1, h, desc (by omega) (by omega) (ch_four g), g⟩
  · have s2 : Sp t 2 := desc (by omega) (by omega) (ch_of_sp (by omega) h)
    have s1 : Sp t 1 := desc (by omega) (by omega) (ch_of_sp (by omega) s2)
    exact ⟨s1, s2, h, gf_par (by omega) (by omega) (ch_of_sp (by omega) s1)⟩
/-- a chain: the first operand, and what stands behind -/
theorem sp_bin {j : Int} {u v : Tr} (hj : 8 ≤ j ∧ j ≤ 12) (hu : Good u) (hv : Good v) : Sp (.bin j u v) (stgN j) := fun xs zs r o hf hl hR => by
  have hs := stg_bin hj
  obtain ⟨k, hk⟩ : ∃ k, stgN j = k := ⟨_, rfl⟩
  have hpar : par (stgN j) (.bin j u v) = txT (.bin j u v) := if_neg (by show ¬ stgN j < stgN j; omega)
  rw [hpar, txT_bin]
  rw [hk] at hs hf hR ⊢
  have e : par k u ++ 32 :: (txL j ++ 32 :: par (k + 1) v) ++ r = par k u ++ 32 :: (txL j ++ 32 :: (par (k + 1) v ++ r)) := by simp
  rw [e]
  have hp : pf (.bin j u v) = pf u ++ (pf v ++ [opN j]) := rfl
  rw [hp] at hl hR
  simp only [List.length_append, List.length_cons, List.length_nil] at hl
  refine hu.sp hs xs zs _ o (.inr (.inr ⟨j, _, hj, by omega, rfl⟩)) (by rw [List.length_append]; omega) ?_
  refine .more (by rw [opr_space, ← hk]; exact opr_this hj) ((hv.ch (by omega) (xs ++ pf u) r hf (by simp only [List.length_append]; omega)).space (by omega)) (by show (xs ++ pf u ++ pf v).length < 60; simp only [List.length_append]; omega) ?_
  have e2 : xs ++ pf u ++ pf v ++ [opN j] = xs ++ (pf u ++ (pf v ++ [opN j])) := by simp
  rw [e2]
  exact hR
theorem leaf_good {n : Nd} (h : n.ok) (hk : n.k ≤ 2) : Good (.leaf n) := by
  refine good_of_g (by show 4 ≤ 5; omega) fun xs r hf hl => ?_
  have hpar : par 4 (.leaf n) = leafL n := if_neg (by show ¬ 5 < 4; omega)
  have hl' : xs.length < 60 := by
    have : (pf (.leaf n)).length = 1 := rfl
    rw [List.length_append, this] at hl; omega
  rw [hpar]
  show R .factor xs (leafL n ++ r) (xs ++ [n]) r
  have hn := hf.n
  obtain ⟨k, s, x, y⟩ := n
  unfold leafL
  rcases h with hc | hc | hc
  · obtain rfl : k = 1 := hc.1
    obtain rfl : s = 0 := hc.2.1
    rw [if_neg (show ¬ (1 : Int) = 2 by decide)]
    obtain ⟨f, hf2, hxy⟩ := hc.2.2
    have hw : nrF (widen f) = f := by
      unfold nrF
      have h32 : f < 2 ^ Ieee.single.width := by rw [width_single]; omega
      have hnn : isNaN Ieee.single f = false := by
        unfold isNaN
        have hr : rung Ieee.single f = f := by unfold rung; rw [show Ieee.single.signWeight = 2147483648 from rfl]; exact Nat.mod_eq_of_lt (by omega)
        rw [hr]; exact decide_eq_false (by rw [show Ieee.single.infRung = 2139095040 from rfl]; omega)
      rw [narrow_widen h32 hnn]; rfl
    have hw0 : widen 0 = 0 := by decide +kernel
    obtain ⟨c, l, hcl, hcd⟩ := body_head hf2
    rcases hxy with ⟨rfl, rfl⟩ | ⟨rfl, rfl, h0⟩
    · rw [if_pos rfl, hw]
      have e : bodyL f ++ r = c :: (l ++ r) := by rw [hcl]; rfl
      obtain ⟨n1, n2, n3, n4⟩ := none_dig (l := l ++ r) hcd
      have hsk : sk (bodyL f ++ r) = bodyL f ++ r := by rw [e]; exact sk_other (beq_eq_false_iff_ne.2 (not32 hcd (by decide)))
      exact .real (by rw [e]; exact n1) (by rw [e]; exact n2) (by rw [e]; exact n3) (by rw [e]; exact n4) hsk (by rw [hsk]; exact num_ahead hf2 (.inl hn)) hf2 rfl (.inr (hn.noP (by decide) (by decide))) hl'
    · have hy : widen f ≠ 0 := fun e => by
        rw [← hw0] at e
        have : f = 0 := by
          have := congrArg nrF e
          rw [hw] at this
          rw [this]; decide +kernel
        exact h0 this
      rw [if_neg hy, hw]
      have e : bodyL f ++ [105] ++ r = c :: (l ++ 105 :: r) := by rw [hcl]; simp
      have e2 : bodyL f ++ [105] ++ r = bodyL f ++ 105 :: r := by simp
      obtain ⟨n1, n2, n3, n4⟩ := none_dig (l := l ++ 105 :: r) hcd
      have hsk : sk (bodyL f ++ [105] ++ r) = bodyL f ++ 105 :: r := by rw [e, ← e2, e]; exact sk_other (beq_eq_false_iff_ne.2 (not32 hcd (by decide)))
      exact .imag (by rw [e]; exact n1) (by rw [e]; exact n2) (by rw [e]; exact n3) (by rw [e]; exact n4) hsk (by rw [hsk]; exact num_ahead hf2 (.inr ⟨r, rfl⟩)) hf2 rfl h0 hl'
  · obtain rfl : k = 2 := hc.1
    obtain rfl : x = 0 := hc.2.2.1
    obtain rfl : y = 0 := hc.2.2.2
    obtain ⟨q, rfl⟩ := Int.eq_ofNat_of_zero_le hc.2.1.1
    have hq : q < 10 := by have : (q : Int) ≤ 9 := hc.2.1.2; omega
    rw [if_pos rfl]
    have hi : Lib.itoa ((q : Nat) : Int) = [UInt8.ofNat (48 + q)] := by rw [itoa_pos, Lib.decDigits_one hq]
    have e : 115 :: Lib.itoa ((q : Nat) : Int) ++ r = 115 :: (UInt8.ofNat (48 + q) :: r) := by rw [hi]; rfl
    have hqn : (UInt8.ofNat (48 + q)).toNat = 48 + q := Pu.fig q hq
    obtain ⟨n1, n2, n3, n4⟩ := none_slot (UInt8.ofNat (48 + q) :: r)
    rw [e]
    have := R.slot (xs := xs) n1 n2 n3 n4 (by unfold isD; rw [hqn, decide_eq_true (by omega), decide_eq_true (by omega)]; rfl) hl'
    rw [hqn, show 48 + q - 48 = q by omega] at this
    exact this
  · have h1 : 3 ≤ k := hc.1.1
    have h2 : k ≤ 2 := hk
    omega
theorem good : ∀ t : Tr, t.ok → Good t
  | .leaf n, h => leaf_good h.1 h.2
  | .un k t, h => by
    have hk := h.1
    have ih := good t h.2
    by_cases h4 : k ≤ 4
    · refine good_of_g (by show 4 ≤ if k ≤ 4 then 4 else 5; rw [if_pos h4]; omega) fun xs r hf hl => ?_
      have hpar : par 4 (.un k t) = txT (.un k t) := if_neg (by show ¬ (if k ≤ 4 then 4 else 5) < 4; rw [if_pos h4]; omega)
      have hp : pf (.un k t) = pf t ++ [opN k] := rfl
      rw [hpar, txT_un t h4, hp, List.append_assoc, ← List.append_assoc xs]
      rw [hp] at hl
      simp only [List.length_append, List.length_cons, List.length_nil] at hl
      exact .un (some_sign (by omega) _) (ih.g xs r hf (by rw [List.length_append]; omega)) (by show (xs ++ pf t).length < 60; rw [List.length_append]; omega)
    · refine good_of_g (by show 4 ≤ if k ≤ 4 then 4 else 5; rw [if_neg h4]; omega) fun xs r hf hl => ?_
      have hpar : par 4 (.un k t) = txT (.un k t) := if_neg (by show ¬ (if k ≤ 4 then 4 else 5) < 4; rw [if_neg h4]; omega)
      have hp : pf (.un k t) = pf t ++ [opN k] := rfl
      rw [hpar, txT_fn t h4, hp, ← List.append_assoc xs]
      rw [hp] at hl
      simp only [List.length_append, List.length_cons, List.length_nil] at hl
      have hs1 : 1 ≤ strT t := by
        cases t with
        | leaf n => show 1 ≤ 5; omega
        | un j t => show 1 ≤ if j ≤ 4 then 4 else 5; split <;> omega
        | bin j a b => have := stg_bin h.2.1; show 1 ≤ stgN j; omega
      have e : txL k ++ 40 :: (txT t ++ [41]) ++ r = txL k ++ 40 :: (par 1 t ++ 41 :: r) := by
        have : par 1 t = txT t := if_neg (by omega)
        rw [this]; simp
      rw [e]
      obtain ⟨w1, w2⟩ := some_word (k := k) (by omega) (40 :: (par 1 t ++ 41 :: r))
      exact .fn w1 w2 (tk_cons (by decide)) (.encl (ih.ch (k := 1) (by omega) xs _ (fol_close 1 r) (by rw [List.length_append]; omega)) (tk_cons (by decide))) (by show (xs ++ pf t).length < 60; rw [List.length_append]; omega)
  | .bin k a b, h => good_of_s (stg_bin h.1) rfl (sp_bin h.1 (good a h.2.1) (good b h.2.2))
/-- what is written is read -/
theorem written {t : Tr} (h : t.ok) (hl : (pf t).length ≤ 60) : R (.chain 1) [] (txT t) (pf t) [] := by
  have hs1 : 1 ≤ strT t := by
    cases t with
    | leaf n => show 1 ≤ 5; omega
    | un j t => show 1 ≤ if j ≤ 4 then 4 else 5; split <;> omega
    | bin j a b => have := stg_bin h.1; show 1 ≤ stgN j; omega
  have := (good t h).ch (k := 1) (by omega) [] [] (.inl (.inl rfl)) hl
  rw [List.append_nil, show par 1 t = txT t from if_neg (by omega)] at this
  exact this
theorem written_paren {t : Tr} (h : t.ok) (hl : (pf t).length ≤ 60) : R (.chain 1) [] (40 :: (txT t ++ [41])) (pf t) [] := by
  have hs1 : 1 ≤ strT t := by
    cases t with
    | leaf n => show 1 ≤ 5; omega
    | un j t => show 1 ≤ if j ≤ 4 then 4 else 5; split <;> omega
    | bin j a b => have := stg_bin h.1; show 1 ≤ stgN j; omega
  have hc := (good t h).ch (k := 1) (by omega) [] [41] (fol_close 1 []) hl
  rw [show par 1 t = txT t from if_neg (by omega)] at hc
  obtain ⟨h1, h2, h3⟩ := none_open (txT t ++ [41])
  have hf : R .factor [] (40 :: (txT t ++ [41])) (pf t) [] := .par h1 h2 h3 (.encl hc (tk_cons (by decide)))
  have nil : ∀ m, m = 1 ∨ m = 2 ∨ m = 3 → opr m [] = none := opr_nil
  exact .chain (by omega) (by omega) (.chain (by omega) (by omega) (.chain (by omega) (by omega) (.four hf) (.stop (nil 3 (by omega)))) (.stop (nil 2 (by omega)))) (.stop (nil 1 (by omega)))
theorem written_space {t : Tr} (h : t.ok) (hl : (pf t).length ≤ 60) : R (.chain 1) [] (32 :: (txT t ++ [32])) (pf t) [32] := by
  have hs1 : 1 ≤ strT t := by
    cases t with
    | leaf n => show 1 ≤ 5; omega
    | un j t => show 1 ≤ if j ≤ 4 then 4 else 5; split <;> omega
    | bin j a b => have := stg_bin h.1; show 1 ≤ stgN j; omega
  have := ((good t h).ch (k := 1) (by omega) [] [32] (.inl (.inr rfl)) hl).space (by omega)
  rw [show par 1 t = txT t from if_neg (by omega)] at this
  exact this
end Go.Proofs.YtlngplohnknhjaaGreatDoor.Px
