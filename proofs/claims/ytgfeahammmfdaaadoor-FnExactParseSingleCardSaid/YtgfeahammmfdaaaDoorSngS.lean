/- The model's ParseSingle. -/
import Derived.Test.YtgfeahammmfdaaaDoorSngI
import Derived.Test.YtgfeahammmfdaaaDoorDecI
namespace Go.Proofs.YtgfeahammmfdaaaDoor.Sng
open Go.ChangeShapes Go.WideShapes Go.ChangeAt Go.RowKit Go.Proofs.YtgfeahammmfdaaaDoor Go.Proofs.YtgfeahammmfdaaaDoor.Flt Go.Proofs.YtgfeahammmfdaaaDoor.Mth
set_option linter.unusedVariables false
theorem byt_at {s : ByteArray} {j : Nat} {c : UInt8} (h : s.data.toList[j]? = some c) : Dec.byt s j = c.toNat := by
  unfold Dec.byt
  rw [List.getD_eq_getElem?_getD, h]
  rfl
theorem u8_112 {c : UInt8} (h : c.toNat = 112) : c = 112 := UInt8.toNat_inj.1 h
theorem range_ne {s : ByteArray} {a b : Nat} (h : ∀ j, a ≤ j → j < b → Dec.byt s j ≠ 112) : ∀ x ∈ (s.data.toList.drop a).take (b - a), x ≠ 112 := by
  intro x hx e
  obtain ⟨k, hk⟩ := List.getElem?_of_mem hx
  rw [List.getElem?_take] at hk
  split at hk
  · rw [List.getElem?_drop] at hk
    refine h (a + k) (by omega) (by omega) ?_
    rw [byt_at hk, e]
    rfl
  · cases hk
theorem no_p {s : ByteArray} (h : ∀ j, 1 ≤ j → j < s.size → Dec.byt s j ≠ 112) : ∀ x ∈ s.data.toList.drop 1, x ≠ 112 := by
  have := range_ne h
  rw [List.take_of_length_le (by rw [List.length_drop, Array.length_toList]; exact Nat.le_refl _)] at this
  exact this
theorem cut_at {s : ByteArray} {p : Nat} (h1 : 1 ≤ p) (hp : p < s.size) (hb : Dec.byt s p = 112) :
    s.data.toList.drop 1 = (s.extract 1 p).data.toList ++ 112 :: (s.extract (p + 1) s.size).data.toList := by
  have hl : s.data.toList.length = s.size := Array.length_toList
  rw [Lib.extract_data, Lib.extract_to_end]
  have h3 : s.data.toList.drop p = 112 :: s.data.toList.drop (p + 1) := by
    rw [List.drop_eq_getElem_cons (show p < s.data.toList.length by omega)]
    congr 1
    apply u8_112
    rw [← byt_at (List.getElem?_eq_getElem (show p < s.data.toList.length by omega)), hb]
  rw [← h3]
  have e : s.data.toList.drop p = (s.data.toList.drop 1).drop (p - 1) := by rw [List.drop_drop]; congr 1; omega
  rw [e, List.take_append_drop]
theorem itoa_some (e : Int) : Lib.itoa e ≠ [] := by
  by_cases h : e < 0
  · rw [itoa_neg' h]; simp
  · rw [itoa_pos' (by omega)]
    obtain ⟨c, l, hl⟩ := digits_some e.toNat
    rw [hl]; simp
/-- the exponent's text -/
theorem exp_out {r : ByteArray} {n : Nat} (h : 0 < r.size) (hn : r.size = n) {e : Int} (he : -1000 ≤ e ∧ e ≤ 1000) (hr : r.data.toList = Lib.itoa e) :
    (Dec.byt r 0 = 45 → -((Pu.out (r.extract 1 n).data.toList).1 : Int) = e ∧ (Pu.out (r.extract 1 n).data.toList).2 = true) ∧
    (Dec.byt r 0 ≠ 45 → ((Pu.out r.data.toList).1 : Int) = e ∧ (Pu.out r.data.toList).2 = true) := by
  subst hn
  by_cases hn : e < 0
  · rw [itoa_neg' hn] at hr
    have h0 : Dec.byt r 0 = 45 := by
      have := byt_at (s := r) (j := 0) (c := 45) (by rw [hr]; rfl)
      rw [this]; rfl
    refine ⟨fun _ => ?_, fun h => absurd h0 h⟩
    rw [Lib.extract_to_end, hr, List.drop_one, List.tail_cons, out_dec (by omega)]
    exact ⟨by show -(((-e).toNat : Nat) : Int) = e; omega, rfl⟩
  · rw [itoa_pos' (by omega)] at hr
    obtain ⟨c, l, hl⟩ := digits_some e.toNat
    have hd : Pu.dig c := (Pu.dec_facts e.toNat).2 c (by rw [hl]; exact List.mem_cons_self ..)
    have h0 : Dec.byt r 0 = c.toNat := byt_at (s := r) (j := 0) (by rw [hr, hl]; rfl)
    refine ⟨fun h => ?_, fun _ => ?_⟩
    · exact (not_dig hd (h0.symm.trans h) (.inl (by omega))).elim
    · rw [hr, out_dec (by omega)]
      exact ⟨by show ((e.toNat : Nat) : Int) = e; omega, rfl⟩
theorem fmt_2147 : fmtL 2139095040 = [43, 105, 110, 102] ∧ fmtL 0 = [43, 48] ∧ fmtL (Op.negFloat .f32 2139095040) = [45, 105, 110, 102] ∧ fmtL (Op.negFloat .f32 0) = [45, 48] := by
  refine ⟨?_, ?_, ?_, ?_⟩
  · rw [fmt_num (by decide), body_inf (by decide)]; unfold sgL; rw [if_neg (by decide)]; rfl
  · rw [fmt_num (by decide), body_zero (by decide)]; unfold sgL; rw [if_neg (by decide)]; rfl
  · rw [fmt_num (by decide), body_inf (by decide)]; unfold sgL; rw [if_pos (by decide)]; rfl
  · rw [fmt_num (by decide), body_zero (by decide)]; unfold sgL; rw [if_pos (by decide)]; rfl
/-- what the sign makes of infinity and of 0 has just this text -/
theorem signed_text {s g : ByteArray} (hg : g = s.extract 0 1) (h2 : 2 ≤ s.size) :
    (s.data.toList.drop 1 = [105, 110, 102] → (Sgd.out g 2139095040).2 = true → fmtL (Sgd.out g 2139095040).1 = s.data.toList) ∧
    (s.data.toList.drop 1 = [48] → (Sgd.out g 0).2 = true → fmtL (Sgd.out g 0).1 = s.data.toList) ∧
    (∀ x, (Sgd.out g x).2 = false → (Sgd.out g x).1 = 0) := by
  have hs : s.data.toList = g.toList ++ s.data.toList.drop 1 := by
    rw [hg, Lib.toList_data, Lib.extract_data, List.drop_zero]
    exact (List.take_append_drop 1 _).symm
  refine ⟨fun hb hok => ?_, fun hb hok => ?_, fun x hok => ?_⟩
  · rw [hs, hb]
    unfold Sgd.out at hok ⊢
    by_cases h1 : (g.toList == [43]) = true
    · rw [if_pos h1, fmt_2147.1, eq_of_beq h1]; rfl
    · rw [if_neg h1] at hok ⊢
      by_cases h3 : (g.toList == [45]) = true
      · rw [if_pos h3, fmt_2147.2.2.1, eq_of_beq h3]; rfl
      · rw [if_neg h3] at hok; cases hok
  · rw [hs, hb]
    unfold Sgd.out at hok ⊢
    by_cases h1 : (g.toList == [43]) = true
    · rw [if_pos h1, fmt_2147.2.1, eq_of_beq h1]; rfl
    · rw [if_neg h1] at hok ⊢
      by_cases h3 : (g.toList == [45]) = true
      · rw [if_pos h3, fmt_2147.2.2.2, eq_of_beq h3]; rfl
      · rw [if_neg h3] at hok; cases hok
  · unfold Sgd.out at hok ⊢
    by_cases h1 : (g.toList == [43]) = true
    · rw [if_pos h1] at hok; cases hok
    · rw [if_neg h1] at hok ⊢
      by_cases h3 : (g.toList == [45]) = true
      · rw [if_pos h3] at hok; cases hok
      · rw [if_neg h3]
end Go.Proofs.YtgfeahammmfdaaaDoor.Sng
