/- Plain facts: a sign, a whole number's numeral, perhaps a point and a 0: what ReadDecimal gives of it. -/
import Derived.Test.YtgfeahammmfdaaaDoorDecR
import Derived.Test.YtgfeahammmfdaaaDoorParseU
namespace Go.Proofs.YtgfeahammmfdaaaDoor.Dec
open Go.Proofs.YtgfeahammmfdaaaDoor Go.Proofs.YtgfeahammmfdaaaDoor.Flt
set_option linter.unusedVariables false
theorem vl_list {s : ByteArray} {a : Nat} : ∀ {l : List UInt8}, (∀ j, j < l.length → s.data.toList.getD (a + j) 0 = l.getD j 0) → (vl s a l.length = Pu.val l ∧ ((∀ c ∈ l, Pu.dig c) → digs s a l.length)) := by
  intro l h
  have e : ∀ j, j < l.length → byt s (a + j) = (l.getD j 0).toNat := fun j hj => by unfold byt; rw [h j hj]
  clear h
  refine ⟨?_, fun hd j hj => ?_⟩
  · have key : ∀ k, k ≤ l.length → vl s a k = Pu.val (l.take k) := by
      intro k
      induction k with
      | zero => intro _; rfl
      | succ k ih =>
        intro hk
        rw [List.take_succ_eq_append_getElem (show k < l.length by omega), Pu.val_snoc, vl_add, ih (by omega), e k (by omega)]
        rw [List.getD_eq_getElem?_getD, List.getElem?_eq_getElem (show k < l.length by omega)]
        rfl
    have := key l.length (Nat.le_refl _)
    rw [List.take_of_length_le (Nat.le_refl _)] at this
    exact this
  · rw [e j hj, List.getD_eq_getElem?_getD, List.getElem?_eq_getElem hj]
    exact hd _ (List.getElem_mem hj)
theorem mid_getD {x : UInt8} {l t : List UInt8} : ∀ j, j < l.length → (x :: (l ++ t)).getD (1 + j) 0 = l.getD j 0 := by
  intro j hj
  rw [Nat.add_comm, List.getD_cons_succ, List.getD_eq_getElem?_getD, List.getD_eq_getElem?_getD, List.getElem?_append_left hj]
theorem dec_len {m : Nat} (h : m ≤ 1000000000) : 1 ≤ (Lib.decDigits m).length ∧ (Lib.decDigits m).length ≤ 10 := by
  refine ⟨?_, by rw [Lib.decDigits_length]; exact Pu.nDigits_le10 m h⟩
  by_cases h10 : m < 10
  · rw [Lib.decDigits_one h10]; simp
  · rw [Lib.decDigits, dif_neg h10]; simp
/-- a sign and a numeral -/
theorem form_whole {s : ByteArray} {x : UInt8} {m : Nat} (h : m ≤ 1000000000) (hs : s.data.toList = x :: Lib.decDigits m) : Form s 1 (s.size - 1) m 0 := by
  have hl := dec_len h
  have hz : s.size - 1 = (Lib.decDigits m).length := by
    have : s.data.toList.length = (Lib.decDigits m).length + 1 := by rw [hs]; rfl
    rw [Array.length_toList] at this
    have e : s.data.size = s.size := rfl
    omega
  have hv := vl_list (s := s) (a := 1) (l := Lib.decDigits m) (fun j hj => by rw [hs]; have := mid_getD (x := x) (l := Lib.decDigits m) (t := []) j hj; rw [List.append_nil] at this; exact this)
  have hd := Pu.dec_facts m
  rw [hz]
  refine .inl ⟨hl.1, by omega, hv.2 hd.2, ?_, rfl⟩
  rw [hv.1, hd.1]
/-- with a point and a 0 behind it -/
theorem form_point0 {s : ByteArray} {x : UInt8} {m : Nat} (h : m ≤ 1000000000) (hs : s.data.toList = x :: (Lib.decDigits m ++ [46, 48])) : Form s 1 (s.size - 1) (m * 10) 1 := by
  have hl := dec_len h
  have hz : s.size - 1 = (Lib.decDigits m).length + 1 + 1 := by
    have : s.data.toList.length = (Lib.decDigits m).length + 2 + 1 := by rw [hs]; simp
    rw [Array.length_toList] at this
    have e : s.data.size = s.size := rfl
    omega
  have hv := vl_list (s := s) (a := 1) (l := Lib.decDigits m) (fun j hj => by rw [hs]; exact mid_getD j hj)
  have hd := Pu.dec_facts m
  have b1 : byt s (1 + (Lib.decDigits m).length) = 46 := by
    unfold byt
    rw [hs, Nat.add_comm, List.getD_cons_succ, List.getD_eq_getElem?_getD, List.getElem?_append_right (Nat.le_refl _), Nat.sub_self]
    rfl
  have b2 : byt s (1 + (Lib.decDigits m).length + 1) = 48 := by
    unfold byt
    rw [hs, Nat.add_right_comm, Nat.add_comm, ← Nat.add_assoc, List.getD_cons_succ, List.getD_eq_getElem?_getD, List.getElem?_append_right (by omega)]
    rw [show (Lib.decDigits m).length + 1 - (Lib.decDigits m).length = 1 by omega]
    rfl
  rw [hz]
  refine .inr ⟨_, 1, hl.1, Nat.le_refl _, rfl, by omega, b1, hv.2 hd.2, ?_, ?_, rfl⟩
  · intro j hj
    obtain rfl : j = 0 := by omega
    rw [Nat.add_zero, b2]
    unfold dg; omega
  · rw [hv.1, hd.1]
    show _ = m * 10 ^ 1 + (10 * 0 + (byt s (1 + (Lib.decDigits m).length + 1 + 0) - 48))
    rw [Nat.add_zero, b2]
    omega
theorem sign_of {s : ByteArray} {x : UInt8} {l : List UInt8} (hs : s.data.toList = x :: l) : (s.extract 0 1).toList = [x] := by
  rw [Lib.toList_data, Lib.extract_data, hs]
  rfl
end Go.Proofs.YtgfeahammmfdaaaDoor.Dec
