/- Texts of records: plain facts. No walk stands here. -/
import Derived.Test.YtjkhbjdhfklnaabDoorParseU
import Derived.Test.YtjkhbjdhfklnaabDoorFldT
import Derived.Lib.AtoiTie
namespace Go.Proofs.YtjkhbjdhfklnaabDoor.Rcd
open Go.RowKit Go.Proofs.YtjkhbjdhfklnaabDoor Go.Proofs.YtjkhbjdhfklnaabDoor.Fld
set_option linter.unusedVariables false
set_option linter.unusedSimpArgs false
theorem go_run : ∀ (f cur l : List UInt8), (∀ b ∈ f, Lib.isSp b = false) → Lib.fieldsGo cur (f ++ l) = Lib.fieldsGo (cur ++ f) l := by
  intro f
  induction f with
  | nil => intro cur l _; simp
  | cons b f ih =>
    intro cur l h
    rw [List.cons_append, Lib.fieldsGo_more _ _ _ (h b (List.mem_cons_self ..)), ih _ _ (fun c hc => h c (List.mem_cons_of_mem _ hc)), List.append_assoc]
    rfl
theorem prs_mem {s : ByteArray} : prs s s.size ↔ ∀ b ∈ s.data.toList, pr b.toNat := by
  have hl := size_len s
  constructor
  · intro h b hb
    obtain ⟨j, hj⟩ := List.getElem?_of_mem hb
    have hlt : j < s.size := by
      apply Nat.lt_of_not_le
      intro hc
      rw [List.getElem?_eq_none (by omega)] at hj
      cases hj
    have := h j hlt
    unfold Dec.byt at this
    rw [List.getD_eq_getElem?_getD, hj] at this
    exact this
  · intro h j hj
    unfold Dec.byt
    rw [List.getD_eq_getElem?_getD, List.getElem?_eq_getElem (show j < s.data.toList.length by omega)]
    exact h _ (List.getElem_mem _)
/-- a record with a text -/
def Gd (a b c d : Int) : Prop := (0 ≤ a ∧ a ≤ 5) ∧ (0 ≤ b ∧ b ≤ 11) ∧ (-32767 ≤ c ∧ c ≤ 32767) ∧ (-32767 ≤ d ∧ d ≤ 32767)
instance (a b c d : Int) : Decidable (Gd a b c d) := by unfold Gd; infer_instance
def txt (a b c d : Int) : List UInt8 := Lib.itoa a ++ 32 :: (Lib.itoa b ++ 32 :: (Lib.itoa c ++ 32 :: Lib.itoa d))
def fmt (a b c d : Int) : List UInt8 := if Gd a b c d then txt a b c d else []
theorem itoa_cases (n : Int) (h : -32767 ≤ n ∧ n ≤ 32767) : (∃ u : Nat, n = (u : Int) ∧ u ≤ 32767 ∧ Lib.itoa n = Lib.decDigits u) ∨ (∃ u : Nat, n = -(u : Int) ∧ 1 ≤ u ∧ u ≤ 32767 ∧ Lib.itoa n = 45 :: Lib.decDigits u) := by
  by_cases h0 : 0 ≤ n
  · obtain ⟨u, rfl⟩ := Int.eq_ofNat_of_zero_le h0
    exact .inl ⟨u, rfl, by omega, Lib.itoa_nonneg u⟩
  · obtain ⟨u, rfl⟩ : ∃ u : Nat, n = -(u : Int) := ⟨(-n).toNat, by omega⟩
    exact .inr ⟨u, rfl, by omega, by omega, Lib.itoa_neg u (by omega)⟩
theorem dec_len {u : Nat} (h : u ≤ 32767) : (Lib.decDigits u).length ≤ 10 := by rw [Lib.decDigits_length]; exact Pu.nDigits_le10 u (by omega)
theorem dec_ne (u : Nat) : Lib.decDigits u ≠ [] := by
  by_cases h : u < 10
  · rw [Lib.decDigits_one h]; simp
  · rw [Lib.decDigits, dif_neg h]; simp
theorem itoa_len {n : Int} (h : -32767 ≤ n ∧ n ≤ 32767) : (Lib.itoa n).length ≤ 11 := by
  rcases itoa_cases n h with ⟨u, _, hu, e⟩ | ⟨u, _, _, hu, e⟩
  · rw [e]; have := dec_len hu; omega
  · rw [e, List.length_cons]; have := dec_len hu; omega
theorem itoa_ne {n : Int} (h : -32767 ≤ n ∧ n ≤ 32767) : Lib.itoa n ≠ [] := by
  rcases itoa_cases n h with ⟨u, _, hu, e⟩ | ⟨u, _, _, hu, e⟩
  · rw [e]; exact dec_ne u
  · rw [e]; simp
/-- each byte is a digit or the sign -/
theorem itoa_chr {n : Int} (h : -32767 ≤ n ∧ n ≤ 32767) : ∀ b ∈ Lib.itoa n, 45 ≤ b.toNat ∧ b.toNat ≤ 57 := by
  intro b hb
  rcases itoa_cases n h with ⟨u, _, hu, e⟩ | ⟨u, _, _, hu, e⟩
  · rw [e] at hb
    have := (Pu.dec_facts u).2 b hb
    unfold Pu.dig at this; omega
  · rw [e] at hb
    rcases List.mem_cons.1 hb with rfl | hb
    · decide
    · have := (Pu.dec_facts u).2 b hb
      unfold Pu.dig at this; omega
theorem isSp_no {b : UInt8} (h : 45 ≤ b.toNat ∧ b.toNat ≤ 57) : Lib.isSp b = false := by
  rw [sp_of (by unfold pr; omega)]
  exact decide_eq_false (by omega)
theorem itoa_sp {n : Int} (h : -32767 ≤ n ∧ n ≤ 32767) : ∀ b ∈ Lib.itoa n, Lib.isSp b = false := fun b hb => isSp_no (itoa_chr h b hb)
theorem Gd.all {a b c d : Int} (h : Gd a b c d) : (-32767 ≤ a ∧ a ≤ 32767) ∧ (-32767 ≤ b ∧ b ≤ 32767) ∧ (-32767 ≤ c ∧ c ≤ 32767) ∧ (-32767 ≤ d ∧ d ≤ 32767) := by
  unfold Gd at h; omega
theorem txt_len {a b c d : Int} (h : Gd a b c d) : (txt a b c d).length ≤ 47 := by
  obtain ⟨h1, h2, h3, h4⟩ := h.all
  have := itoa_len h1; have := itoa_len h2; have := itoa_len h3; have := itoa_len h4
  unfold txt
  simp only [List.length_append, List.length_cons]; omega
def words (a b c d : Int) : List (List UInt8) := [Lib.itoa a, Lib.itoa b, Lib.itoa c, Lib.itoa d]
theorem txt_fields {a b c d : Int} (h : Gd a b c d) : Lib.fields (txt a b c d) = words a b c d := by
  obtain ⟨h1, h2, h3, h4⟩ := h.all
  have s : ∀ {n : Int} (hn : -32767 ≤ n ∧ n ≤ 32767) (l : List UInt8), Lib.fieldsGo [] (Lib.itoa n ++ 32 :: l) = Lib.itoa n :: Lib.fieldsGo [] l := fun {n} hn l => by
    rw [go_run _ _ _ (itoa_sp hn), List.nil_append, Lib.fieldsGo_end _ _ _ (by decide) (itoa_ne hn)]
  unfold Lib.fields txt words
  rw [s h1, s h2, s h3]
  have e := go_run (Lib.itoa d) [] [] (itoa_sp h4)
  rw [List.append_nil, List.nil_append] at e
  rw [e]
  unfold Lib.fieldsGo
  rw [if_neg (by rw [List.isEmpty_iff]; exact itoa_ne h4)]
theorem txt_chr {a b c d : Int} (h : Gd a b c d) : ∀ x ∈ txt a b c d, pr x.toNat := by
  obtain ⟨h1, h2, h3, h4⟩ := h.all
  have k : ∀ {n : Int} (hn : -32767 ≤ n ∧ n ≤ 32767) {x : UInt8}, x ∈ Lib.itoa n → pr x.toNat := fun hn x hx => by have := itoa_chr hn x hx; unfold pr; omega
  have p32 : pr (32 : UInt8).toNat := by unfold pr; decide
  intro x hx
  unfold txt at hx
  simp only [List.mem_append, List.mem_cons] at hx
  rcases hx with h | rfl | h | rfl | h | rfl | h
  · exact k h1 h
  · exact p32
  · exact k h2 h
  · exact p32
  · exact k h3 h
  · exact p32
  · exact k h4 h
/-- what SplitFields tells of a record's text -/
theorem txt_split {a b c d : Int} (h : Gd a b c d) : okF ⟨(txt a b c d).toArray⟩ = true ∧ resF ⟨(txt a b c d).toArray⟩ = [⟨(Lib.itoa a).toArray⟩, ⟨(Lib.itoa b).toArray⟩, ⟨(Lib.itoa c).toArray⟩, ⟨(Lib.itoa d).toArray⟩] := by
  have hs : (⟨(txt a b c d).toArray⟩ : ByteArray).size = (txt a b c d).length := by simp [ByteArray.size]
  have hf : fldS ⟨(txt a b c d).toArray⟩ = [⟨(Lib.itoa a).toArray⟩, ⟨(Lib.itoa b).toArray⟩, ⟨(Lib.itoa c).toArray⟩, ⟨(Lib.itoa d).toArray⟩] := by
    unfold fldS
    show (Lib.fields (txt a b c d)).map _ = _
    rw [txt_fields h]; rfl
  have := okF_yes (s := ⟨(txt a b c d).toArray⟩) (by rw [hs]; have := txt_len h; omega) (prs_mem.2 (txt_chr h)) (by rw [hf]; show 4 ≤ 24; omega)
  rw [hf] at this
  exact this
theorem txt_ne {a b c d : Int} : txt a b c d ≠ [] := by unfold txt; simp
theorem fmt_good {a b c d : Int} (h : Gd a b c d) : fmt a b c d = txt a b c d := if_pos h
theorem fmt_bad {a b c d : Int} (h : ¬ Gd a b c d) : fmt a b c d = [] := if_neg h
/-- a line with fields is not empty -/
theorem split_ne {s : ByteArray} (h : (resF s).length = 4) : s.data.toList ≠ [] := by
  intro e
  by_cases hk : s.size ≤ 600 ∧ prs s s.size ∧ (fldS s).length ≤ 24
  · have := (okF_yes hk.1 hk.2.1 hk.2.2).2
    rw [this] at h
    unfold fldS at h
    rw [e] at h
    simp [Lib.fields, Lib.fieldsGo] at h
  · rw [(okF_no hk).2] at h; cases h
/-! numbers of fields -/
theorem from_dig : ∀ (l : List UInt8) (acc : Nat), (∀ c ∈ l, Pu.dig c) → Lib.decFrom acc l = some (l.foldl (fun a c => 10 * a + (c.toNat - 48)) acc)
  | [], acc, _ => rfl
  | c :: r, acc, h => by
    have hc : Lib.digitVal c = some (c.toNat - 48) := if_pos (h c (List.mem_cons_self ..))
    show (match Lib.digitVal c with | some d => Lib.decFrom (acc * 10 + d) r | none => none) = _
    rw [hc]
    simp only
    rw [from_dig r _ (fun x hx => h x (List.mem_cons_of_mem _ hx)), List.foldl_cons, Nat.mul_comm acc 10]
theorem nat_dec (u : Nat) : Lib.decNat (Lib.decDigits u) = some u := by
  unfold Lib.decNat
  rw [if_neg (by rw [List.isEmpty_iff]; exact dec_ne u), from_dig _ _ (Pu.dec_facts u).2]
  have := (Pu.dec_facts u).1
  unfold Pu.val at this
  rw [this]
theorem atoi_itoa {n : Int} (h : -32767 ≤ n ∧ n ≤ 32767) : Lib.atoiAll (Lib.itoa n) = .ok n := by
  rw [Lib.atoiAll_short _ (by have := itoa_len h; omega)]
  have : Lib.atoi (Lib.itoa n) = some n := by
    rcases itoa_cases n h with ⟨u, rfl, hu, e⟩ | ⟨u, rfl, h1, hu, e⟩
    · rw [e]
      obtain ⟨c, r, hcr⟩ : ∃ c r, Lib.decDigits u = c :: r := by
        cases hd : Lib.decDigits u with
        | nil => exact absurd hd (dec_ne u)
        | cons c r => exact ⟨c, r, rfl⟩
      have hc := (Pu.dec_facts u).2 c (by rw [hcr]; exact List.mem_cons_self ..)
      have hn := nat_dec u
      rw [hcr] at hn ⊢
      show (if (c == 45) = true then (Lib.decNat r).map fun (m : Nat) => -(m : Int) else if (c == 43) = true then (Lib.decNat r).map fun (m : Nat) => (m : Int) else (Lib.decNat (c :: r)).map fun (m : Nat) => (m : Int)) = _
      rw [if_neg (by intro e; rw [beq_iff_eq.1 e] at hc; exact absurd hc.1 (by decide)), if_neg (by intro e; rw [beq_iff_eq.1 e] at hc; exact absurd hc.1 (by decide)), hn]
      rfl
    · rw [e]
      show (Lib.decNat (Lib.decDigits u)).map (fun (m : Nat) => -(m : Int)) = _
      rw [nat_dec u]; rfl
  rw [this]; rfl
/-- what the model's ParseUint tells of the digits -/
theorem out_dec {u : Nat} (h : u ≤ 32767) : Pu.out (Lib.decDigits u) = (u, true) := by
  have hg := Pu.good_of (l := Lib.decDigits u) (u := u) rfl (by omega)
  rw [Pu.out_good hg.1, hg.2]
theorem out_le (l : List UInt8) : (Pu.out l).1 ≤ 1000000000 := by
  by_cases h : Pu.Good l
  · rw [Pu.out_good h]; exact h.2
  · rw [Pu.out_bad h]; omega
end Go.Proofs.YtjkhbjdhfklnaabDoor.Rcd
