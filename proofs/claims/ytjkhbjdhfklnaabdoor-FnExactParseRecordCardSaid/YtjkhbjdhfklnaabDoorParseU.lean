/- The scan of a decimal numeral: the value of the digits, and the contracts of the two ParseUint's. -/
import Derived.Test.YtjkhbjdhfklnaabDoorFmtInt
import Derived.Test.YtjkhbjdhfklnaabDoorRows
namespace Go.Proofs.YtjkhbjdhfklnaabDoor.Pu
open Go.ChangeShapes Go.WideShapes Go.ChangeAt Go.RowKit Go.Proofs.YtjkhbjdhfklnaabDoor
set_option linter.unusedVariables false
def dig (c : UInt8) : Prop := 48 ≤ c.toNat ∧ c.toNat ≤ 57
def val (l : List UInt8) : Nat := l.foldl (fun a c => 10 * a + (c.toNat - 48)) 0
theorem val_snoc (l : List UInt8) (c : UInt8) : val (l ++ [c]) = 10 * val l + (c.toNat - 48) := by
  unfold val; rw [List.foldl_append]; rfl
theorem fig (d : Nat) (h : d < 10) : (UInt8.ofNat (48 + d)).toNat = 48 + d := by
  rw [UInt8.toNat_ofNat']; exact Nat.mod_eq_of_lt (by omega)
theorem dec_facts (u : Nat) : val (Lib.decDigits u) = u ∧ ∀ c ∈ Lib.decDigits u, dig c := by
  induction u using Nat.strongRecOn with
  | _ u ih =>
    by_cases h : u < 10
    · rw [Lib.decDigits_one h]
      refine ⟨?_, fun c hc => ?_⟩
      · have := val_snoc [] (UInt8.ofNat (48 + u))
        rw [List.nil_append, fig u h] at this
        rw [this]
        show 10 * 0 + (48 + u - 48) = u
        omega
      · obtain rfl := List.mem_singleton.1 hc
        unfold dig; rw [fig u h]; omega
    · obtain ⟨i1, i2⟩ := ih (u / 10) (by omega)
      have hf := fig (u % 10) (by omega)
      rw [Lib.decDigits, dif_neg h]
      refine ⟨?_, fun c hc => ?_⟩
      · rw [val_snoc, i1, hf]; omega
      · rcases List.mem_append.1 hc with hc | hc
        · exact i2 c hc
        · obtain rfl := List.mem_singleton.1 hc
          unfold dig; rw [hf]; omega
theorem nDigits_le10 (u : Nat) (h : u ≤ 1000000000) : Lib.nDigits u ≤ 10 := by
  apply Nat.le_of_not_lt
  intro hc
  have hb : ∀ k u, k + 1 < Lib.nDigits u → 10 ^ (k + 1) ≤ u := by
    intro k
    induction k with
    | zero =>
      intro u hu
      apply Nat.le_of_not_lt
      intro hlt
      rw [Lib.nDigits_small (by simpa using hlt)] at hu
      omega
    | succ k ih =>
      intro u hu
      by_cases h10 : u < 10
      · rw [Lib.nDigits_small h10] at hu; omega
      · rw [Lib.nDigits_big h10] at hu
        have := ih (u / 10) (by omega)
        rw [Nat.pow_succ]
        omega
  have := hb 9 u (by omega)
  omega
/-- the text is the numeral of a number up to the bound -/
def Good (l : List UInt8) : Prop := l = Lib.decDigits (val l) ∧ val l ≤ 1000000000
theorem good_of {l : List UInt8} {u : Nat} (h : Lib.decDigits u = l) (hu : u ≤ 1000000000) : Good l ∧ val l = u := by
  subst h
  have := (dec_facts u).1
  exact ⟨⟨by rw [this], by rw [this]; exact hu⟩, this⟩
theorem good_digs {l : List UInt8} (h : Good l) : ∀ c ∈ l, dig c := by
  have := (dec_facts (val l)).2
  rw [← h.1] at this
  exact this
theorem good_len {l : List UInt8} (h : Good l) : l.length ≤ 10 := by
  rw [h.1, Lib.decDigits_length]; exact nDigits_le10 _ h.2
open Classical in
noncomputable def out (l : List UInt8) : Nat × Bool := if Good l then (val l, true) else (0, false)
theorem out_good {l : List UInt8} (h : Good l) : out l = (val l, true) := if_pos h
theorem out_bad {l : List UInt8} (h : ¬ Good l) : out l = (0, false) := if_neg h
theorem val_le (l : List UInt8) (h : ∀ c ∈ l, dig c) (hl : l.length ≤ 10) : val l < 10 ^ l.length := by
  have key : ∀ k, ∀ l : List UInt8, l.length = k → (∀ c ∈ l, dig c) → val l < 10 ^ k := by
    intro k
    induction k with
    | zero => intro l hl _; obtain rfl := List.length_eq_zero_iff.1 hl; exact Nat.one_pos
    | succ k ih =>
      intro l hl hd
      obtain ⟨l', c, rfl⟩ : ∃ l' c, l = l' ++ [c] := by
        rcases List.eq_nil_or_concat l with rfl | ⟨l', c, rfl⟩
        · simp at hl
        · exact ⟨l', c, by simp⟩
      rw [List.length_append, List.length_singleton] at hl
      have i := ih l' (by omega) (fun c hc => hd c (List.mem_append_left _ hc))
      have d := hd c (List.mem_append_right _ (List.mem_singleton.2 rfl))
      unfold dig at d
      rw [val_snoc, Nat.pow_succ]
      omega
  exact key _ l rfl h
theorem bytes_inj {a b : ByteArray} (h : a.toList = b.toList) : a = b := by
  rw [ByteArray.toList_eq, ByteArray.toList_eq] at h
  exact ByteArray.ext (Array.toList_inj.1 h)
def Res (t : ByteArray) (w : World) (e : Ending) (w' : World) : Prop := e = .returned (.tuple #[.int .i64 ((out t.data.toList).1 : Int), .bool (out t.data.toList).2]) ∧ Below w.heap.size w w'
theorem fmt_any (n : Nat) (w : World) (h : n ≤ 1000000000) : Calls Tryd.prog 13 #[.int .i64 (n : Int)] w (Fmi.Out n w) := by
  by_cases h0 : 0 < n
  · exact Fmi.pos n w h0 (by omega)
  · obtain rfl : n = 0 := by omega
    exact Fmi.zero w
set_option maxHeartbeats 800000 in
theorem spec_any (t : ByteArray) (w : World) : Calls Tryd.prog 22 #[.string t] w (Res t w) := by
  go_enter Tryd.func22, Tryd.ntmps22
  by_cases hl : 10 < t.size
  · have hl2 : ¬ (t.size : Int) ≤ 10 := by omega
    have hb : ¬ Good t.data.toList := fun h => by have := good_len h; rw [Array.length_toList] at this; exact absurd this (by show ¬ t.size ≤ 10; omega)
    have ho := Lib.hid (out_bad hb)
    clear hb
    go_wp2_with fail
    go_ret2
    refine ⟨?_, Below.refl _ _⟩
    rw [ho.out]
    rfl
  · have hl2 : (t.size : Int) ≤ 10 := by omega
    go_wp2_with fail
    go_loopw [4, 5] (fun nv iv wr => ∃ i : Nat, i ≤ t.size ∧ Hid (∀ c ∈ t.data.toList.take i, dig c) ∧ nv = .int .i64 (val (t.data.toList.take i) : Int) ∧ iv = .int .i64 (i : Int) ∧ wr = w) (fun _ iv _ => (t.size : Int).toNat - (intOf iv).toNat)
    case atStart => exact ⟨0, Nat.zero_le _, (fun c hc => by simp at hc), rfl, rfl, rfl⟩
    case round =>
      obtain ⟨i, hi, hd, rfl, rfl, rfl⟩ := hrel
      obtain ⟨n, hn⟩ : ∃ n, n = val (t.data.toList.take i) := ⟨_, rfl⟩
      have hnb : n < 10000000000 := by
        have h1 := val_le (t.data.toList.take i) hd.out (by rw [List.length_take]; omega)
        have h2 : (10 : Nat) ^ (t.data.toList.take i).length ≤ 10 ^ 10 := Nat.pow_le_pow_right (by omega) (by rw [List.length_take]; omega)
        rw [hn]
        omega
      rw [← hn]
      by_cases hlt : i < t.size
      · have hlt2 : (i : Int) < t.size := by omega
        obtain ⟨b, hb⟩ : ∃ b : UInt8, b = t[i] := ⟨_, rfl⟩
        obtain ⟨c, hc⟩ : ∃ c : Nat, c = b.toNat := ⟨_, rfl⟩
        have hidx : ∀ w, (Instr.index 9 (.string t) (.int .i64 (i : Int))).run Tryd.prog w = .ok (.int .u8 (c : Int)) w := by
          intro w
          rw [run_index_string _ _ _ _ _ Tryd.underlying9, dif_pos ⟨by omega, hlt2⟩, hc, hb]
          rfl
        have hcb : c ≤ 255 := by have := b.toNat_lt; omega
        have htk : t.data.toList.take (i + 1) = t.data.toList.take i ++ [b] := by
          rw [List.take_add_one, hb]
          have : t.data.toList[i]? = some t[i] := by
            rw [Array.getElem?_toList]
            exact Array.getElem?_eq_getElem _
          rw [this]; rfl
        have hmem : b ∈ t.data.toList := List.mem_of_mem_take (i := i + 1) (by rw [htk]; exact List.mem_append_right _ (List.mem_singleton.2 rfl))
        have Hm := Lib.hid hmem
        have Hb := Lib.hid htk
        clear hmem
        have Hc := Lib.hid hc
        have Hn := Lib.hid hn
        clear hb htk hc hn
        by_cases h48 : (c : Int) < 48
        · have hbad : ¬ Good t.data.toList := fun h => by have := good_digs h b Hm.out; unfold dig at this; have := Hc.out; omega
          have ho := Lib.hid (out_bad hbad)
          clear hbad
          go_wp2_with fail
          go_ret2
          refine ⟨?_, Below.refl _ _⟩
          rw [ho.out]
          rfl
        · by_cases h57 : 57 < (c : Int)
          · have hbad : ¬ Good t.data.toList := fun h => by have := good_digs h b Hm.out; unfold dig at this; have := Hc.out; omega
            have ho := Lib.hid (out_bad hbad)
            clear hbad
            go_wp2_with fail
            go_ret2
            refine ⟨?_, Below.refl _ _⟩
            rw [ho.out]
            rfl
          · have hnn : (n : Int) < 10000000000 := by omega
            go_wp2_with fail
            refine ⟨⟨i + 1, hlt, ?_, ?_, rfl, trivial⟩, ?_⟩
            · show ∀ c ∈ _, dig c
              rw [Hb.out]
              intro x hx
              rcases List.mem_append.1 hx with hx | hx
              · exact hd.out x hx
              · obtain rfl := List.mem_singleton.1 hx
                unfold dig; have := Hc.out; omega
            · rw [Hb.out, val_snoc, ← Hn.out, ← Hc.out]
              congr 1
              omega
            · simp only [intOf]; omega
      · obtain rfl : i = t.size := by omega
        have hall : t.data.toList.take t.size = t.data.toList := List.take_of_length_le (by rw [Array.length_toList]; exact Nat.le_refl _)
        rw [hall] at hn hd
        have Hn := Lib.hid hn
        clear hn hall
        by_cases hM : 1000000000 < (n : Int)
        · have hbad : ¬ Good t.data.toList := fun h => by have := h.2; have := Hn.out; omega
          have ho := Lib.hid (out_bad hbad)
          clear hbad
          go_wp2_with fail
          go_ret2
          refine ⟨?_, Below.refl _ _⟩
          rw [ho.out]
          rfl
        · go_wp2_with fail
          refine (fmt_any n _ (by omega)).mono ?_
          rintro e w2 ⟨rfl, hb2⟩
          have Hb2 := Lib.hid hb2
          clear hb2
          obtain ⟨l, hl⟩ : ∃ l : ByteArray, l = ⟨(Lib.itoa (n : Int)).toArray⟩ := ⟨_, rfl⟩
          rw [← hl]
          by_cases ht : l = t
          · have hg := good_of (l := t.data.toList) (u := n) (by rw [← ht, hl, Lib.itoa_nonneg]) (by omega)
            have ho := Lib.hid (out_good hg.1)
            have Hl := Lib.hid hg.2
            have heq : (l.toList == t.toList) = true := by rw [ht]; exact beq_self_eq_true _
            clear hl ht hg
            go_wp2_with fail
            go_ret2
            refine ⟨?_, Hb2.out⟩
            rw [ho.out, Hl.out]
            rfl
          · have hbad : ¬ Good t.data.toList := by
              intro h
              apply ht
              rw [hl, Lib.itoa_nonneg, Hn.out, ← h.1]
            have ho := Lib.hid (out_bad hbad)
            have heq : (l.toList == t.toList) = false := by
              rw [beq_eq_false_iff_ne]
              intro h
              exact ht (bytes_inj h)
            clear hl ht hbad
            go_wp2_with fail
            go_ret2
            refine ⟨?_, Hb2.out⟩
            rw [ho.out]
            rfl
end Go.Proofs.YtjkhbjdhfklnaabDoor.Pu
