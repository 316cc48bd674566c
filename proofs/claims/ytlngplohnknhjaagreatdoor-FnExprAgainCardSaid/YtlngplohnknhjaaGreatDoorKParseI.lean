/- The program's scan of digits and its ParseUint. -/
import Derived.Test.YtlngplohnknhjaaGreatDoorPkB
import Derived.WalkMore
import Derived.Test.YtlngplohnknhjaaGreatDoorKDoor
namespace Go.Proofs.YtlngplohnknhjaaGreatDoor.Pu
open Go.ChangeShapes Go.WideShapes Go.ChangeAt Go.RowKit Go.Proofs.YtlngplohnknhjaaGreatDoor
set_option linter.unusedVariables false
/-- how far a scan of at most 10 digits goes -/
def Stops (t : ByteArray) (c : Nat) : Prop := c ≤ t.size ∧ c ≤ 10 ∧ (∀ x ∈ t.data.toList.take c, dig x) ∧ (Good t.data.toList → c = t.size)
def Scan (t : ByteArray) (w : World) (e : Ending) (w' : World) : Prop := (∃ c, Stops t c ∧ e = .returned (.tuple #[.int .i64 (val (t.data.toList.take c) : Int), .int .i64 (c : Int)])) ∧ w' = w
set_option maxHeartbeats 800000 in
theorem scan_any (t : ByteArray) (w : World) : Calls Tryz.prog 96 #[.string t, .int .i64 10] w (Scan t w) := by
  go_enter Tryz.func96, Tryz.ntmps96
  go_wp2
  go_step3
  go_wp2
  go_step3
  go_wp2_with fail
  go_loopw [6, 7] (fun nv iv wr => ∃ i : Nat, i ≤ t.size ∧ i ≤ 10 ∧ Hid (∀ c ∈ t.data.toList.take i, dig c) ∧ nv = .int .i64 (val (t.data.toList.take i) : Int) ∧ iv = .int .i64 (i : Int) ∧ wr = w) (fun _ iv _ => 10 - (intOf iv).toNat)
  case atStart => exact ⟨0, Nat.zero_le _, Nat.zero_le _, (fun c hc => by simp at hc), rfl, rfl, rfl⟩
  case round =>
    obtain ⟨i, hi, hi10, hd, rfl, rfl, rfl⟩ := hrel
    obtain ⟨n, hn⟩ : ∃ n, n = val (t.data.toList.take i) := ⟨_, rfl⟩
    have hnb : n < 10000000000 := by
      have h1 := val_le (t.data.toList.take i) hd.out (by rw [List.length_take]; omega)
      have h2 : (10 : Nat) ^ (t.data.toList.take i).length ≤ 10 ^ 10 := Nat.pow_le_pow_right (by omega) (by rw [List.length_take]; omega)
      rw [hn]
      omega
    rw [← hn]
    by_cases hlt : i < t.size
    · have hlt2 : (i : Int) < t.size := by omega
      by_cases h10 : i < 10
      · have h10' : (i : Int) < 10 := by omega
        obtain ⟨b, hb⟩ : ∃ b : UInt8, b = t[i] := ⟨_, rfl⟩
        obtain ⟨c, hc⟩ : ∃ c : Nat, c = b.toNat := ⟨_, rfl⟩
        have hidx : ∀ w, (Instr.index 9 (.string t) (.int .i64 (i : Int))).run Tryz.prog w = .ok (.int .u8 (c : Int)) w := by
          intro w
          rw [run_index_string _ _ _ _ _ Tryz.underlying9, dif_pos ⟨by omega, hlt2⟩, hc, hb]
          rfl
        have hcb : c ≤ 255 := by have := b.toNat_lt; omega
        have htk : t.data.toList.take (i + 1) = t.data.toList.take i ++ [b] := by
          rw [List.take_add_one, hb]
          have : t.data.toList[i]? = some t[i] := by
            rw [Array.getElem?_toList]
            exact Array.getElem?_eq_getElem _
          rw [this]; rfl
        have hmem : b ∈ t.data.toList := List.mem_of_mem_take (i := i + 1) (by rw [htk]; exact List.mem_append_right _ (List.mem_singleton.2 rfl))
        have Hm := Lib.hid hmem
        have Hb := Lib.hid htk
        clear hmem
        have Hc := Lib.hid hc
        have Hn := Lib.hid hn
        clear hb htk hc hn
        by_cases h48 : (c : Int) < 48
        · have hbad : ¬ Good t.data.toList := fun h => by have := good_digs h b Hm.out; unfold dig at this; have := Hc.out; omega
          have hge : ¬ (48 : Int) ≤ c := by omega
          have Hbad := Lib.hid hbad
          clear hbad
          go_wp2_with fail
          go_ret2
          refine ⟨⟨i, ⟨hi, hi10, hd.out, fun h => absurd h Hbad.out⟩, ?_⟩, rfl⟩
          rw [← Hn.out]
          rfl
        · by_cases h57 : 57 < (c : Int)
          · have hbad : ¬ Good t.data.toList := fun h => by have := good_digs h b Hm.out; unfold dig at this; have := Hc.out; omega
            have hge : (48 : Int) ≤ c := by omega
            have hle : ¬ (c : Int) ≤ 57 := by omega
            have Hbad := Lib.hid hbad
            clear hbad
            go_wp2_with fail
            go_ret2
            refine ⟨⟨i, ⟨hi, hi10, hd.out, fun h => absurd h Hbad.out⟩, ?_⟩, rfl⟩
            rw [← Hn.out]
            rfl
          · have hnn : (n : Int) < 10000000000 := by omega
            have hge : (48 : Int) ≤ c := by omega
            have hle : (c : Int) ≤ 57 := by omega
            go_wp2_with fail
            refine ⟨⟨i + 1, hlt, h10, ?_, ?_, rfl, trivial⟩, ?_⟩
            · show ∀ c ∈ _, dig c
              rw [Hb.out]
              intro x hx
              rcases List.mem_append.1 hx with hx | hx
              · exact hd.out x hx
              · obtain rfl := List.mem_singleton.1 hx
                unfold dig; have := Hc.out; omega
            · rw [Hb.out, val_snoc, ← Hn.out, ← Hc.out]
              congr 1
              omega
            · simp only [intOf]; omega
      · have h10' : ¬ (i : Int) < 10 := by omega
        have Hn := Lib.hid hn
        clear hn
        go_wp2_with fail
        go_ret2
        refine ⟨⟨i, ⟨hi, hi10, hd.out, fun h => by have := good_len h; rw [Array.length_toList] at this; have : t.size ≤ 10 := this; omega⟩, ?_⟩, rfl⟩
        rw [← Hn.out]
        rfl
    · have hlt2 : ¬ (i : Int) < t.size := by omega
      have Hn := Lib.hid hn
      clear hn
      go_wp2_with fail
      go_ret2
      refine ⟨⟨i, ⟨hi, hi10, hd.out, fun h => by omega⟩, ?_⟩, rfl⟩
      rw [← Hn.out]
      rfl
set_option maxHeartbeats 800000 in
theorem impl_any (t : ByteArray) (w : World) (htab : Lib.TabIs Tryz.prog w "internal/strconv.uint64pow10" .u64 Lib.pow10Tab) :
    Calls Tryz.prog 136 #[.string t] w (Res t w) := by
  have Ht := Lib.hid htab
  clear htab
  go_enter Tryz.func136, Tryz.ntmps136
  go_wp2_with fail
  refine (scan_any t _).mono ?_
  rintro e w2 ⟨⟨c, hs, rfl⟩, rfl⟩
  obtain ⟨n, hn⟩ : ∃ n, n = val (t.data.toList.take c) := ⟨_, rfl⟩
  rw [← hn]
  have hnb : n < 10000000000 := by
    have h1 := val_le (t.data.toList.take c) hs.2.2.1 (by rw [List.length_take]; have := hs.2.1; omega)
    have h2 : (10 : Nat) ^ (t.data.toList.take c).length ≤ 10 ^ 10 := Nat.pow_le_pow_right (by omega) (by rw [List.length_take]; have := hs.2.1; omega)
    rw [hn]
    omega
  have hgood : Good t.data.toList → n = val t.data.toList := fun h => by
    have hall : t.data.toList.take t.size = t.data.toList := List.take_of_length_le (by rw [Array.length_toList]; exact Nat.le_refl _)
    rw [hn, hs.2.2.2 h, hall]
  clear hn hs
  by_cases hM : 1000000000 < (n : Int)
  · have hbad : ¬ Good t.data.toList := fun h => by have := h.2; have := hgood h; omega
    have ho := Lib.hid (out_bad hbad)
    clear hbad hgood
    go_wp2_with fail
    go_ret2
    refine ⟨?_, Below.refl _ _⟩
    rw [ho.out]
    rfl
  · have Hg := Lib.hid hgood
    clear hgood
    go_wp2_with fail
    refine (Door.impl_any n (by omega) (by omega) _ Ht.out).mono ?_
    rintro e w2 ⟨rfl, hb2⟩
    have Hb2 := Lib.hid hb2
    clear hb2
    obtain ⟨l, hl⟩ : ∃ l : ByteArray, l = ⟨(Lib.itoa (n : Int)).toArray⟩ := ⟨_, rfl⟩
    rw [← hl]
    by_cases ht : l = t
    · have hg := good_of (l := t.data.toList) (u := n) (by rw [← ht, hl, Lib.itoa_nonneg]) (by omega)
      have ho := Lib.hid (out_good hg.1)
      have Hl := Lib.hid hg.2
      have heq : (l.toList == t.toList) = true := by rw [ht]; exact beq_self_eq_true _
      clear hl ht hg
      go_wp2_with fail
      go_ret2
      refine ⟨?_, Hb2.out⟩
      rw [ho.out, Hl.out]
      rfl
    · have hbad : ¬ Good t.data.toList := by
        intro h
        apply ht
        rw [hl, Lib.itoa_nonneg, Hg.out h, ← h.1]
      have ho := Lib.hid (out_bad hbad)
      have heq : (l.toList == t.toList) = false := by
        rw [beq_eq_false_iff_ne]
        intro h
        exact ht (bytes_inj h)
      clear hl ht hbad
      go_wp2_with fail
      go_ret2
      refine ⟨?_, Hb2.out⟩
      rw [ho.out]
      rfl
end Go.Proofs.YtlngplohnknhjaaGreatDoor.Pu
