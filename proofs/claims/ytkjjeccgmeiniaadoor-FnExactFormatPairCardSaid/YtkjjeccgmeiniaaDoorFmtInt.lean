/- The contract of the model's FormatInt: the decimal numeral. -/
import Derived.Test.YtkjjeccgmeiniaaDoorChecked
import Derived.Test.YtkjjeccgmeiniaaDoorOnly
import Derived.Lib.ItoaNum
import Derived.Lib.ItoaMem
import Derived.Lib.ItoaLen
import Derived.Outline
namespace Go.Proofs.YtkjjeccgmeiniaaDoor.Fmi
open Go.ChangeShapes Go.WideShapes Go.ChangeAt Go.RowKit Go.Proofs.YtkjjeccgmeiniaaDoor
set_option linter.unusedVariables false
theorem figure_any (d : Int) (w : World) (h0 : 0 ≤ d) (h1 : d ≤ 9) :
    Calls Tryd.prog 75 #[.int .i64 d] w fun e w' => e = .returned (.int .u8 (48 + d)) ∧ w' = w := by
  go_enter Tryd.func75, Tryd.ntmps75
  go_wp2
  go_ret
  exact ⟨rfl, rfl⟩
theorem conv_one (w : World) (v : Nat) : (convert 22 9 (.slice (some ⟨w.heap.size, 0, none⟩) 1 1)).run Tryd.prog (w.alloc (.cells #[.int .u8 (48 + (v : Int) % 10)] 5)) = .ok (.string ⟨#[UInt8.ofNat (48 + v % 10)]⟩) (w.alloc (.cells #[.int .u8 (48 + (v : Int) % 10)] 5)) := by
  refine run_convert_bytes_back (P := Tryd.prog) _ 22 9 5 ⟨w.heap.size, 0, none⟩ 1 [UInt8.ofNat (48 + v % 10)] Tryd.underlying22 Tryd.underlying5 Tryd.underlying9 (fun j hj => ?_)
  obtain rfl : j = 0 := by simp at hj; omega
  show World.cell? _ ⟨w.heap.size, 0, none⟩ = _
  simp only [World.cell?, block_new]
  have h : (UInt8.ofNat (48 + v % 10)).toNat = 48 + v % 10 := by
    rw [UInt8.toNat_ofNat']; exact Nat.mod_eq_of_lt (by omega)
  simp
  omega
/-- the digits, none of 0 -/
def pre (v : Nat) : List UInt8 := if v = 0 then [] else Lib.decDigits v
theorem pre_step {v : Nat} (h : 0 < v) : pre v = pre (v / 10) ++ [UInt8.ofNat (48 + v % 10)] := by
  unfold pre
  rw [if_neg (by omega), Lib.decDigits]
  by_cases h10 : v < 10
  · rw [dif_pos h10, if_pos (by omega), Nat.mod_eq_of_lt h10]; rfl
  · rw [dif_neg h10, if_neg (by omega)]
def Out (n : Int) (w : World) (e : Ending) (w' : World) : Prop := e = .returned (.string ⟨(Lib.itoa n).toArray⟩) ∧ Below w.heap.size w w'
theorem zero (w : World) : Calls Tryd.prog 54 #[.int .i64 0] w (Out 0 w) := by
  have Hf := Lib.hid (show (⟨#[48]⟩ : ByteArray) = ⟨(Lib.itoa 0).toArray⟩ by rw [show (0 : Int) = ((0 : Nat) : Int) from rfl, Lib.itoa_nonneg, Lib.decDigits_one (by omega)]; rfl)
  go_enter Tryd.func54, Tryd.ntmps54
  go_wp2
  go_ret
  exact ⟨ret_string Hf.out, Below.refl _ _⟩
theorem pre_len (v : Nat) : (pre v).length ≤ v := by
  induction v using Nat.strongRecOn with
  | _ v ih =>
    by_cases h : 0 < v
    · rw [pre_step h, List.length_append]
      have := ih (v / 10) (by omega)
      simp only [List.length_cons, List.length_nil]
      omega
    · obtain rfl : v = 0 := by omega
      exact Nat.le_refl _
theorem pre_len21 (u : Nat) (h1 : u ≤ 9223372036854775808) : (pre u).length ≤ 21 := by
  by_cases h : u = 0
  · rw [h]; exact Nat.zero_le _
  · have e : pre u = Lib.decDigits u := if_neg h
    have e2 := Lib.itoa_length_le (-(u : Int)) (by omega) (by omega)
    rw [Lib.itoa_neg u (by omega), List.length_cons] at e2
    rw [e]
    omega
def seen (s : ByteArray) : List UInt8 := s.data.toList
theorem seen_add (a b : ByteArray) : seen (a ++ b) = seen a ++ seen b := by
  unfold seen; rw [ByteArray.data_append, Array.toList_append]
theorem seen_size (s : ByteArray) : (seen s).length = s.size := rfl
set_option maxHeartbeats 800000 in
theorem pos (u : Nat) (w : World) (h0 : 0 < u) (h1 : u ≤ 9223372036854775807) : Calls Tryd.prog 54 #[.int .i64 (u : Int)] w (Out u w) := by
  have hz : ((u : Int) == 0) = false := beq_eq_false_iff_ne.2 (by omega)
  have hneg : ¬ (u : Int) < 0 := by omega
  go_enter Tryd.func54, Tryd.ntmps54
  go_wp2_with fail
  go_loopw [0, 4] (fun nv sv wr => ∃ v : Nat, ∃ s : ByteArray, v ≤ u ∧ Hid (pre v ++ seen s = pre u) ∧ nv = .int .i64 (v : Int) ∧ sv = .string s ∧ Below w.heap.size w wr) (fun nv _ _ => (intOf nv).toNat)
  case atStart =>
    refine ⟨u, ⟨#[]⟩, Nat.le_refl _, ?_, rfl, rfl, Below.refl _ _⟩
    show pre u ++ [] = pre u
    exact List.append_nil _
  case round =>
    obtain ⟨v, s, hv, hpre, rfl, rfl, hb⟩ := hrel
    have Hb := Lib.hid hb
    clear hb
    by_cases hv0 : 0 < v
    · have hne : ((v : Int) == 0) = false := beq_eq_false_iff_ne.2 (by omega)
      have hne' : ((v : Int) != 0) = true := by rw [bne_iff_ne]; omega
      go_wp2_with fail
      refine (figure_any _ _ (by omega) (by omega)).mono ?_
      rintro e w2 ⟨rfl, rfl⟩
      have hconv := conv_one w2 v
      obtain ⟨b, hbe⟩ : ∃ b : ByteArray, b = ⟨#[UInt8.ofNat (48 + v % 10)]⟩ := ⟨_, rfl⟩
      have hsb : seen b = [UInt8.ofNat (48 + v % 10)] := by rw [hbe]; rfl
      rw [← hbe] at hconv
      have hlen : b.size + s.size ≤ 9223372036854775807 := by
        have e1 := congrArg List.length hpre.out
        rw [List.length_append, pre_step hv0, List.length_append, seen_size] at e1
        have e2 := pre_len u
        have e3 : b.size = 1 := by rw [← seen_size, hsb]; rfl
        simp only [List.length_cons, List.length_nil] at e1
        omega
      have hadd := fun w => run_string_add_sum (P := Tryd.prog) (w := w) b s hlen
      have Hn := Lib.hid hlen
      have Hs := Lib.hid hsb
      clear hbe hsb hlen
      go_wp2_with fail
      refine ⟨⟨v / 10, _, by omega, ?_, ?_, rfl, ?_⟩, ?_⟩
      · show pre (v / 10) ++ seen (b ++ s) = pre u
        rw [seen_add, Hs.out, ← List.append_assoc, ← pre_step hv0]
        exact hpre.out
      · rw [Int.natCast_ediv]; rfl
      · exact Hb.out.alloc Hb.out.size _
      · simp only [intOf]; omega
    · obtain rfl : v = 0 := by omega
      have hs : s = ⟨(Lib.itoa (u : Int)).toArray⟩ := by
        have e1 := hpre.out
        rw [Lib.itoa_nonneg]
        have e2 : pre u = Lib.decDigits u := if_neg (by omega)
        have e3 : pre 0 = [] := rfl
        rw [e2, e3, List.nil_append] at e1
        rw [← e1]
        rfl
      have Hf := Lib.hid hs
      clear hs
      go_wp2_with fail
      go_ret
      exact ⟨ret_string Hf.out, Hb.out⟩
set_option maxHeartbeats 800000 in
theorem neg (u : Nat) (w : World) (h0 : 0 < u) (h1 : u ≤ 9223372036854775808) : Calls Tryd.prog 54 #[.int .i64 (-(u : Int))] w (Out (-(u : Int)) w) := by
  have hz : ((-(u : Int)) == 0) = false := beq_eq_false_iff_ne.2 (by omega)
  have hneg : -(u : Int) < 0 := by omega
  go_enter Tryd.func54, Tryd.ntmps54
  go_wp2_with fail
  go_loopw [0, 4] (fun nv sv wr => ∃ v : Nat, ∃ s : ByteArray, v ≤ u ∧ Hid (pre v ++ seen s = pre u) ∧ nv = .int .i64 (-(v : Int)) ∧ sv = .string s ∧ Below w.heap.size w wr) (fun nv _ _ => (intOf nv).natAbs)
  case atStart =>
    refine ⟨u, ⟨#[]⟩, Nat.le_refl _, ?_, rfl, rfl, Below.refl _ _⟩
    show pre u ++ [] = pre u
    exact List.append_nil _
  case round =>
    obtain ⟨v, s, hv, hpre, rfl, rfl, hb⟩ := hrel
    have Hb := Lib.hid hb
    clear hb
    by_cases hv0 : 0 < v
    · have hne : ((-(v : Int)) == 0) = false := beq_eq_false_iff_ne.2 (by omega)
      have hne' : ((-(v : Int)) != 0) = true := by rw [bne_iff_ne]; omega
      have hdiv : (-(v : Int)).tdiv 10 = -((v : Int) / 10) := by
        rw [Int.neg_tdiv, Int.tdiv_eq_ediv_of_nonneg (by omega)]
      by_cases hm : (v : Int) % 10 = 0
      · have hmod : (-(v : Int)).tmod 10 = (v : Int) % 10 := by
          rw [Int.neg_tmod, Int.tmod_eq_emod_of_nonneg (by omega)]; omega
        have hlt : ¬ (v : Int) % 10 < 0 := by omega
        clear hm
        go_wp2_with fail
        refine (figure_any _ _ (by omega) (by omega)).mono ?_
        rintro e w2 ⟨rfl, rfl⟩
        have hconv := conv_one w2 v
        obtain ⟨b, hbe⟩ : ∃ b : ByteArray, b = ⟨#[UInt8.ofNat (48 + v % 10)]⟩ := ⟨_, rfl⟩
        have hsb : seen b = [UInt8.ofNat (48 + v % 10)] := by rw [hbe]; rfl
        rw [← hbe] at hconv
        have hlen : b.size + s.size ≤ 9223372036854775807 := by
          have e1 := congrArg List.length hpre.out
          rw [List.length_append, pre_step hv0, List.length_append, seen_size] at e1
          have e2 := pre_len21 u h1
          have e3 : b.size = 1 := by rw [← seen_size, hsb]; rfl
          simp only [List.length_cons, List.length_nil] at e1
          omega
        have hadd := fun w => run_string_add_sum (P := Tryd.prog) (w := w) b s hlen
        have Hn := Lib.hid hlen
        have Hs := Lib.hid hsb
        clear hbe hsb hlen
        go_wp2_with fail
        refine ⟨⟨v / 10, _, by omega, ?_, ?_, rfl, ?_⟩, ?_⟩
        · show pre (v / 10) ++ seen (b ++ s) = pre u
          rw [seen_add, Hs.out, ← List.append_assoc, ← pre_step hv0]
          exact hpre.out
        · rw [Int.natCast_ediv]; rfl
        · exact Hb.out.alloc Hb.out.size _
        · simp only [intOf]; omega
      · have hmod : (-(v : Int)).tmod 10 = -((v : Int) % 10) := by
          rw [Int.neg_tmod, Int.tmod_eq_emod_of_nonneg (by omega)]
        have hlt : -((v : Int) % 10) < 0 := by omega
        go_wp2_with fail
        refine (figure_any _ _ (by omega) (by omega)).mono ?_
        rintro e w2 ⟨rfl, rfl⟩
        have hconv := conv_one w2 v
        obtain ⟨b, hbe⟩ : ∃ b : ByteArray, b = ⟨#[UInt8.ofNat (48 + v % 10)]⟩ := ⟨_, rfl⟩
        have hsb : seen b = [UInt8.ofNat (48 + v % 10)] := by rw [hbe]; rfl
        rw [← hbe] at hconv
        have hlen : b.size + s.size ≤ 9223372036854775807 := by
          have e1 := congrArg List.length hpre.out
          rw [List.length_append, pre_step hv0, List.length_append, seen_size] at e1
          have e2 := pre_len21 u h1
          have e3 : b.size = 1 := by rw [← seen_size, hsb]; rfl
          simp only [List.length_cons, List.length_nil] at e1
          omega
        have hadd := fun w => run_string_add_sum (P := Tryd.prog) (w := w) b s hlen
        have Hn := Lib.hid hlen
        have Hs := Lib.hid hsb
        clear hbe hsb hlen
        go_wp2_with fail
        refine ⟨⟨v / 10, _, by omega, ?_, ?_, rfl, ?_⟩, ?_⟩
        · show pre (v / 10) ++ seen (b ++ s) = pre u
          rw [seen_add, Hs.out, ← List.append_assoc, ← pre_step hv0]
          exact hpre.out
        · rw [Int.natCast_ediv]; rfl
        · exact Hb.out.alloc Hb.out.size _
        · simp only [intOf]; omega
    · obtain rfl : v = 0 := by omega
      have hs : seen s = Lib.decDigits u := by
        have e1 := hpre.out
        have e2 : pre u = Lib.decDigits u := if_neg (by omega)
        have e3 : pre 0 = [] := rfl
        rw [e2, e3, List.nil_append] at e1
        exact e1
      obtain ⟨m, hme⟩ : ∃ m : ByteArray, m = ⟨#[45]⟩ := ⟨_, rfl⟩
      have hlen : m.size + s.size ≤ 9223372036854775807 := by
        have e1 := congrArg List.length hpre.out
        rw [List.length_append, seen_size] at e1
        have e2 := pre_len21 u h1
        have e3 : m.size = 1 := by rw [hme]; rfl
        omega
      have hadd := fun w => run_string_add_sum (P := Tryd.prog) (w := w) m s hlen
      have Hf := Lib.hid (show m ++ s = ⟨(Lib.itoa (-(u : Int))).toArray⟩ by
        rw [Lib.itoa_neg u h0, ← hs, hme]
        apply ByteArray.ext
        apply Array.toList_inj.1
        show seen (_ ++ s) = _
        rw [seen_add]
        rfl)
      rw [hme] at hadd Hf
      clear hs hlen hme
      go_wp2_with fail
      go_ret
      exact ⟨ret_string Hf.out, Hb.out⟩
end Go.Proofs.YtkjjeccgmeiniaaDoor.Fmi
