/- The program's scan of digits and its readDigits. -/
import Derived.Test.YtgfeahammmfdaaaDoorChecked
import Derived.Test.YtgfeahammmfdaaaDoorDec
import Derived.WalkKit
import Derived.WalkLawsBesides
import Derived.WalkMore
import Derived.WalkSpells
import Derived.Lib.Hide
import Derived.Below
import Derived.Handy
import Derived.Deep.QuietTactic
import Derived.BigQuiet
namespace Go.Proofs.YtgfeahammmfdaaaDoor.Dec
open Go.ChangeShapes Go.WideShapes Go.ChangeAt Go.RowKit Go.Proofs.YtgfeahammmfdaaaDoor
set_option linter.unusedVariables false
theorem idx_run (s : ByteArray) (i : Nat) (h : i < s.size) (x : Int) (hx : x = (i : Int)) :
    ∃ c : Nat, c = byt s i ∧ c ≤ 255 ∧ ∀ w, (Instr.index 9 (.string s) (.int .i64 x)).run Tryd.prog w = .ok (.int .u8 (c : Int)) w := by
  subst hx
  have hlt2 : (i : Int) < s.size := by omega
  obtain ⟨b, hb⟩ : ∃ b : UInt8, b = s[i] := ⟨_, rfl⟩
  refine ⟨b.toNat, ?_, by have := b.toNat_lt; omega, fun w => ?_⟩
  · unfold byt
    rw [List.getD_eq_getElem?_getD, Array.getElem?_toList, Array.getElem?_eq_getElem (by simpa using h)]
    rw [hb]; rfl
  · rw [run_index_string _ _ _ _ _ Tryd.underlying9, dif_pos ⟨by omega, hlt2⟩, hb]
    rfl
def Scan (t : ByteArray) (L : Nat) (w : World) (e : Ending) (w' : World) : Prop := (∃ c, Stop t L c ∧ e = .returned (.tuple #[.int .i64 (vl t 0 c : Int), .int .i64 (c : Int)])) ∧ w' = w
set_option maxHeartbeats 800000 in
theorem scan_any (t : ByteArray) (L : Nat) (hL : L ≤ 15) (ht : t.size ≤ 9223372036854775807) (w : World) : Calls Tryd.prog 40 #[.string t, .int .i64 (L : Int)] w (Scan t L w) := by
  go_enter Tryd.func40, Tryd.ntmps40
  go_wp2
  go_step3
  go_wp2
  go_step3
  go_wp2_with fail
  go_loopw [6, 7] (fun nv iv wr => ∃ i : Nat, i ≤ t.size ∧ i ≤ L ∧ Hid (digs t 0 i) ∧ nv = .int .i64 (vl t 0 i : Int) ∧ iv = .int .i64 (i : Int) ∧ wr = w) (fun _ iv _ => L - (intOf iv).toNat)
  case atStart => exact ⟨0, Nat.zero_le _, Nat.zero_le _, digs_zero t 0, rfl, rfl, rfl⟩
  case round =>
    obtain ⟨i, hi, hi10, hd, rfl, rfl, rfl⟩ := hrel
    obtain ⟨n, hn⟩ : ∃ n, n = vl t 0 i := ⟨_, rfl⟩
    have hnb : n < 1000000000000000 := by rw [hn]; exact vl_15 hd.out (by omega)
    rw [← hn]
    by_cases hlt : i < t.size
    · have hlt2 : (i : Int) < t.size := by omega
      by_cases h10 : i < L
      · have h10' : (i : Int) < L := by omega
        obtain ⟨c, hc, hcb, hidx⟩ := idx_run t i hlt (i : Int) rfl
        have Hc := Lib.hid hc
        have Hn := Lib.hid hn
        clear hc hn
        by_cases h48 : (c : Int) < 48
        · have hge : ¬ (48 : Int) ≤ c := by omega
          have Hbad := Lib.hid (show ¬ dg (byt t i) by rw [← Hc.out]; unfold dg; omega)
          go_wp2_with fail
          go_ret2
          refine ⟨⟨i, ⟨hi, hi10, hd.out, .inr (.inr Hbad.out)⟩, ?_⟩, rfl⟩
          rw [← Hn.out]
          rfl
        · by_cases h57 : 57 < (c : Int)
          · have hge : (48 : Int) ≤ c := by omega
            have hle : ¬ (c : Int) ≤ 57 := by omega
            have Hbad := Lib.hid (show ¬ dg (byt t i) by rw [← Hc.out]; unfold dg; omega)
            go_wp2_with fail
            go_ret2
            refine ⟨⟨i, ⟨hi, hi10, hd.out, .inr (.inr Hbad.out)⟩, ?_⟩, rfl⟩
            rw [← Hn.out]
            rfl
          · have hnn : (n : Int) < 1000000000000000 := by omega
            have hge : (48 : Int) ≤ c := by omega
            have hle : (c : Int) ≤ 57 := by omega
            go_wp2_with fail
            refine ⟨⟨i + 1, hlt, h10, ?_, ?_, rfl, trivial⟩, ?_⟩
            · refine digs_succ hd.out ?_
              rw [Nat.zero_add, ← Hc.out]
              unfold dg; omega
            · show _ = Value.int .i64 (((10 * vl t 0 i + (byt t (0 + i) - 48) : Nat)) : Int)
              rw [Nat.zero_add, ← Hn.out, ← Hc.out]
              congr 1
              omega
            · simp only [intOf]; omega
      · have h10' : ¬ (i : Int) < L := by omega
        have Hn := Lib.hid hn
        clear hn
        go_wp2_with fail
        go_ret2
        refine ⟨⟨i, ⟨hi, hi10, hd.out, .inr (.inl (by omega))⟩, ?_⟩, rfl⟩
        rw [← Hn.out]
        rfl
    · have hlt2 : ¬ (i : Int) < t.size := by omega
      have Hn := Lib.hid hn
      clear hn
      go_wp2_with fail
      go_ret2
      refine ⟨⟨i, ⟨hi, hi10, hd.out, .inl (by omega)⟩, ?_⟩, rfl⟩
      rw [← Hn.out]
      rfl
/-- what readDigits gives -/
def Rdg (t : ByteArray) (w : World) (e : Ending) (w' : World) : Prop := (∃ x y : Nat, ∃ b : Bool, ((∃ d k, Form t 0 t.size d k ∧ x = d ∧ y = k ∧ b = true) ∨ ((¬ ∃ d k, Form t 0 t.size d k) ∧ b = false)) ∧ e = .returned (.tuple #[.int .i64 (x : Int), .int .i64 (y : Int), .bool b])) ∧ w' = w
set_option maxHeartbeats 1000000 in
theorem read_any (t : ByteArray) (ht : t.size ≤ maxLen) (w : World) : Calls Tryd.prog 43 #[.string t] w (Rdg t w) := by
  unfold maxLen at ht
  go_enter Tryd.func43, Tryd.ntmps43
  go_wp2_with fail
  refine (scan_any t 15 (by omega) (by omega) _).mono ?_
  rintro e w2 ⟨⟨c, hs, rfl⟩, rfl⟩
  have Hs := Lib.hid hs
  have hc15 : c ≤ 15 := hs.2.1
  have hct : c ≤ t.size := hs.1
  obtain ⟨n, hn⟩ : ∃ n, n = vl t 0 c := ⟨_, rfl⟩
  rw [← hn]
  have hnb : n < 1000000000000000 := by rw [hn]; exact vl_15 hs.2.2.1 (by omega)
  have Hn := Lib.hid hn
  clear hn hs
  by_cases h0 : 0 < c
  · have h0' : ((c : Int) == 0) = false := by rw [beq_eq_false_iff_ne]; omega
    by_cases hlt : c < t.size
    · have hlt' : ((c : Int) == (t.size : Int)) = false := by rw [beq_eq_false_iff_ne]; omega
      obtain ⟨x, hx, hxb, hidx⟩ := idx_run t c hlt (c : Int) rfl
      have Hx := Lib.hid hx
      clear hx
      by_cases h46 : x = 46
      · have hq1 : ((x : Int) == 46) = true := by rw [beq_iff_eq]; omega
        have hq2 : ((x : Int) != 46) = false := by rw [bne, hq1]; rfl
        have H46 := Lib.hid h46
        clear h46
        have hz := extract_size t (c + 1)
        have h15 : (15 : Int) - c = ((15 - c : Nat) : Int) := by omega
        have c2 := fun w => scan_any (t.extract (c + 1) t.size) (15 - c) (by omega) (by rw [hz]; omega) w
        rw [← h15] at c2
        have Hz := Lib.hid hz
        clear hz h15
        go_wp2_with fail
        refine (c2 _).mono ?_
        rintro e w2 ⟨⟨b, hs, rfl⟩, rfl⟩
        clear c2
        have Hb := Lib.hid hs
        have hb1 : b ≤ t.size - (c + 1) := by have := hs.1; rw [Hz.out] at this; exact this
        have hb2 : b ≤ 15 - c := hs.2.1
        obtain ⟨m, hm⟩ : ∃ m, m = vl (t.extract (c + 1) t.size) 0 b := ⟨_, rfl⟩
        rw [← hm]
        have hmb : m < 1000000000000000 := by rw [hm]; exact vl_15 hs.2.2.1 (by omega)
        have Hm := Lib.hid hm
        clear hm hs
        have hsz : (t.extract (c + 1) t.size).size = t.size - (c + 1) := Hz.out
        by_cases hb0 : 0 < b
        · have e1 : ((b : Int) == 0) = false := by rw [beq_eq_false_iff_ne]; omega
          by_cases hbl : b = t.size - (c + 1)
          · have e2 : ((b : Int) == ((t.size - (c + 1) : Nat) : Int)) = true := by rw [beq_iff_eq]; omega
            have e3 : ((b : Int) != ((t.size - (c + 1) : Nat) : Int)) = false := by rw [bne, e2]; rfl
            have e4 : ((b : Int) == ((t.extract (c + 1) t.size).size : Int)) = true := by rw [beq_iff_eq, hsz]; omega
            have e5 : ((b : Int) != ((t.extract (c + 1) t.size).size : Int)) = false := by rw [bne, e4]; rfl
            have hgood := Lib.hid (stop_good Hs.out hlt h0 (by rw [← Hx.out]; exact H46.out) Hb.out hb0 hbl)
            have hnc := Lib.hid (show n < 10 ^ c by rw [Hn.out]; exact vl_lt Hs.out.2.2.1)
            clear hbl hsz
            go_wp2_with fail
            go_loop [5, 50] (fun nv iv => ∃ j q : Nat, j ≤ b ∧ Hid (q = n * 10 ^ j) ∧ nv = .int .i64 (q : Int) ∧ iv = .int .i64 (j : Int)) (fun _ iv => b - (intOf iv).toNat)
            case atStart => exact ⟨0, n, Nat.zero_le _, (show n = n * 10 ^ 0 by omega), rfl, rfl⟩
            case round =>
              obtain ⟨j, q, hj, hq, rfl, rfl⟩ := hrel
              by_cases hjb : j < b
              · have hjb' : (j : Int) < b := by omega
                have hup : q * 10 < 1000000000000000 := by rw [hq.out]; exact up_lt hnc.out (by omega)
                go_wp2_with fail
                go_round
                case rel => exact ⟨j + 1, q * 10, hjb, (show q * 10 = n * 10 ^ (j + 1) by rw [hq.out, Nat.pow_succ, Nat.mul_assoc]), by go_num, by go_num⟩
                case measure => simp [intOf]; omega
              · have hjb' : ¬ (j : Int) < b := by omega
                have hje : j = b := by omega
                have hqb : q < 1000000000000000 := by
                  have h1 := up_lt (j := b - 1) hnc.out (by omega)
                  rw [hq.out, hje, show b = (b - 1) + 1 by omega, Nat.pow_succ, ← Nat.mul_assoc]
                  exact h1
                have Hq := Lib.hid (show q = n * 10 ^ b by rw [hq.out, hje])
                clear hje
                go_wp2_with fail
                go_ret3
                exact ⟨⟨q + m, b, true, .inl ⟨_, _, hgood.out, by rw [Hq.out, Hm.out, Hn.out], rfl, rfl⟩, rfl⟩, rfl⟩
          · have e2 : ((b : Int) == ((t.size - (c + 1) : Nat) : Int)) = false := by rw [beq_eq_false_iff_ne]; omega
            have e3 : ((b : Int) != ((t.size - (c + 1) : Nat) : Int)) = true := by rw [bne, e2]; rfl
            have e4 : ((b : Int) == ((t.extract (c + 1) t.size).size : Int)) = false := by rw [beq_eq_false_iff_ne, hsz]; omega
            have e5 : ((b : Int) != ((t.extract (c + 1) t.size).size : Int)) = true := by rw [bne, e4]; rfl
            have hbad := Lib.hid (show ¬ ∃ d k, Form t 0 t.size d k from fun ⟨d, k, h⟩ => hbl (stop_frac Hs.out hlt Hb.out Hz.out h).1)
            clear hbl hsz
            go_wp2_with fail
            go_ret3
            exact ⟨⟨0, 0, false, .inr ⟨hbad.out, rfl⟩, rfl⟩, rfl⟩
        · have e1 : ((b : Int) == 0) = true := by rw [beq_iff_eq]; omega
          have hbad := Lib.hid (show ¬ ∃ d k, Form t 0 t.size d k from fun ⟨d, k, h⟩ => hb0 (stop_frac Hs.out hlt Hb.out Hz.out h).2)
          clear hsz
          go_wp2_with fail
          go_ret3
          exact ⟨⟨0, 0, false, .inr ⟨hbad.out, rfl⟩, rfl⟩, rfl⟩
      · have hbad := Lib.hid (show ¬ ∃ d k, Form t 0 t.size d k from fun ⟨d, k, h⟩ => h46 (by rw [Hx.out]; exact (stop_form Hs.out hlt h).1))
        have hq1 : ((x : Int) == 46) = false := by rw [beq_eq_false_iff_ne]; omega
        have hq2 : ((x : Int) != 46) = true := by rw [bne, hq1]; rfl
        clear h46
        go_wp2_with fail
        go_ret3
        exact ⟨⟨0, 0, false, .inr ⟨hbad.out, rfl⟩, rfl⟩, rfl⟩
    · have hce : c = t.size := by omega
      have hgood := Lib.hid (stop_all Hs.out h0 hce)
      have hlt' : ((c : Int) == (t.size : Int)) = true := by rw [beq_iff_eq]; omega
      clear hce
      go_wp2_with fail
      go_ret3
      exact ⟨⟨n, 0, true, .inl ⟨_, _, hgood.out, Hn.out, rfl, rfl⟩, rfl⟩, rfl⟩
  · have hc0 : c = 0 := by omega
    subst hc0
    have hbad := Lib.hid (stop_zero Hs.out)
    go_wp2_with fail
    go_ret3
    exact ⟨⟨n, 0, false, .inr ⟨hbad.out, rfl⟩, rfl⟩, rfl⟩
end Go.Proofs.YtgfeahammmfdaaaDoor.Dec
