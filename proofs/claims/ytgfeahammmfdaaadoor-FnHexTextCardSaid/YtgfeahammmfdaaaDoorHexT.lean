/- EncodeHex in the program. -/
import Derived.Test.YtgfeahammmfdaaaDoorHexZ
import Derived.Laws.MakeOwn
import Derived.Laws.Bits
namespace Go.Proofs.YtgfeahammmfdaaaDoor.Hex
open Go.ChangeShapes Go.WideShapes Go.ChangeAt Go.RowKit Go.Proofs.YtgfeahammmfdaaaDoor
set_option linter.unusedVariables false
def digits : ByteArray := { data := #[48, 49, 50, 51, 52, 53, 54, 55, 56, 57, 97, 98, 99, 100, 101, 102] }
theorem addr_add (b j : Nat) : (⟨b, 0, none⟩ : Addr).add j = ⟨b, j, none⟩ := by unfold Addr.add; split <;> simp_all
theorem digit_any (d : Nat) (hd : d < 16) (w : World) :
    (Instr.index 9 (.string { data := #[48, 49, 50, 51, 52, 53, 54, 55, 56, 57, 97, 98, 99, 100, 101, 102] }) (.int .u8 (d : Int))).run Tryd.prog w = .ok (.int .u8 (fig d : Int)) w := by
  rw [run_index_string _ _ _ _ _ Tryd.underlying9, dif_pos ⟨by omega, by show (d : Int) < 16; omega⟩]
  obtain rfl | rfl | rfl | rfl | rfl | rfl | rfl | rfl | rfl | rfl | rfl | rfl | rfl | rfl | rfl | rfl : d = 0 ∨ d = 1 ∨ d = 2 ∨ d = 3 ∨ d = 4 ∨ d = 5 ∨ d = 6 ∨ d = 7 ∨ d = 8 ∨ d = 9 ∨ d = 10 ∨ d = 11 ∨ d = 12 ∨ d = 13 ∨ d = 14 ∨ d = 15 := by omega
  all_goals rfl
set_option maxRecDepth 20000 in
set_option maxHeartbeats 800000 in
theorem implEnc (s : ByteArray) (w : World) (hs : s.size ≤ 20000) :
    Calls Tryd.prog 19 #[.string s] w fun e w' => e = .returned (.tuple #[.string (encS s), .bool true]) ∧ Below w.heap.size w w' := by
  obtain ⟨i0, hi, hz0, hz1, hz2⟩ := info_parts info5
  have Hi := Lib.hid (And.intro hi (And.intro hz0 (And.intro hz1 hz2)))
  clear hi hz0 hz1 hz2
  obtain ⟨n2, hn2⟩ : ∃ n : Nat, n = 2 * s.size := ⟨_, rfl⟩
  obtain ⟨w1, hmk, hown, hgrow⟩ := run_make_own (P := Tryd.prog) w w.heap.size 22 5 i0 (.int .u8 0) 1 Tryd.underlying22 Hi.out.1 Hi.out.2.1 Hi.out.2.2.1 .i64 .i64 n2 (by rw [Hi.out.2.2.2]; omega) (by unfold maxLen; omega) (Nat.le_refl _)
  have Hn := Lib.hid (And.intro ((Below.refl w.heap.size w).grown hgrow (Nat.le_refl _) (fun j hj => by simp at hj)) hown)
  clear hown hgrow
  rw [show (n2 : Int) = 2 * (s.size : Int) by omega] at hmk
  subst hn2
  go_enter Tryd.func19, Tryd.ntmps19
  go_wp2_with fail
  go_loopw [4, 15] (fun v i wr => ∃ k g cp : Nat, v = .slice (some ⟨g, 0, none⟩) (2 * k) cp ∧ i = .int .i64 k ∧ k ≤ s.size ∧ wr.ownsRow w.heap.size 5 1 v (2 * k) (vals8 (encL (s.data.toList.take k))) ∧ Below w.heap.size w wr)
    (fun _ i _ => s.size - (intOf i).toNat)
  case atStart => exact ⟨0, w.heap.size, 2 * s.size, rfl, rfl, Nat.zero_le _, Hn.out.2, Hn.out.1⟩
  case round =>
    obtain ⟨k, g0, cp, rfl, rfl, hk, hown, hbel⟩ := hrel
    have Hr := Lib.hid (And.intro hown hbel)
    clear hown hbel
    by_cases hkl : k < s.size
    · have hlt2 : (k : Int) < s.size := by omega
      obtain ⟨b, hb⟩ : ∃ b : UInt8, b = s[k] := ⟨_, rfl⟩
      obtain ⟨c, hc⟩ : ∃ c : Nat, c = b.toNat := ⟨_, rfl⟩
      have hidx : ∀ w, (Instr.index 9 (.string s) (.int .i64 (k : Int))).run Tryd.prog w = .ok (.int .u8 (c : Int)) w := by
        intro w
        rw [run_index_string _ _ _ _ _ Tryd.underlying9, dif_pos ⟨by omega, hlt2⟩, hc, hb]
        rfl
      have hcb : c ≤ 255 := by have := b.toNat_lt; omega
      have Htk := Lib.hid (show s.data.toList.take (k + 1) = s.data.toList.take k ++ [b] by
        rw [List.take_add_one, hb]
        congr 1
        have : s.data.toList[k]? = some s[k] := by
          rw [Array.getElem?_toList, Array.getElem?_eq_getElem (by simpa using hkl)]; rfl
        rw [this]; rfl)
      have Hc := Lib.hid hc
      clear hc hb
      obtain ⟨q, hq⟩ : ∃ q : Nat, q = c / 16 := ⟨_, rfl⟩
      obtain ⟨r, hr⟩ : ∃ r : Nat, r = c % 16 := ⟨_, rfl⟩
      have h2 : (c : Int) / 2 ^ (4 : Int).toNat = (q : Int) := by rw [hq]; rfl
      have h2' : (c : Int) / 16 = (q : Int) := by rw [hq]; rfl
      have h3 : bits .and .u8 (c : Int) 15 = (r : Int) := by rw [hr, u8_and15 (x := ((c : Nat) : Int)) (by omega) (by omega)]; rfl
      have hq16 : q < 16 := by omega
      have hr16 : r < 16 := by omega
      obtain ⟨fq, hfq⟩ : ∃ f : Int, (fig q : Int) = f := ⟨_, rfl⟩
      obtain ⟨fr, hfr⟩ : ∃ f : Int, (fig r : Int) = f := ⟨_, rfl⟩
      have c1 := fun w => digit_any q hq16 w
      have c2 := fun w => digit_any r hr16 w
      rw [hfq] at c1
      rw [hfr] at c2
      have Hq := Lib.hid (And.intro hq (And.intro hr (And.intro hfq hfr)))
      have Hown := Lib.hid (show ((wr.alloc (.cells #[.int .u8 fq, .int .u8 fr] 5)).drew).ownsRow w.heap.size 5 1 _ _ _ from Hr.out.1.alloc (.cells #[.int .u8 fq, .int .u8 fr] 5))
      have hbs : w.heap.size ≤ ((wr.alloc (.cells #[.int .u8 fq, .int .u8 fr] 5)).drew).heap.size := by
        have := Hr.out.2.size
        have e : ((wr.alloc (.cells #[.int .u8 fq, .int .u8 fr] 5)).drew).heap.size = wr.heap.size + 1 := by
          show (wr.heap.push _).size = _
          simp
        rw [e]; omega
      have Hnews := Lib.hid (show ∀ j u, [Value.int .u8 fq, .int .u8 fr][j]? = some u → ((wr.alloc (.cells #[.int .u8 fq, .int .u8 fr] 5)).drew).cell? ((⟨wr.heap.size, 0, none⟩ : Addr).add j) = some u by
        intro j u hj
        have e : (⟨wr.heap.size, 0, none⟩ : Addr).add j = ⟨wr.heap.size, j, none⟩ := addr_add _ _
        rw [e]
        show (wr.alloc (.cells #[.int .u8 fq, .int .u8 fr] 5)).cell? ⟨wr.heap.size, j, none⟩ = some u
        rw [cell_of_row _ wr.heap.size j #[.int .u8 fq, .int .u8 fr] 5 (0, 0) (block_new wr _)]
        simpa using hj)
      have Hone := Lib.hid (show ∀ u ∈ [Value.int .u8 fq, .int .u8 fr], u.oneCell' = true by
        intro x hx
        simp at hx
        rcases hx with rfl | rfl <;> rfl)
      have hn63 : 2 * k + 2 ≤ maxLen := by unfold maxLen; omega
      have hnby : (2 * k + 2) * 1 ≤ 140737488355328 := by omega
      clear hq hr hfq hfr
      go_wp2_with fail
      go_region_law (first
        | (refine step_append_lies _ rfl (.tmp 18) (.tmp 29) 22 rfl w.heap.size 5 i0 (.int .u8 0) 1 1 Tryd.underlying22 Hi.out.1 Hi.out.2.1 Hi.out.2.2.1 Hi.out.2.2.2 rfl (by decide) (.slice (some ⟨g0, 0, none⟩) (2 * k) cp) (2 * k) (vals8 (encL (s.data.toList.take k))) (by simp [Act.eval]) Hown.out ⟨wr.heap.size, 0, none⟩ 2 2 [.int .u8 fq, .int .u8 fr] (by simp [Act.eval]) rfl Hnews.out Hone.out (by omega) hn63 hnby hbs _ rfl ?_; intro g cap w1 hown1 hgrow1 hat1 hlt1))
      all_goals
        have H1 := Lib.hid (show w1.ownsRow w.heap.size 5 1 (.slice (some ⟨g, 0, none⟩) (2 * (k + 1)) cap) (2 * (k + 1)) (vals8 (encL (s.data.toList.take (k + 1)))) ∧ Below w.heap.size w w1 from ⟨by
          rw [Htk.out, encL_snoc, ← Hc.out, ← Hq.out.1, ← Hq.out.2.1, Hq.out.2.2.1, Hq.out.2.2.2, vals8_append]
          exact hown1, (((Hr.out.2.alloc Hr.out.2.size _).drew).grown hgrow1 hbs (fun j hj => (Hown.out.lt j hj).1))⟩)
        clear hown1 hgrow1 hat1 hlt1
        go_wp2_with fail
        go_roundw
        case rel => exact ⟨k + 1, g, cap, rfl, by go_num, by omega, H1.out.1, H1.out.2⟩
        case measure => simp [intOf]; omega
    · obtain rfl : k = s.size := by omega
      have kc : (convert 22 9 (.slice (some ⟨g0, 0, none⟩) (2 * s.size) cp)).run Tryd.prog wr = .ok (.string (encS s)) wr := by
        have hl : s.data.toList.take s.size = s.data.toList := List.take_of_length_le (Nat.le_refl _)
        have ho := Hr.out.1
        rw [hl] at ho
        have hlen : (encL s.data.toList).length = 2 * s.size := encL_len _
        exact run_convert_bytes_arg wr 22 5 Tryd.underlying22 Tryd.underlying5 g0 0 (2 * s.size) cp (encL s.data.toList) hlen (fun i hi => by
          rw [Nat.zero_add, ho.cellAt i (by omega)]
          simp [vals8, List.getElem?_eq_getElem (show i < (encL s.data.toList).length by omega)]) 9 Tryd.underlying9
      go_wp2_with fail
      go_ret2
      exact ⟨rfl, Hr.out.2⟩
theorem implLong (s : ByteArray) (w : World) (hs : ¬ s.size ≤ 20000) (hl : s.size ≤ 1048576) :
    Calls Tryd.prog 19 #[.string s] w fun e w' => e = .returned (.tuple #[.string ⟨#[]⟩, .bool false]) ∧ w' = w := by
  go_enter Tryd.func19, Tryd.ntmps19
  go_wp2_with fail
  go_ret2
  exact ⟨rfl, rfl⟩
end Go.Proofs.YtgfeahammmfdaaaDoor.Hex
