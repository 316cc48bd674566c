/- The contract of the model's draw of a line. -/
import Derived.Test.YtgfeahammmfdaaaDoorDrawH
import Derived.Test.YtgfeahammmfdaaaDoorDrawM
namespace Go.Proofs.YtgfeahammmfdaaaDoor.Drw
open Go.ChangeShapes Go.WideShapes Go.ChangeAt Go.RowKit Go.Proofs.YtgfeahammmfdaaaDoor
set_option linter.unusedVariables false
theorem conv_byte (w : World) (x : Int) : ∃ b : ByteArray, b.size = 1 ∧ (convert 22 9 (.slice (some ⟨w.heap.size, 0, none⟩) 1 1)).run Tryd.prog (w.alloc (.cells #[.int .u8 x] 5)) = .ok (.string b) (w.alloc (.cells #[.int .u8 x] 5)) := by
  refine ⟨strOfNums [x], by rw [strOfNums_size]; rfl, ?_⟩
  exact run_convert_bytes_arg _ 22 5 Tryd.underlying22 Tryd.underlying5 w.heap.size 0 1 1 [x] rfl (fun i hi => by
    obtain rfl : i = 0 := by omega
    rw [cell_of_row _ w.heap.size (0 + 0) #[.int .u8 x] 5 (0, 0) (block_new w _)]
    rfl) 9 Tryd.underlying9
theorem add_run (a b : ByteArray) (n : Nat) (h : a.size + b.size ≤ n) (hn : n ≤ 1000000) : (∀ w, (Op.stringOp .add a b).run Tryd.prog w = .ok (.string (a ++ b)) w) ∧ (a ++ b).size ≤ n :=
  ⟨fun w => run_string_add_sum (P := Tryd.prog) (w := w) a b (by omega), by rw [ByteArray.size_append]; exact h⟩
theorem six_t : ∀ i, i < 6 → ∃ v : ByteArray, (#[Value.string ⟨#[32]⟩, .string ⟨#[32, 32]⟩, .string ⟨#[9]⟩, .string ⟨#[10]⟩, .string ⟨#[127]⟩, .string ⟨#[233]⟩])[i]? = some (.string v) ∧ v.size ≤ 2 := by
  intro i hi
  obtain rfl | rfl | rfl | rfl | rfl | rfl : i = 0 ∨ i = 1 ∨ i = 2 ∨ i = 3 ∨ i = 4 ∨ i = 5 := by omega
  all_goals exact ⟨_, rfl, by decide⟩
/-- some line has been drawn -/
def LineOut (w : World) (e : Ending) (w' : World) : Prop := ∃ s : ByteArray, s.size ≤ 2000 ∧ e = .returned (.string s) ∧ Below w.heap.size w w'
set_option maxRecDepth 20000 in
set_option maxHeartbeats 2000000 in
theorem line_any (a : Option Addr) (len cap : Nat) (zs : List Int) (w : World) (hr : IsRow .u8 w a len cap zs) :
    Calls Tryd.prog 26 #[.slice a len cap] w (LineOut w) := by
  go_enter Tryd.func26, Tryd.ntmps26
  go_wp2_with fail
  refine (new_any a len cap zs _ hr).mono ?_
  rintro e w1 ⟨rfl, hc, hb⟩
  obtain ⟨B, hB⟩ : ∃ B, B = w.heap.size := ⟨_, rfl⟩
  rw [← hB] at hc ⊢
  have Hb := Lib.hid (show Below B w w1 by rw [hB]; exact hb)
  have HB := Lib.hid hB
  have HBs := Lib.hid (show B ≤ w1.heap.size by rw [hB]; exact hb.size)
  clear hb hr hB
  go_wp2_with fail
  refine (below_any _ _ _ _ hc (by omega)).mono ?_
  rintro e w2 ⟨n0, n00, n01, rfl, hc2, ho2⟩
  have n02 := n01 (by omega)
  have Hc2 := Lib.hid hc2
  have Ho2 := Lib.hid ho2
  clear hc hc2 ho2 n01
  go_wp2_with fail
  refine (once_any' _ _ _ _ Hc2.out (by omega)).mono ?_
  rintro e w3 ⟨b, rfl, hc3, ho3⟩
  have Hc3 := Lib.hid hc3
  have Ho3 := Lib.hid (Ho2.out.trans ho3)
  clear hc3 ho3
  cases b with
  | true =>
    go_wp2_with fail
    refine (below_any _ _ _ _ Hc3.out (by omega)).mono ?_
    rintro e w4 ⟨z, z0, z1, rfl, hc4, ho4⟩
    have z2 := z1 (by omega)
    have Hst := Lib.hid (And.intro hc4 (Ho3.out.trans ho4))
    obtain ⟨n, hn⟩ : ∃ n, n = 24 + z := ⟨_, rfl⟩
    have hn25 : n ≤ 25 := by omega
    have hnn : 0 ≤ n := by omega
    have h24 : IntKind.i64.wrap (24 + z) = n := by rw [IntKind.wrap_i64]; omega
    have h24b : 24 + z = n := hn.symm
    clear hc4 ho4 z1 hn
    go_wp2_with fail
    clear h24 h24b
    go_loopw [5, 6] (fun sv iv wr => ∃ (i : Nat) (s : ByteArray), s.size ≤ 10 * i ∧ i ≤ 25 ∧ sv = .string s ∧ iv = .int .i64 (i : Int) ∧ Cur B wr B ∧ Only B w1 wr) (fun _ iv _ => 25 - (intOf iv).toNat)
    case atStart => exact ⟨0, ⟨#[]⟩, Nat.zero_le _, Nat.zero_le _, rfl, rfl, Hst.out.1, Hst.out.2⟩
    case round =>
      obtain ⟨i, s, hs, hi, rfl, rfl, hcr, hor⟩ := hrel
      have Hr := Lib.hid (And.intro hcr hor)
      clear hcr hor
      by_cases hin : (i : Int) < n
      · have hi24 : i ≤ 24 := by omega
        by_cases hi0 : 0 < i
        · have hi0' : (0 : Int) < i := by omega
          go_wp2_with fail
          refine (below_any _ _ _ _ Hr.out.1 (by omega)).mono ?_
          rintro e wa ⟨p, p0, p1, rfl, hca, hoa⟩
          have p2 := p1 (by omega)
          have Hp := Lib.hid (And.intro hca (Hr.out.2.trans hoa))
          clear hca hoa p1
          go_wp2_with fail
          refine (below_any _ _ _ _ Hp.out.1 (by omega)).mono ?_
          rintro e wb ⟨q, q0, q1, rfl, hcb, hob⟩
          have q2 := q1 (by omega)
          have Hpq := Lib.hid (And.intro hcb (Hp.out.2.trans hob))
          clear hcb hob q1
          have hpq : 0 ≤ p * q ∧ p * q ≤ 2 := by
            obtain rfl | rfl : p = 0 ∨ p = 1 := by omega
            · rw [Int.zero_mul]; omega
            · rw [Int.one_mul]; omega
          obtain ⟨m, hm⟩ : ∃ m : Nat, (m : Int) = 1 + p * q := ⟨(1 + p * q).toNat, by omega⟩
          have hm2 : m ≤ 3 := by omega
          have c1 := fun w => long_any m 32 w (by omega)
          rw [hm] at c1
          clear hm
          go_wp2_with fail
          refine (c1 _).mono ?_
          rintro e wc ⟨sp, hsp, rfl, hbc⟩
          have Hz := Lib.hid (And.intro (Hpq.out.1.keep hbc) (Hpq.out.2.trans (Only.of_below hbc)))
          obtain ⟨hadd, ht0s⟩ := add_run s sp (10 * i + 3) (by omega) (by omega)
          obtain ⟨t0, ht0⟩ : ∃ t0, t0 = s ++ sp := ⟨_, rfl⟩
          rw [← ht0] at hadd ht0s
          clear ht0 hbc hsp c1 hpq
          go_wp2_with fail
          go_loopw [5, 7] (fun sv kv wq => ∃ (t : ByteArray) (k : Nat), t.size ≤ 10 * i + 3 + k ∧ k ≤ 5 ∧ sv = .string t ∧ kv = .int .i64 (k : Int) ∧ Cur B wq B ∧ Only B w1 wq) (fun _ kv _ => 5 - (intOf kv).toNat)
          case atStart => exact ⟨t0, 0, by omega, by omega, rfl, rfl, Hz.out.1, Hz.out.2⟩
          case round =>
            obtain ⟨t, k, ht, hk, rfl, rfl, hcq, hoq⟩ := hrel
            have Hq := Lib.hid (And.intro hcq hoq)
            clear hcq hoq
            go_wp2_with fail
            refine (below_any _ _ _ _ Hq.out.1 (by omega)).mono ?_
            rintro e w5 ⟨x, x0, x1, rfl, hc5, ho5⟩
            have x2 := x1 (by omega)
            have H5 := Lib.hid (And.intro hc5 (Hq.out.2.trans ho5))
            clear hc5 ho5 x1
            by_cases hkx : (k : Int) ≤ x
            · go_wp2_with fail
              refine (below_any _ _ _ _ H5.out.1 (by omega)).mono ?_
              rintro e w6 ⟨y, y0, y1, rfl, hc6, ho6⟩
              have y2 := y1 (by omega)
              have H6 := Lib.hid (And.intro (hc6.alloc (.cells #[.int .u8 (33 + y)] 5)) ((H5.out.2.trans ho6).alloc (.cells #[.int .u8 (33 + y)] 5)))
              clear hc6 ho6 y1
              obtain ⟨cb, hcb, hconv⟩ := conv_byte w6 (33 + y)
              obtain ⟨hadd, hts⟩ := add_run t cb (10 * i + 3 + (k + 1)) (by omega) (by omega)
              obtain ⟨t2, ht2⟩ : ∃ t2, t2 = t ++ cb := ⟨_, rfl⟩
              rw [← ht2] at hadd hts
              clear ht2 hcb
              go_wp2_with fail
              go_roundw
              case rel => exact ⟨t2, k + 1, hts, by omega, rfl, by go_num, H6.out.1, H6.out.2⟩
              case measure => simp [intOf]; omega
            · have hkx' : ¬ (k : Int) ≤ x := by omega
              go_wp2_with fail
              go_roundw
              case rel => exact ⟨i + 1, t, by omega, by omega, rfl, by go_num, H5.out.1, H5.out.2⟩
              case measure => simp [intOf]; omega
        · have hi0' : ¬ (0 : Int) < i := by omega
          go_wp2_with fail
          refine (once_any' _ _ _ _ Hr.out.1 (by omega)).mono ?_
          rintro e wo ⟨b, rfl, hco, hoo⟩
          have Hr' := Lib.hid (And.intro hco (Hr.out.2.trans hoo))
          clear hco hoo Hr
          have Hr := Hr'
          clear Hr'
          cases b with
          | true =>
            go_wp2_with fail
            refine (below_any _ _ _ _ Hr.out.1 (by omega)).mono ?_
            rintro e wa ⟨p, p0, p1, rfl, hca, hoa⟩
            have p2 := p1 (by omega)
            have Hp := Lib.hid (And.intro hca (Hr.out.2.trans hoa))
            clear hca hoa p1
            go_wp2_with fail
            refine (below_any _ _ _ _ Hp.out.1 (by omega)).mono ?_
            rintro e wb ⟨q, q0, q1, rfl, hcb, hob⟩
            have q2 := q1 (by omega)
            have Hpq := Lib.hid (And.intro hcb (Hp.out.2.trans hob))
            clear hcb hob q1
            have hpq : 0 ≤ p * q ∧ p * q ≤ 2 := by
              obtain rfl | rfl : p = 0 ∨ p = 1 := by omega
              · rw [Int.zero_mul]; omega
              · rw [Int.one_mul]; omega
            obtain ⟨m, hm⟩ : ∃ m : Nat, (m : Int) = 1 + p * q := ⟨(1 + p * q).toNat, by omega⟩
            have hm2 : m ≤ 3 := by omega
            have c1 := fun w => long_any m 32 w (by omega)
            rw [hm] at c1
            clear hm
            go_wp2_with fail
            refine (c1 _).mono ?_
            rintro e wc ⟨sp, hsp, rfl, hbc⟩
            have Hz := Lib.hid (And.intro (Hpq.out.1.keep hbc) (Hpq.out.2.trans (Only.of_below hbc)))
            obtain ⟨hadd, ht0s⟩ := add_run s sp (10 * i + 3) (by omega) (by omega)
            obtain ⟨t0, ht0⟩ : ∃ t0, t0 = s ++ sp := ⟨_, rfl⟩
            rw [← ht0] at hadd ht0s
            clear ht0 hbc hsp c1 hpq
            go_wp2_with fail
            go_loopw [5, 7] (fun sv kv wq => ∃ (t : ByteArray) (k : Nat), t.size ≤ 10 * i + 3 + k ∧ k ≤ 5 ∧ sv = .string t ∧ kv = .int .i64 (k : Int) ∧ Cur B wq B ∧ Only B w1 wq) (fun _ kv _ => 5 - (intOf kv).toNat)
            case atStart => exact ⟨t0, 0, by omega, by omega, rfl, rfl, Hz.out.1, Hz.out.2⟩
            case round =>
              obtain ⟨t, k, ht, hk, rfl, rfl, hcq, hoq⟩ := hrel
              have Hq := Lib.hid (And.intro hcq hoq)
              clear hcq hoq
              go_wp2_with fail
              refine (below_any _ _ _ _ Hq.out.1 (by omega)).mono ?_
              rintro e w5 ⟨x, x0, x1, rfl, hc5, ho5⟩
              have x2 := x1 (by omega)
              have H5 := Lib.hid (And.intro hc5 (Hq.out.2.trans ho5))
              clear hc5 ho5 x1
              by_cases hkx : (k : Int) ≤ x
              · go_wp2_with fail
                refine (below_any _ _ _ _ H5.out.1 (by omega)).mono ?_
                rintro e w6 ⟨y, y0, y1, rfl, hc6, ho6⟩
                have y2 := y1 (by omega)
                have H6 := Lib.hid (And.intro (hc6.alloc (.cells #[.int .u8 (33 + y)] 5)) ((H5.out.2.trans ho6).alloc (.cells #[.int .u8 (33 + y)] 5)))
                clear hc6 ho6 y1
                obtain ⟨cb, hcb, hconv⟩ := conv_byte w6 (33 + y)
                obtain ⟨hadd, hts⟩ := add_run t cb (10 * i + 3 + (k + 1)) (by omega) (by omega)
                obtain ⟨t2, ht2⟩ : ∃ t2, t2 = t ++ cb := ⟨_, rfl⟩
                rw [← ht2] at hadd hts
                clear ht2 hcb
                go_wp2_with fail
                go_roundw
                case rel => exact ⟨t2, k + 1, hts, by omega, rfl, by go_num, H6.out.1, H6.out.2⟩
                case measure => simp [intOf]; omega
              · have hkx' : ¬ (k : Int) ≤ x := by omega
                go_wp2_with fail
                go_roundw
                case rel => exact ⟨i + 1, t, by omega, by omega, rfl, by go_num, H5.out.1, H5.out.2⟩
                case measure => simp [intOf]; omega
          | false =>
            obtain ⟨t0, ht0⟩ : ∃ t0, t0 = s := ⟨_, rfl⟩
            have ht0s : t0.size ≤ 10 * i + 3 := by rw [ht0]; omega
            rw [← ht0]
            have Hz := Lib.hid Hr.out
            clear ht0 hs
            go_wp2_with fail
            go_loopw [5, 7] (fun sv kv wq => ∃ (t : ByteArray) (k : Nat), t.size ≤ 10 * i + 3 + k ∧ k ≤ 5 ∧ sv = .string t ∧ kv = .int .i64 (k : Int) ∧ Cur B wq B ∧ Only B w1 wq) (fun _ kv _ => 5 - (intOf kv).toNat)
            case atStart => exact ⟨t0, 0, by omega, by omega, rfl, rfl, Hz.out.1, Hz.out.2⟩
            case round =>
              obtain ⟨t, k, ht, hk, rfl, rfl, hcq, hoq⟩ := hrel
              have Hq := Lib.hid (And.intro hcq hoq)
              clear hcq hoq
              go_wp2_with fail
              refine (below_any _ _ _ _ Hq.out.1 (by omega)).mono ?_
              rintro e w5 ⟨x, x0, x1, rfl, hc5, ho5⟩
              have x2 := x1 (by omega)
              have H5 := Lib.hid (And.intro hc5 (Hq.out.2.trans ho5))
              clear hc5 ho5 x1
              by_cases hkx : (k : Int) ≤ x
              · go_wp2_with fail
                refine (below_any _ _ _ _ H5.out.1 (by omega)).mono ?_
                rintro e w6 ⟨y, y0, y1, rfl, hc6, ho6⟩
                have y2 := y1 (by omega)
                have H6 := Lib.hid (And.intro (hc6.alloc (.cells #[.int .u8 (33 + y)] 5)) ((H5.out.2.trans ho6).alloc (.cells #[.int .u8 (33 + y)] 5)))
                clear hc6 ho6 y1
                obtain ⟨cb, hcb, hconv⟩ := conv_byte w6 (33 + y)
                obtain ⟨hadd, hts⟩ := add_run t cb (10 * i + 3 + (k + 1)) (by omega) (by omega)
                obtain ⟨t2, ht2⟩ : ∃ t2, t2 = t ++ cb := ⟨_, rfl⟩
                rw [← ht2] at hadd hts
                clear ht2 hcb
                go_wp2_with fail
                go_roundw
                case rel => exact ⟨t2, k + 1, hts, by omega, rfl, by go_num, H6.out.1, H6.out.2⟩
                case measure => simp [intOf]; omega
              · have hkx' : ¬ (k : Int) ≤ x := by omega
                go_wp2_with fail
                go_roundw
                case rel => exact ⟨i + 1, t, by omega, by omega, rfl, by go_num, H5.out.1, H5.out.2⟩
                case measure => simp [intOf]; omega
      · have hin' : ¬ (i : Int) < n := by omega
        have hs250 : s.size ≤ 250 := by omega
        go_wp2_with fail
        refine (below_any _ _ _ _ Hr.out.1 (by omega)).mono ?_
        rintro e w5 ⟨x, x0, x1, rfl, hc5, ho5⟩
        have H5 := Lib.hid (And.intro hc5 (Hr.out.2.trans ho5))
        clear hc5 ho5 x1
        by_cases hx0 : x = 0
        · subst hx0
          go_wp2_with fail
          have hlt := H5.out.1.lt
          refine (pick_t (fun v => v.size ≤ 2) _ _ w5.heap.size 6 _ _ _ (H5.out.1.alloc _) (by omega) (by omega) (block_new _ _) (by omega) six_t).mono ?_
          rintro e w6 ⟨y, hq, rfl, hc6, ho6⟩
          have H6 := Lib.hid ((H5.out.2.alloc _).trans ho6)
          obtain ⟨hadd, hts⟩ := add_run s y 2000 (by omega) (by omega)
          obtain ⟨t2, ht2⟩ : ∃ t2, t2 = s ++ y := ⟨_, rfl⟩
          rw [← ht2] at hadd hts
          clear ht2 hc6 ho6 hq hlt
          go_wp2_with fail
          go_ret
          exact ⟨t2, hts, rfl, by rw [← HB.out]; exact Hb.out.trans (H6.out.below (Nat.le_refl _) HBs.out)⟩
        · have b0 : (x == 0) = false := beq_eq_false_iff_ne.2 hx0
          by_cases hx1 : x = 1
          · subst hx1
            have hs600 : (s.size : Int) < 600 := by omega
            go_wp2_with fail
            refine (below_any _ _ _ _ H5.out.1 (by omega)).mono ?_
            rintro e w6 ⟨y, y0, y1, rfl, hc6, ho6⟩
            have y2 := y1 (by omega)
            have H6 := Lib.hid (Hb.out.trans ((H5.out.2.trans ho6).below (Nat.le_refl _) HBs.out))
            obtain ⟨m, hm⟩ : ∃ m : Nat, (m : Int) = 600 - (s.size : Int) + y := ⟨(600 - (s.size : Int) + y).toNat, by omega⟩
            have hm2 : m ≤ 601 := by omega
            have c1 := fun w => long_any m 32 w (by omega)
            rw [hm] at c1
            clear hc6 ho6 y1 hm b0
            go_wp2_with fail
            refine (c1 _).mono ?_
            rintro e w7 ⟨sp, hsp, rfl, hb7⟩
            have H7 := Lib.hid (H6.out.trans (hb7.mono (by rw [HB.out]; exact H6.out.size)))
            obtain ⟨hadd, hts⟩ := add_run s sp 2000 (by omega) (by omega)
            obtain ⟨t2, ht2⟩ : ∃ t2, t2 = s ++ sp := ⟨_, rfl⟩
            rw [← ht2] at hadd hts
            clear ht2 hb7 hsp c1
            go_wp2_with fail
            go_ret
            exact ⟨t2, hts, rfl, by rw [← HB.out]; exact H7.out⟩
          · have b1 : (x == 1) = false := beq_eq_false_iff_ne.2 hx1
            clear hx0 hx1
            go_wp2_with fail
            go_ret
            exact ⟨s, by omega, rfl, by rw [← HB.out]; exact Hb.out.trans (H5.out.2.below (Nat.le_refl _) HBs.out)⟩
  | false =>
    have Hst := Lib.hid (And.intro Hc3.out Ho3.out)
    obtain ⟨n, hn⟩ : ∃ n, n = n0 := ⟨_, rfl⟩
    have hn25 : n ≤ 25 := by omega
    have hnn : 0 ≤ n := by omega
    rw [← hn]
    clear hn n00 n02
    go_wp2_with fail
    go_loopw [5, 6] (fun sv iv wr => ∃ (i : Nat) (s : ByteArray), s.size ≤ 10 * i ∧ i ≤ 25 ∧ sv = .string s ∧ iv = .int .i64 (i : Int) ∧ Cur B wr B ∧ Only B w1 wr) (fun _ iv _ => 25 - (intOf iv).toNat)
    case atStart => exact ⟨0, ⟨#[]⟩, Nat.zero_le _, Nat.zero_le _, rfl, rfl, Hst.out.1, Hst.out.2⟩
    case round =>
      obtain ⟨i, s, hs, hi, rfl, rfl, hcr, hor⟩ := hrel
      have Hr := Lib.hid (And.intro hcr hor)
      clear hcr hor
      by_cases hin : (i : Int) < n
      · have hi24 : i ≤ 24 := by omega
        by_cases hi0 : 0 < i
        · have hi0' : (0 : Int) < i := by omega
          go_wp2_with fail
          refine (below_any _ _ _ _ Hr.out.1 (by omega)).mono ?_
          rintro e wa ⟨p, p0, p1, rfl, hca, hoa⟩
          have p2 := p1 (by omega)
          have Hp := Lib.hid (And.intro hca (Hr.out.2.trans hoa))
          clear hca hoa p1
          go_wp2_with fail
          refine (below_any _ _ _ _ Hp.out.1 (by omega)).mono ?_
          rintro e wb ⟨q, q0, q1, rfl, hcb, hob⟩
          have q2 := q1 (by omega)
          have Hpq := Lib.hid (And.intro hcb (Hp.out.2.trans hob))
          clear hcb hob q1
          have hpq : 0 ≤ p * q ∧ p * q ≤ 2 := by
            obtain rfl | rfl : p = 0 ∨ p = 1 := by omega
            · rw [Int.zero_mul]; omega
            · rw [Int.one_mul]; omega
          obtain ⟨m, hm⟩ : ∃ m : Nat, (m : Int) = 1 + p * q := ⟨(1 + p * q).toNat, by omega⟩
          have hm2 : m ≤ 3 := by omega
          have c1 := fun w => long_any m 32 w (by omega)
          rw [hm] at c1
          clear hm
          go_wp2_with fail
          refine (c1 _).mono ?_
          rintro e wc ⟨sp, hsp, rfl, hbc⟩
          have Hz := Lib.hid (And.intro (Hpq.out.1.keep hbc) (Hpq.out.2.trans (Only.of_below hbc)))
          obtain ⟨hadd, ht0s⟩ := add_run s sp (10 * i + 3) (by omega) (by omega)
          obtain ⟨t0, ht0⟩ : ∃ t0, t0 = s ++ sp := ⟨_, rfl⟩
          rw [← ht0] at hadd ht0s
          clear ht0 hbc hsp c1 hpq
          go_wp2_with fail
          go_loopw [5, 7] (fun sv kv wq => ∃ (t : ByteArray) (k : Nat), t.size ≤ 10 * i + 3 + k ∧ k ≤ 5 ∧ sv = .string t ∧ kv = .int .i64 (k : Int) ∧ Cur B wq B ∧ Only B w1 wq) (fun _ kv _ => 5 - (intOf kv).toNat)
          case atStart => exact ⟨t0, 0, by omega, by omega, rfl, rfl, Hz.out.1, Hz.out.2⟩
          case round =>
            obtain ⟨t, k, ht, hk, rfl, rfl, hcq, hoq⟩ := hrel
            have Hq := Lib.hid (And.intro hcq hoq)
            clear hcq hoq
            go_wp2_with fail
            refine (below_any _ _ _ _ Hq.out.1 (by omega)).mono ?_
            rintro e w5 ⟨x, x0, x1, rfl, hc5, ho5⟩
            have x2 := x1 (by omega)
            have H5 := Lib.hid (And.intro hc5 (Hq.out.2.trans ho5))
            clear hc5 ho5 x1
            by_cases hkx : (k : Int) ≤ x
            · go_wp2_with fail
              refine (below_any _ _ _ _ H5.out.1 (by omega)).mono ?_
              rintro e w6 ⟨y, y0, y1, rfl, hc6, ho6⟩
              have y2 := y1 (by omega)
              have H6 := Lib.hid (And.intro (hc6.alloc (.cells #[.int .u8 (33 + y)] 5)) ((H5.out.2.trans ho6).alloc (.cells #[.int .u8 (33 + y)] 5)))
              clear hc6 ho6 y1
              obtain ⟨cb, hcb, hconv⟩ := conv_byte w6 (33 + y)
              obtain ⟨hadd, hts⟩ := add_run t cb (10 * i + 3 + (k + 1)) (by omega) (by omega)
              obtain ⟨t2, ht2⟩ : ∃ t2, t2 = t ++ cb := ⟨_, rfl⟩
              rw [← ht2] at hadd hts
              clear ht2 hcb
              go_wp2_with fail
              go_roundw
              case rel => exact ⟨t2, k + 1, hts, by omega, rfl, by go_num, H6.out.1, H6.out.2⟩
              case measure => simp [intOf]; omega
            · have hkx' : ¬ (k : Int) ≤ x := by omega
              go_wp2_with fail
              go_roundw
              case rel => exact ⟨i + 1, t, by omega, by omega, rfl, by go_num, H5.out.1, H5.out.2⟩
              case measure => simp [intOf]; omega
        · have hi0' : ¬ (0 : Int) < i := by omega
          go_wp2_with fail
          refine (once_any' _ _ _ _ Hr.out.1 (by omega)).mono ?_
          rintro e wo ⟨b, rfl, hco, hoo⟩
          have Hr' := Lib.hid (And.intro hco (Hr.out.2.trans hoo))
          clear hco hoo Hr
          have Hr := Hr'
          clear Hr'
          cases b with
          | true =>
            go_wp2_with fail
            refine (below_any _ _ _ _ Hr.out.1 (by omega)).mono ?_
            rintro e wa ⟨p, p0, p1, rfl, hca, hoa⟩
            have p2 := p1 (by omega)
            have Hp := Lib.hid (And.intro hca (Hr.out.2.trans hoa))
            clear hca hoa p1
            go_wp2_with fail
            refine (below_any _ _ _ _ Hp.out.1 (by omega)).mono ?_
            rintro e wb ⟨q, q0, q1, rfl, hcb, hob⟩
            have q2 := q1 (by omega)
            have Hpq := Lib.hid (And.intro hcb (Hp.out.2.trans hob))
            clear hcb hob q1
            have hpq : 0 ≤ p * q ∧ p * q ≤ 2 := by
              obtain rfl | rfl : p = 0 ∨ p = 1 := by omega
              · rw [Int.zero_mul]; omega
              · rw [Int.one_mul]; omega
            obtain ⟨m, hm⟩ : ∃ m : Nat, (m : Int) = 1 + p * q := ⟨(1 + p * q).toNat, by omega⟩
            have hm2 : m ≤ 3 := by omega
            have c1 := fun w => long_any m 32 w (by omega)
            rw [hm] at c1
            clear hm
            go_wp2_with fail
            refine (c1 _).mono ?_
            rintro e wc ⟨sp, hsp, rfl, hbc⟩
            have Hz := Lib.hid (And.intro (Hpq.out.1.keep hbc) (Hpq.out.2.trans (Only.of_below hbc)))
            obtain ⟨hadd, ht0s⟩ := add_run s sp (10 * i + 3) (by omega) (by omega)
            obtain ⟨t0, ht0⟩ : ∃ t0, t0 = s ++ sp := ⟨_, rfl⟩
            rw [← ht0] at hadd ht0s
            clear ht0 hbc hsp c1 hpq
            go_wp2_with fail
            go_loopw [5, 7] (fun sv kv wq => ∃ (t : ByteArray) (k : Nat), t.size ≤ 10 * i + 3 + k ∧ k ≤ 5 ∧ sv = .string t ∧ kv = .int .i64 (k : Int) ∧ Cur B wq B ∧ Only B w1 wq) (fun _ kv _ => 5 - (intOf kv).toNat)
            case atStart => exact ⟨t0, 0, by omega, by omega, rfl, rfl, Hz.out.1, Hz.out.2⟩
            case round =>
              obtain ⟨t, k, ht, hk, rfl, rfl, hcq, hoq⟩ := hrel
              have Hq := Lib.hid (And.intro hcq hoq)
              clear hcq hoq
              go_wp2_with fail
              refine (below_any _ _ _ _ Hq.out.1 (by omega)).mono ?_
              rintro e w5 ⟨x, x0, x1, rfl, hc5, ho5⟩
              have x2 := x1 (by omega)
              have H5 := Lib.hid (And.intro hc5 (Hq.out.2.trans ho5))
              clear hc5 ho5 x1
              by_cases hkx : (k : Int) ≤ x
              · go_wp2_with fail
                refine (below_any _ _ _ _ H5.out.1 (by omega)).mono ?_
                rintro e w6 ⟨y, y0, y1, rfl, hc6, ho6⟩
                have y2 := y1 (by omega)
                have H6 := Lib.hid (And.intro (hc6.alloc (.cells #[.int .u8 (33 + y)] 5)) ((H5.out.2.trans ho6).alloc (.cells #[.int .u8 (33 + y)] 5)))
                clear hc6 ho6 y1
                obtain ⟨cb, hcb, hconv⟩ := conv_byte w6 (33 + y)
                obtain ⟨hadd, hts⟩ := add_run t cb (10 * i + 3 + (k + 1)) (by omega) (by omega)
                obtain ⟨t2, ht2⟩ : ∃ t2, t2 = t ++ cb := ⟨_, rfl⟩
                rw [← ht2] at hadd hts
                clear ht2 hcb
                go_wp2_with fail
                go_roundw
                case rel => exact ⟨t2, k + 1, hts, by omega, rfl, by go_num, H6.out.1, H6.out.2⟩
                case measure => simp [intOf]; omega
              · have hkx' : ¬ (k : Int) ≤ x := by omega
                go_wp2_with fail
                go_roundw
                case rel => exact ⟨i + 1, t, by omega, by omega, rfl, by go_num, H5.out.1, H5.out.2⟩
                case measure => simp [intOf]; omega
          | false =>
            obtain ⟨t0, ht0⟩ : ∃ t0, t0 = s := ⟨_, rfl⟩
            have ht0s : t0.size ≤ 10 * i + 3 := by rw [ht0]; omega
            rw [← ht0]
            have Hz := Lib.hid Hr.out
            clear ht0 hs
            go_wp2_with fail
            go_loopw [5, 7] (fun sv kv wq => ∃ (t : ByteArray) (k : Nat), t.size ≤ 10 * i + 3 + k ∧ k ≤ 5 ∧ sv = .string t ∧ kv = .int .i64 (k : Int) ∧ Cur B wq B ∧ Only B w1 wq) (fun _ kv _ => 5 - (intOf kv).toNat)
            case atStart => exact ⟨t0, 0, by omega, by omega, rfl, rfl, Hz.out.1, Hz.out.2⟩
            case round =>
              obtain ⟨t, k, ht, hk, rfl, rfl, hcq, hoq⟩ := hrel
              have Hq := Lib.hid (And.intro hcq hoq)
              clear hcq hoq
              go_wp2_with fail
              refine (below_any _ _ _ _ Hq.out.1 (by omega)).mono ?_
              rintro e w5 ⟨x, x0, x1, rfl, hc5, ho5⟩
              have x2 := x1 (by omega)
              have H5 := Lib.hid (And.intro hc5 (Hq.out.2.trans ho5))
              clear hc5 ho5 x1
              by_cases hkx : (k : Int) ≤ x
              · go_wp2_with fail
                refine (below_any _ _ _ _ H5.out.1 (by omega)).mono ?_
                rintro e w6 ⟨y, y0, y1, rfl, hc6, ho6⟩
                have y2 := y1 (by omega)
                have H6 := Lib.hid (And.intro (hc6.alloc (.cells #[.int .u8 (33 + y)] 5)) ((H5.out.2.trans ho6).alloc (.cells #[.int .u8 (33 + y)] 5)))
                clear hc6 ho6 y1
                obtain ⟨cb, hcb, hconv⟩ := conv_byte w6 (33 + y)
                obtain ⟨hadd, hts⟩ := add_run t cb (10 * i + 3 + (k + 1)) (by omega) (by omega)
                obtain ⟨t2, ht2⟩ : ∃ t2, t2 = t ++ cb := ⟨_, rfl⟩
                rw [← ht2] at hadd hts
                clear ht2 hcb
                go_wp2_with fail
                go_roundw
                case rel => exact ⟨t2, k + 1, hts, by omega, rfl, by go_num, H6.out.1, H6.out.2⟩
                case measure => simp [intOf]; omega
              · have hkx' : ¬ (k : Int) ≤ x := by omega
                go_wp2_with fail
                go_roundw
                case rel => exact ⟨i + 1, t, by omega, by omega, rfl, by go_num, H5.out.1, H5.out.2⟩
                case measure => simp [intOf]; omega
      · have hin' : ¬ (i : Int) < n := by omega
        have hs250 : s.size ≤ 250 := by omega
        go_wp2_with fail
        refine (below_any _ _ _ _ Hr.out.1 (by omega)).mono ?_
        rintro e w5 ⟨x, x0, x1, rfl, hc5, ho5⟩
        have H5 := Lib.hid (And.intro hc5 (Hr.out.2.trans ho5))
        clear hc5 ho5 x1
        by_cases hx0 : x = 0
        · subst hx0
          go_wp2_with fail
          have hlt := H5.out.1.lt
          refine (pick_t (fun v => v.size ≤ 2) _ _ w5.heap.size 6 _ _ _ (H5.out.1.alloc _) (by omega) (by omega) (block_new _ _) (by omega) six_t).mono ?_
          rintro e w6 ⟨y, hq, rfl, hc6, ho6⟩
          have H6 := Lib.hid ((H5.out.2.alloc _).trans ho6)
          obtain ⟨hadd, hts⟩ := add_run s y 2000 (by omega) (by omega)
          obtain ⟨t2, ht2⟩ : ∃ t2, t2 = s ++ y := ⟨_, rfl⟩
          rw [← ht2] at hadd hts
          clear ht2 hc6 ho6 hq hlt
          go_wp2_with fail
          go_ret
          exact ⟨t2, hts, rfl, by rw [← HB.out]; exact Hb.out.trans (H6.out.below (Nat.le_refl _) HBs.out)⟩
        · have b0 : (x == 0) = false := beq_eq_false_iff_ne.2 hx0
          by_cases hx1 : x = 1
          · subst hx1
            have hs600 : (s.size : Int) < 600 := by omega
            go_wp2_with fail
            refine (below_any _ _ _ _ H5.out.1 (by omega)).mono ?_
            rintro e w6 ⟨y, y0, y1, rfl, hc6, ho6⟩
            have y2 := y1 (by omega)
            have H6 := Lib.hid (Hb.out.trans ((H5.out.2.trans ho6).below (Nat.le_refl _) HBs.out))
            obtain ⟨m, hm⟩ : ∃ m : Nat, (m : Int) = 600 - (s.size : Int) + y := ⟨(600 - (s.size : Int) + y).toNat, by omega⟩
            have hm2 : m ≤ 601 := by omega
            have c1 := fun w => long_any m 32 w (by omega)
            rw [hm] at c1
            clear hc6 ho6 y1 hm b0
            go_wp2_with fail
            refine (c1 _).mono ?_
            rintro e w7 ⟨sp, hsp, rfl, hb7⟩
            have H7 := Lib.hid (H6.out.trans (hb7.mono (by rw [HB.out]; exact H6.out.size)))
            obtain ⟨hadd, hts⟩ := add_run s sp 2000 (by omega) (by omega)
            obtain ⟨t2, ht2⟩ : ∃ t2, t2 = s ++ sp := ⟨_, rfl⟩
            rw [← ht2] at hadd hts
            clear ht2 hb7 hsp c1
            go_wp2_with fail
            go_ret
            exact ⟨t2, hts, rfl, by rw [← HB.out]; exact H7.out⟩
          · have b1 : (x == 1) = false := beq_eq_false_iff_ne.2 hx1
            clear hx0 hx1
            go_wp2_with fail
            go_ret
            exact ⟨s, by omega, rfl, by rw [← HB.out]; exact Hb.out.trans (H5.out.2.below (Nat.le_refl _) HBs.out)⟩
end Go.Proofs.YtgfeahammmfdaaaDoor.Drw
