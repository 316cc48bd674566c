/- The program's SlotsOf of valid expressions; the laws' hasInt. -/
import Derived.Test.YtjkjgichneoflaaExpDp
import Derived.Test.YtjkjgichneoflaaExpS
import Derived.KernelRfl
namespace Go.Proofs.Ytjkjgichneoflaa.Ex
open Go.ChangeShapes Go.WideShapes Go.ChangeAt Go.RowKit Go.Proofs.Ytjkjgichneoflaa Go.Proofs.Ytjkjgichneoflaa.Flt Go.Proofs.Ytjkjgichneoflaa.Mth Go.Proofs.Ytjkjgichneoflaa.Cpx
set_option linter.unusedVariables false
/-! lists of ints -/
def cI (xs : List Int) : List Value := xs.map fun p => Value.int .i64 p
def OwnI (base : Nat) (w : World) (v : Value) (n : Nat) (xs : List Int) : Prop := w.ownsRow base 3 1 v n (cI xs)
theorem infoI : (Try.prog.info? 3).map (fun i => (i.zero, i.size, i.bytes)) = some (some (.int .i64 0), 1, 8) := by kernel_rfl
theorem info_partsI : ∃ i, Try.prog.info? 3 = some i ∧ i.zero = some (.int .i64 0) ∧ i.size = 1 ∧ i.bytes = 8 := by
  have h := infoI
  cases hi : Try.prog.info? 3 with
  | none => rw [hi] at h; cases h
  | some i =>
    rw [hi] at h
    simp only [Option.map_some, Option.some.injEq, Prod.mk.injEq] at h
    exact ⟨i, rfl, h.1, h.2.1, h.2.2⟩
theorem nilI (base : Nat) (w : World) : OwnI base w (.slice none 0 0) 0 [] := ⟨rfl, .inl ⟨rfl, rfl⟩⟩
theorem one_cellI (wr : World) (x : Int) : ∀ j u, [Value.int .i64 x][j]? = some u → (wr.alloc (.cells #[.int .i64 x] 3)).cell? ((⟨wr.heap.size, 0, none⟩ : Addr).add j) = some u := by
  intro j u hj
  have e : (⟨wr.heap.size, 0, none⟩ : Addr).add j = ⟨wr.heap.size, j, none⟩ := by unfold Addr.add; split <;> simp_all
  rw [e, cell_of_row _ wr.heap.size j #[.int .i64 x] 3 (0, 0) (block_new wr _)]
  simpa using hj
theorem one_oneI (x : Int) : ∀ u ∈ [Value.int .i64 x], u.oneCell' = true := by
  intro u hu
  simp at hu
  subst hu
  rfl
theorem cI_snoc (xs : List Int) (x : Int) : cI xs ++ [.int .i64 x] = cI (xs ++ [x]) := by unfold cI; simp
/-- the cells of a list of ints -/
def CellsI (w : World) (g : Nat) (xs : List Int) : Prop := ∀ (i : Nat) (p : Int), xs[i]? = some p → w.cell? ⟨g, i, none⟩ = some (.int .i64 p)
theorem CellsI.keep {w w' : World} {g B : Nat} {xs : List Int} (h : CellsI w g xs) (hg : g < B) (hb : Below B w w') : CellsI w' g xs := fun i s hs => (hb.cell (by exact hg)).trans (h i s hs)
theorem OwnI.form {base : Nat} {w : World} {v : Value} {n : Nat} {xs : List Int} (h : OwnI base w v n xs) : xs.length = n ∧ ((v = .slice none 0 0 ∧ n = 0 ∧ xs = []) ∨ ∃ g cap, v = .slice (some ⟨g, 0, none⟩) n cap ∧ base ≤ g ∧ g < w.heap.size ∧ CellsI w g xs) := by
  have hl : xs.length = n := by
    have := h.1
    unfold cI at this
    rw [List.length_map, Nat.mul_one] at this
    exact this
  refine ⟨hl, ?_⟩
  by_cases hn : n = 0
  · subst hn
    obtain rfl : xs = [] := List.eq_nil_of_length_eq_zero hl
    rcases h.2 with ⟨h1, _⟩ | ⟨g, cap, cur, h1, h2, h3, _⟩
    · exact .inl ⟨h1, rfl, rfl⟩
    · exact .inr ⟨g, cap, h1, h2, lt_of_block h3, fun i p hp => by simp at hp⟩
  · obtain ⟨g, cap, rfl, h2, h3⟩ := World.ownsRow.form h (by omega)
    refine .inr ⟨g, cap, rfl, h2, h3, fun i p hp => ?_⟩
    have hi : i < n := by
      rcases Nat.lt_or_ge i xs.length with h1 | h1
      · omega
      · rw [List.getElem?_eq_none h1] at hp; cases hp
    rw [World.ownsRow.cellAt h i (by omega)]
    unfold cI
    rw [List.getElem?_map, hp]; rfl
set_option maxHeartbeats 1600000 in
theorem hasInt_any (v : Value) (n : Nat) (xs : List Int) (x : Int) (w : World) (hn : n ≤ 10) (hl : xs.length = n) (h : (v = .slice none 0 0 ∧ n = 0 ∧ xs = []) ∨ ∃ g cap, v = .slice (some ⟨g, 0, none⟩) n cap ∧ g < w.heap.size ∧ CellsI w g xs) :
    Calls Try.prog 15 #[v, .int .i64 x] w fun e w' => e = .returned (.bool (decide (x ∈ xs))) ∧ w' = w := by
  rcases h with ⟨rfl, rfl, rfl⟩ | ⟨g, cap, rfl, hg, hc⟩
  · go_enter Try.func15, Try.ntmps15
    go_wp2_with fail
    go_loopw [5] (fun vi wr => vi = .int .i64 0 ∧ wr = w) (fun _ _ => 0)
    case atStart => exact ⟨rfl, rfl⟩
    case round =>
      obtain ⟨rfl, rfl⟩ := hrel
      go_wp2_with fail
      go_ret
      exact ⟨rfl, rfl⟩
  · have Hc := Lib.hid (And.intro hc hl)
    clear hc hl
    go_enter Try.func15, Try.ntmps15
    go_wp2_with fail
    go_loopw [5] (fun vi wr => ∃ i : Nat, vi = .int .i64 (i : Int) ∧ i ≤ n ∧ wr = w ∧ Hid (∀ j : Nat, j < i → xs[j]? ≠ some x)) (fun vi _ => n - (intOf vi).toNat)
    case atStart => exact ⟨0, rfl, by omega, rfl, Lib.hid fun j hj => by omega⟩
    case round =>
      obtain ⟨i, rfl, hi, rfl, hall⟩ := hrel
      by_cases hil : i < n
      · have hil' : (i : Int) < (n : Int) := by omega
        obtain ⟨p, hp⟩ : ∃ p, xs[i]? = some p := ⟨_, List.getElem?_eq_getElem (by rw [Hc.out.2]; exact hil)⟩
        have hcell := Hc.out.1 i p hp
        have Hp := Lib.hid hp
        clear hp
        by_cases hx : p = x
        · subst hx
          have Hm := Lib.hid (show true = decide (p ∈ xs) from (decide_eq_true (List.mem_of_getElem? Hp.out)).symm)
          go_wp2_with fail
          go_ret
          exact ⟨ret_bool Hm.out, rfl⟩
        · have bx : (p == x) = false := beq_eq_false_iff_ne.2 hx
          have Hx := Lib.hid hx
          clear hx
          go_wp2_with fail
          go_roundw
          case rel => exact ⟨i + 1, by go_num, by omega, by first | rfl | trivial, Lib.hid fun j hj e => by
            by_cases h1 : j = i
            · rw [h1, Hp.out] at e; exact Hx.out (Option.some.inj e)
            · exact hall.out j (by omega) e⟩
          case measure => simp [intOf]; omega
      · obtain rfl : i = n := by omega
        have hil' : ¬ (i : Int) < (i : Int) := by omega
        have Hm := Lib.hid (show false = decide (x ∈ xs) from (decide_eq_false (fun hm => by
          obtain ⟨j, hj⟩ := List.getElem?_of_mem hm
          have hjl : j < xs.length := by
            rcases Nat.lt_or_ge j xs.length with h1 | h1
            · exact h1
            · rw [List.getElem?_eq_none h1] at hj; cases hj
          exact hall.out j (by rw [← Hc.out.2]; exact hjl) hj)).symm)
        go_wp2_with fail
        go_ret
        exact ⟨ret_bool Hm.out, rfl⟩
/-! the array of the slots that are named -/
def arr (f : Nat → Bool) : Array Value := #[.bool (f 0), .bool (f 1), .bool (f 2), .bool (f 3), .bool (f 4), .bool (f 5), .bool (f 6), .bool (f 7), .bool (f 8), .bool (f 9)]
theorem cases10 {q : Nat} (hq : q < 10) : q = 0 ∨ q = 1 ∨ q = 2 ∨ q = 3 ∨ q = 4 ∨ q = 5 ∨ q = 6 ∨ q = 7 ∨ q = 8 ∨ q = 9 := by omega
theorem arr_set (f : Nat → Bool) {q : Nat} (hq : q < 10) : (arr f).setIfInBounds q (.bool true) = arr fun j => if j = q then true else f j := by
  rcases cases10 hq with rfl | rfl | rfl | rfl | rfl | rfl | rfl | rfl | rfl | rfl <;> rfl
theorem arr_at (f : Nat → Bool) {q : Nat} (hq : q < 10) : (arr f)[q]? = some (.bool (f q)) := by
  rcases cases10 hq with rfl | rfl | rfl | rfl | rfl | rfl | rfl | rfl | rfl | rfl <;> rfl
theorem idx_any (f : Nat → Bool) {q : Nat} (hq : q < 10) (W : World) : (Instr.index 68 (.agg #[.bool (f 0), .bool (f 1), .bool (f 2), .bool (f 3), .bool (f 4), .bool (f 5), .bool (f 6), .bool (f 7), .bool (f 8), .bool (f 9)]) (.int .i64 (q : Int))).run Try.prog W = .ok (.bool (f q)) W := by
  rcases cases10 hq with rfl | rfl | rfl | rfl | rfl | rfl | rfl | rfl | rfl | rfl
  all_goals kernel_rfl
/-- the slots that were met -/
def Met (f : Nat → Bool) (xs : List Nd) : Prop := ∀ n ∈ xs, n.k = 2 → f n.s.toNat = true
/-- what SlotsOf answers -/
def SlOut (xs : List Nd) (w : World) (e : Ending) (w' : World) : Prop :=
  ∃ (v : Value) (n : Nat) (zs : List Int), n ≤ 10 ∧ (∀ x ∈ xs, x.k = 2 → x.s ∈ zs) ∧ e = .returned v ∧ OwnI w.heap.size w' v n zs ∧ Below w.heap.size w w'
theorem take_succ {xs : List Nd} {i : Nat} {n : Nd} (h : xs[i]? = some n) : xs.take (i + 1) = xs.take i ++ [n] := by
  rw [List.take_add_one, h]; rfl
set_option maxRecDepth 20000 in
set_option maxHeartbeats 3200000 in
theorem slotsOf_any (g off cap : Nat) (xs : List Nd) (w : World) (hv : Valid xs) (h : CellsN w g off xs) (hg : g < w.heap.size) :
    Calls Try.prog 14 #[.slice (some ⟨g, off, none⟩) xs.length cap] w (SlOut xs w) := by
  have cE := exprOk_any g off cap xs w hv h hg
  have H := Lib.hid (And.intro hv h)
  have hlen := hv.len
  clear hv h
  obtain ⟨n, hn⟩ : ∃ n, xs.length = n := ⟨_, rfl⟩
  rw [hn] at hlen cE ⊢
  obtain ⟨i0, hi, hz0, hz1, hz2⟩ := info_partsI
  have Hi := Lib.hid (And.intro hi (And.intro hz0 (And.intro hz1 hz2)))
  clear hi hz0 hz1 hz2
  go_enter Try.func14, Try.ntmps14
  go_wp2_with fail
  refine cE.mono ?_
  rintro e w1 ⟨rfl, hb1⟩
  have hs1 := hb1.size
  obtain ⟨A, hA⟩ : ∃ A, w1.heap.size = A := ⟨_, rfl⟩
  obtain ⟨w2, hw2⟩ : ∃ w2, w1.alloc (.cells (arr fun _ => false) 68) = w2 := ⟨_, rfl⟩
  have hA2 : w2.heap.size = A + 1 := by rw [← hw2, World.size_alloc, hA]
  have H2 := Lib.hid (show w2.heap[A]? = some (.cells (arr fun _ => false) 68 (0, 0)) ∧ Below w.heap.size w w2 from ⟨by rw [← hw2, ← hA]; exact block_new w1 _, by rw [← hw2]; exact hb1.alloc hs1 _⟩)
  have hwA : w.heap.size ≤ A := by omega
  clear hb1 cE
  go_wp2_with fail
  rw [show w1.alloc (.cells #[.bool false, .bool false, .bool false, .bool false, .bool false, .bool false, .bool false, .bool false, .bool false, .bool false] 68) = w2 from hw2]
  try rw [hA]
  clear hw2 hA hs1
  go_loopw [16] (fun vi wr => ∃ (i : Nat) (f : Nat → Bool), vi = .int .i64 (i : Int) ∧ i ≤ n ∧ wr.heap[A]? = some (.cells (arr f) 68 (0, 0)) ∧ Only A w2 wr ∧ Hid (Met f (xs.take i)))
    (fun vi _ => n - (intOf vi).toNat)
  case atStart => exact ⟨0, _, rfl, by omega, H2.out.1, Only.refl _ _, Lib.hid fun m hm => by simp at hm⟩
  case round =>
    obtain ⟨i, f, rfl, hi, hA, ho, Hm⟩ := hrel
    have hAl := lt_of_block hA
    have hb := H2.out.2.trans (ho.below hwA H2.out.2.size)
    have hsz := hb.size
    by_cases hil : i < n
    · have hil' : (i : Int) < (n : Int) := by omega
      obtain ⟨nd, hs⟩ : ∃ nd, xs[i]? = some nd := ⟨_, List.getElem?_eq_getElem (by rw [hn]; exact hil)⟩
      have hok := H.out.1.ok nd (List.mem_of_getElem? hs)
      obtain ⟨a0, a1, a2⟩ := (H.out.2.keep hg hb) i nd hs
      have Hs := Lib.hid (take_succ hs)
      have HA := Lib.hid (And.intro hA ho)
      clear hs hA ho hb
      have t1 := ta_ns
      have t2 := ta_ss
      have t3 := ta_os
      obtain ⟨k0, s0, x0, y0⟩ := nd
      rcases hok with hc | hc | hc
      · obtain rfl : k0 = 1 := hc.1
        have cP := fun W => part_num s0 x0 y0 W
        unfold numVal at cP
        clear hc
        go_wp2_with fail
        refine (cP _).mono ?_
        rintro e w3 ⟨rfl, rfl⟩
        go_wp2_with fail
        go_roundw
        case rel =>
          have hbb : Below wr.heap.size wr (((wr.alloc (.cells #[.int .i64 1, .int .i64 s0, .complex .f64 x0 y0] 33)).alloc (.cells #[.int .i64 1, .int .i64 s0, .complex .f64 x0 y0] 33)).alloc (.cells #[.int .i64 0] 70)) := by go_grown
          refine ⟨i + 1, f, by go_num, by omega, (hbb.block A hAl).trans HA.out.1, HA.out.2.trans (Only.of_below hbb), Lib.hid ?_⟩
          rw [Hs.out]
          intro m hm hk
          rcases List.mem_append.1 hm with h1 | h1
          · exact Hm.out m h1 hk
          · obtain rfl : m = ⟨1, s0, x0, y0⟩ := by simpa using h1
            exact absurd (show (1 : Int) = 2 from hk) (by decide)
        case measure => simp [intOf]; omega
      · obtain rfl : k0 = 2 := hc.1
        obtain ⟨q, rfl⟩ := Int.eq_ofNat_of_zero_le hc.2.1.1
        have hq : q < 10 := by have : (q : Int) ≤ 9 := hc.2.1.2; omega
        have hq' : (q : Int) < 10 := by omega
        have hcell : wr.cell? ⟨A, q, none⟩ = some (.bool (f q)) := by
          rw [cell_of_row wr A q (arr f) 68 (0, 0) HA.out.1]; exact arr_at f hq
        have hfz : wr.frozen? ⟨A, q, none⟩ = false := by simp [World.frozen?, HA.out.1]
        have cP := fun W => part_slot (q : Int) x0 y0 W
        unfold slotVal at cP
        have hbb : Below wr.heap.size wr (((wr.alloc (.cells #[.int .i64 2, .int .i64 (q : Int), .complex .f64 x0 y0] 33)).alloc (.cells #[.int .i64 2, .int .i64 (q : Int), .complex .f64 x0 y0] 33)).alloc (.cells #[.int .i64 (q : Int)] 70)) := by go_grown
        have Hbb := Lib.hid hbb
        have hcell' : (((wr.alloc (.cells #[.int .i64 2, .int .i64 (q : Int), .complex .f64 x0 y0] 33)).alloc (.cells #[.int .i64 2, .int .i64 (q : Int), .complex .f64 x0 y0] 33)).alloc (.cells #[.int .i64 (q : Int)] 70)).cell? ⟨A, q, none⟩ = some (.bool (f q)) := (hbb.cell (by exact hAl)).trans hcell
        have hfz' : (((wr.alloc (.cells #[.int .i64 2, .int .i64 (q : Int), .complex .f64 x0 y0] 33)).alloc (.cells #[.int .i64 2, .int .i64 (q : Int), .complex .f64 x0 y0] 33)).alloc (.cells #[.int .i64 (q : Int)] 70)).frozen? ⟨A, q, none⟩ = false := by simp [World.frozen?, (hbb.block A hAl).trans HA.out.1]
        have hne1 : ¬ A = wr.heap.size := by omega
        have hne2 : ¬ A = wr.heap.size + 1 := by omega
        have hne3 : ¬ A = wr.heap.size + 1 + 1 := by omega
        clear hc hbb
        go_wp2_with fail
        refine (cP _).mono ?_
        rintro e w3 ⟨rfl, rfl⟩
        go_wp2_with fail
        go_roundw
        case rel =>
          have hA3 := (Hbb.out.block A hAl).trans HA.out.1
          refine ⟨i + 1, fun j => if j = q then true else f j, by go_num, by omega, by rw [← arr_set f hq]; exact block_setCell hA3 _, (HA.out.2.trans (Only.of_below Hbb.out)).setCell _ _, Lib.hid ?_⟩
          rw [Hs.out]
          intro m hm hk
          rcases List.mem_append.1 hm with h1 | h1
          · show (if m.s.toNat = q then true else f m.s.toNat) = true
            split
            · rfl
            · exact Hm.out m h1 hk
          · obtain rfl : m = ⟨2, (q : Int), x0, y0⟩ := by simpa using h1
            exact if_pos rfl
        case measure => simp [intOf]; omega
      · have cP := fun W => part_op k0 s0 x0 y0 W hc.1
        have hk0 := hc.1
        unfold opV at cP
        generalize txt k0 = tx at *
        generalize stg k0 = sg at *
        clear hc
        go_wp2_with fail
        refine (cP _).mono ?_
        rintro e w3 ⟨rfl, rfl⟩
        go_wp2_with fail
        go_roundw
        case rel =>
          have hbb : Below wr.heap.size wr (((wr.alloc (.cells #[.int .i64 k0, .int .i64 s0, .complex .f64 x0 y0] 33)).alloc (.cells #[.int .i64 k0, .int .i64 s0, .complex .f64 x0 y0] 33)).alloc (.cells #[.int .i64 0] 70)) := by go_grown
          refine ⟨i + 1, f, by go_num, by omega, (hbb.block A hAl).trans HA.out.1, HA.out.2.trans (Only.of_below hbb), Lib.hid ?_⟩
          rw [Hs.out]
          intro m hm hk
          rcases List.mem_append.1 hm with h1 | h1
          · exact Hm.out m h1 hk
          · obtain rfl : m = ⟨k0, s0, x0, y0⟩ := by simpa using h1
            have : k0 = 2 := hk
            omega
        case measure => simp [intOf]; omega
    · obtain rfl : i = n := by omega
      have hil' : ¬ (i : Int) < (i : Int) := by omega
      obtain ⟨wq, hwq⟩ : ∃ wq, wq = wr := ⟨_, rfl⟩
      subst hwq
      have hmet : Met f xs := by
        have := Hm.out
        rw [List.take_of_length_le (by omega)] at this
        exact this
      have c : ∀ q, q < 10 → wq.cell? ⟨A, q, none⟩ = some (.bool (f q)) := fun q hq => by
        rw [cell_of_row wq A q (arr f) 68 (0, 0) hA]; exact arr_at f hq
      have c0 := c 0 (by omega)
      have c1 := c 1 (by omega)
      have c2 := c 2 (by omega)
      have c3 := c 3 (by omega)
      have c4 := c 4 (by omega)
      have c5 := c 5 (by omega)
      have c6 := c 6 (by omega)
      have c7 := c 7 (by omega)
      have c8 := c 8 (by omega)
      have c9 := c 9 (by omega)
      have Hmet := Lib.hid hmet
      have Hb := Lib.hid hb
      clear hmet c hA ho hb Hm
      go_wp2_with fail
      go_loopw [8, 32] (fun vo vi w3 => ∃ (j r : Nat) (zs : List Int), vi = .int .i64 (j : Int) ∧ j ≤ 10 ∧ r ≤ j ∧ OwnI wq.heap.size w3 vo r zs ∧ Below wq.heap.size wq w3 ∧ Hid (∀ p : Nat, p < j → f p = true → (p : Int) ∈ zs))
        (fun _ vi _ => 10 - (intOf vi).toNat)
      case atStart => exact ⟨0, 0, [], rfl, by omega, by omega, nilI _ _, Below.refl _ _, Lib.hid fun p hp => by omega⟩
      case round =>
        obtain ⟨j, r, zs, rfl, hj, hr, hown, hb3, Hz⟩ := hrel
        have H3 := Lib.hid (And.intro hown hb3)
        have hs3 := hb3.size
        by_cases hjl : j < 10
        · have hjl' : (j : Int) < 10 := by omega
          have ix := idx_any f hjl
          clear hown hb3
          cases hf : f j
          · rw [hf] at ix
            have Hf := Lib.hid hf
            clear hf
            go_wp2_with fail
            go_roundw
            case rel => exact ⟨j + 1, r, zs, by go_num, by omega, by omega, H3.out.1, H3.out.2, Lib.hid fun p hp h1 => by
              by_cases h2 : p = j
              · rw [h2, Hf.out] at h1; cases h1
              · exact Hz.out p (by omega) h1⟩
            case measure => simp [intOf]; omega
          · rw [hf] at ix
            have Hf := Lib.hid hf
            clear hf
            have hn63 : r + 1 ≤ maxLen := by unfold maxLen; omega
            have hnby : (r + 1) * 8 ≤ 140737488355328 := by omega
            have hbs : wq.heap.size ≤ (wr.alloc (.cells #[.int .i64 (j : Int)] 3)).heap.size := by rw [World.size_alloc]; omega
            have Hown := Lib.hid (show (wr.alloc (.cells #[.int .i64 (j : Int)] 3)).ownsRow wq.heap.size 3 1 _ _ _ from World.ownsRow.alloc H3.out.1 (.cells #[.int .i64 (j : Int)] 3))
            have Hnews := Lib.hid (one_cellI wr (j : Int))
            have Hone := Lib.hid (one_oneI (j : Int))
            go_wp2_with (at_builtin; go_loud (refine wpList_append_lies _ rfl (.tmp 37) (.tmp 39) 38 rfl wq.heap.size 3 i0 (.int .i64 0) 1 8 Try.underlying38 Hi.out.1 Hi.out.2.1 Hi.out.2.2.1 Hi.out.2.2.2 rfl (by decide) u8 r (cI zs) rfl Hown.out ⟨wr.heap.size, 0, none⟩ 1 1 [.int .i64 (j : Int)] rfl rfl Hnews.out Hone.out (by omega) hn63 hnby hbs _ rfl ?_; intro g5 cap1 w5 hown1 hgrow1 hat1 hlt1))
            have H5 := Lib.hid (show OwnI wq.heap.size w5 (.slice (some ⟨g5, 0, none⟩) (r + 1) cap1) (r + 1) (zs ++ [(j : Int)]) ∧ Below wq.heap.size wq w5 from ⟨by
              unfold OwnI
              rw [← cI_snoc]
              exact hown1, (H3.out.2.alloc hs3 _).grown hgrow1 hbs (fun k hk => (Hown.out.lt k hk).1)⟩)
            clear hown1 hgrow1 hat1 hlt1
            go_wp2_with fail
            go_roundw
            case rel => exact ⟨j + 1, r + 1, zs ++ [(j : Int)], by go_num, by omega, by omega, H5.out.1, H5.out.2, Lib.hid fun p hp h1 => by
              by_cases h2 : p = j
              · rw [h2]; simp
              · exact List.mem_append_left _ (Hz.out p (by omega) h1)⟩
            case measure => simp [intOf]; omega
        · obtain rfl : j = 10 := by omega
          clear hown hb3
          go_wp2_with fail
          go_ret
          refine ⟨_, r, zs, by omega, fun x hx hk => ?_, rfl, own_mono H3.out.1 hsz, Hb.out.trans (H3.out.2.mono hsz)⟩
          have hok := H.out.1.ok x hx
          have hs : 0 ≤ x.s ∧ x.s ≤ 9 := by
            rcases hok with h1 | h1 | h1
            · have := h1.1; omega
            · exact h1.2.1
            · have := h1.1; omega
          have := Hz.out x.s.toNat (by omega) (Hmet.out x hx hk)
          rwa [Int.toNat_of_nonneg hs.1] at this
end Go.Proofs.Ytjkjgichneoflaa.Ex
