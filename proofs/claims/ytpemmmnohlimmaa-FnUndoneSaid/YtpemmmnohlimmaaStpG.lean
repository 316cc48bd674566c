/- The draws of lists of steps. -/
import Derived.Test.YtpemmmnohlimmaaStpF
import Derived.Test.YtpemmmnohlimmaaStpL
import Derived.Laws.OwnMore
import Derived.OwnWalk
import Derived.Deep.AppendLies
namespace Go.Proofs.Ytpemmmnohlimmaa.Drw
open Go.ChangeShapes Go.WideShapes Go.ChangeAt Go.RowKit Go.Proofs.Ytpemmmnohlimmaa Go.Proofs.Ytpemmmnohlimmaa.Flt Go.Proofs.Ytpemmmnohlimmaa.Mth Go.Proofs.Ytpemmmnohlimmaa.Cpx Go.Proofs.Ytpemmmnohlimmaa.Trn Go.Proofs.Ytpemmmnohlimmaa.Stp
set_option linter.unusedVariables false
def Stp.l (s : Stp) : List Value := [.int .i64 s.k, .complex .f64 s.x s.y, .int .i64 s.q, .int .i64 s.p]
def cS (xs : List Stp) : List Value := xs.flatMap Stp.l
theorem cS_len : ∀ xs : List Stp, (cS xs).length = xs.length * 4
  | [] => rfl
  | s :: r => by
    have := cS_len r
    unfold cS at this ⊢
    simp only [List.flatMap_cons, List.length_append, List.length_cons, this]
    show 4 + r.length * 4 = _
    omega
theorem cS_snoc (xs : List Stp) (s : Stp) : cS xs ++ Stp.l s = cS (xs ++ [s]) := by unfold cS; simp
theorem cS_at : ∀ (xs : List Stp) (i j : Nat) (s : Stp), xs[i]? = some s → j < 4 → (cS xs)[i * 4 + j]? = (Stp.l s)[j]?
  | [], i, j, s, h, _ => by simp at h
  | t :: r, 0, j, s, h, hj => by
    obtain rfl : t = s := by simpa using h
    show (Stp.l t ++ cS r)[0 * 4 + j]? = _
    rw [Nat.zero_mul, Nat.zero_add, List.getElem?_append_left (show j < (Stp.l t).length from hj)]
  | t :: r, i + 1, j, s, h, hj => by
    have ih := cS_at r i j s (by simpa using h) hj
    show (Stp.l t ++ cS r)[(i + 1) * 4 + j]? = _
    rw [List.getElem?_append_right (show (Stp.l t).length ≤ _ by show 4 ≤ _; omega), show (Stp.l t).length = 4 from rfl, show (i + 1) * 4 + j - 4 = i * 4 + j by omega, ih]
/-- a list of steps of the call's own -/
def OwnS (base : Nat) (w : World) (v : Value) (n : Nat) (xs : List Stp) : Prop := w.ownsRow base 45 4 v n (cS xs)
theorem OwnS.cells {base : Nat} {w : World} {g n cap : Nat} {xs : List Stp} (h : OwnS base w (.slice (some ⟨g, 0, none⟩) n cap) n xs) (hn : xs.length = n) : CellsS w g 0 xs ∧ g < w.heap.size ∧ base ≤ g := by
  have h' := h
  unfold OwnS at h'
  refine ⟨fun i s hs => ?_, ?_⟩
  · have hi : i < n := by
      rcases Nat.lt_or_ge i xs.length with h1 | h1
      · omega
      · rw [List.getElem?_eq_none h1] at hs; cases hs
    have e : ∀ j, j < 4 → w.cell? ⟨g, 0 + i * 4 + j, none⟩ = (Stp.l s)[j]? := fun j hj => by
      rw [← cS_at xs i j s hs hj, Nat.zero_add]
      exact World.ownsRow.cellAt h' (i * 4 + j) (by omega)
    exact ⟨e 0 (by omega), e 1 (by omega), e 2 (by omega), e 3 (by omega)⟩
  · obtain ⟨h1, h2⟩ := World.ownsRow.lt h' g rfl
    exact ⟨h2, h1⟩
theorem infoS : (Try.prog.info? 45).map (fun i => (i.zero, i.size, i.bytes)) = some (some (.agg #[.int .i64 0, .complex .f64 0 0, .int .i64 0, .int .i64 0]), 4, 40) := by kernel_rfl
theorem info_partsS : ∃ i, Try.prog.info? 45 = some i ∧ i.zero = some (.agg #[.int .i64 0, .complex .f64 0 0, .int .i64 0, .int .i64 0]) ∧ i.size = 4 ∧ i.bytes = 40 := by
  have h := infoS
  cases hi : Try.prog.info? 45 with
  | none => rw [hi] at h; cases h
  | some i =>
    rw [hi] at h
    simp only [Option.map_some, Option.some.injEq, Prod.mk.injEq] at h
    exact ⟨i, rfl, h.1, h.2.1, h.2.2⟩
theorem litS (w : World) : OwnS w.heap.size (w.alloc (.cells #[] 45)) (.slice (some ⟨w.heap.size, 0, none⟩) 0 0) 0 [] :=
  World.ownsRow_lit (base := w.heap.size) (e := 45) (size := 4) w #[] 0 (Nat.le_refl _) (Nat.zero_le _) rfl
theorem only_grown {B : Nat} {a w w' : World} {row : Option Nat} (h : Only B a w) (hg : w.grownBy w' row) (hr : ∀ k, row = some k → a.heap.size ≤ k) : Only B a w' :=
  ⟨hg.os.trans h.os, hg.tape.trans h.tape, hg.output.trans h.output, Nat.le_trans h.size hg.size, fun k hk hn => (hg.block k (Nat.lt_of_lt_of_le hk h.size) (fun e => by have := hr k e.symm; omega)).trans (h.block k hk hn)⟩
theorem owns_only {B : Nat} {w w' : World} {base e size n : Nat} {v : Value} {xs : List Value} (h : w.ownsRow base e size v n xs) (ho : Only B w w') (hB : B < base) : w'.ownsRow base e size v n xs := by
  refine ⟨h.1, ?_⟩
  rcases h.2 with hn | ⟨g, cap, cur, rfl, hb, hg, rest⟩
  · exact .inl hn
  · exact .inr ⟨g, cap, cur, rfl, hb, (ho.block g (lt_of_block hg) (by omega)).trans hg, rest⟩
theorem cur_grown {base B : Nat} {w w' : World} {row : Option Nat} (hc : Cur base w B) (hg : w.grownBy w' row) (hr : ∀ k, row = some k → B < k) : Cur base w' B := by
  have hB := hc.1
  have hlt := hc.lt
  obtain ⟨_, a, len, cap, zs, i, h, hb, h0, h1, hr', ha⟩ := hc
  exact Cur.mk' hB hr' ha ((Below.refl base w).grown hg (by omega) (fun k hk => by have := hr k hk; omega)) h0 h1 ((hg.block B hlt (fun e => by have := hr B e.symm; omega)).trans hb)
theorem one_cellS (wr : World) (s : Stp) : ∀ j u, (Stp.l s)[j]? = some u → (wr.alloc (.cells #[.int .i64 s.k, .complex .f64 s.x s.y, .int .i64 s.q, .int .i64 s.p] 45)).cell? ((⟨wr.heap.size, 0, none⟩ : Addr).add j) = some u := by
  intro j u hj
  have e : (⟨wr.heap.size, 0, none⟩ : Addr).add j = ⟨wr.heap.size, j, none⟩ := by unfold Addr.add; split <;> simp_all
  rw [e, cell_of_row _ wr.heap.size j _ 45 (0, 0) (block_new wr _)]
  unfold Stp.l at hj
  simpa using hj
theorem one_oneS (s : Stp) : ∀ u ∈ Stp.l s, u.oneCell' = true := by
  intro u hu
  unfold Stp.l at hu
  simp at hu
  rcases hu with rfl | rfl | rfl | rfl <;> rfl
theorem mem_snoc {xs : List Stp} {r : Nat} {s : Stp} {Q : Stp → Prop} (h : xs.length = r ∧ wfS xs ∧ ∀ s ∈ xs, Q s) (hwf : s.x < 18446744073709551616 ∧ s.y < 18446744073709551616) (hq : Q s) : (xs ++ [s]).length = r + 1 ∧ wfS (xs ++ [s]) ∧ ∀ t ∈ xs ++ [s], Q t := by
  refine ⟨by rw [List.length_append, h.1]; rfl, fun t ht => ?_, fun t ht => ?_⟩
  · rcases List.mem_append.1 ht with h1 | h1
    · exact h.2.1 t h1
    · obtain rfl : t = s := by simpa using h1
      exact hwf
  · rcases List.mem_append.1 ht with h1 | h1
    · exact h.2.2 t h1
    · obtain rfl : t = s := by simpa using h1
      exact hq
/-- a list of at most five steps -/
def ListOut (Q : Stp → Prop) (base B : Nat) (w : World) (e : Ending) (w' : World) : Prop :=
  ∃ (g cp : Nat) (xs : List Stp), (xs.length ≤ 5 ∧ wfS xs ∧ ∀ s ∈ xs, Q s) ∧ e = .returned (.slice (some ⟨g, 0, none⟩) xs.length cp) ∧ OwnS w.heap.size w' (.slice (some ⟨g, 0, none⟩) xs.length cp) xs.length xs ∧ Cur base w' B ∧ Only B w w'
set_option maxHeartbeats 3200000 in
theorem steps_any (base B : Nat) (w : World) (hc : Cur base w B) :
    Calls Try.prog 18 #[.pointer (some ⟨B, 0, none⟩)] w (ListOut (fun s => s.ok = true) base B w) := by
  have hBw := hc.lt
  obtain ⟨i0, hi, hz, hs, hby⟩ := info_partsS
  have Hi := Lib.hid (And.intro hi (And.intro hz (And.intro hs hby)))
  have Hn := Lib.hid (And.intro (hc.alloc (.cells #[] 45)) (And.intro ((Only.refl B w).alloc (.cells #[] 45)) (litS w)))
  clear hc hi hz hs hby
  go_enter Try.func18, Try.ntmps18
  go_wp2_with fail
  refine (below_any base B _ _ Hn.out.1 (by omega)).mono ?_
  rintro e w1 ⟨r, r0, r1, rfl, hc1, ho1⟩
  obtain ⟨m0, rfl⟩ := Int.eq_ofNat_of_zero_le r0
  have hm0 : m0 < 6 := by have := r1 (by omega); omega
  have H1 := Lib.hid (And.intro hc1 (And.intro (Hn.out.2.1.trans ho1) (show OwnS _ _ _ _ _ from owns_only Hn.out.2.2 ho1 hBw)))
  clear hc1 ho1 r1 r0 Hn
  go_wp2_with fail
  go_loopw [3, 4] (fun vo vn wr => ∃ (r m g cp : Nat) (xs : List Stp), vo = .slice (some ⟨g, 0, none⟩) r cp ∧ vn = .int .i64 ((m : Nat) : Int) ∧ r + m ≤ 5 ∧ Hid (xs.length = r ∧ wfS xs ∧ ∀ s ∈ xs, s.ok = true) ∧ OwnS w.heap.size wr vo r xs ∧ Cur base wr B ∧ Only B w wr)
    (fun _ vn _ => (intOf vn).toNat)
  case atStart => exact ⟨0, m0, _, _, [], rfl, rfl, by omega, Lib.hid ⟨rfl, fun s h => (by cases h), fun s h => (by cases h)⟩, H1.out.2.2, H1.out.1, H1.out.2.1⟩
  case round =>
    obtain ⟨r, m, g0, cp, xs, rfl, rfl, hrm, hxs, hown, hcr, hor⟩ := hrel
    have Hr := Lib.hid (And.intro hown (And.intro hcr hor))
    clear hown hcr hor
    rcases m with _ | m
    · go_wp2_with fail
      go_ret
      have hl := hxs.out.1
      subst hl
      exact ⟨g0, cp, xs, ⟨by omega, hxs.out.2.1, hxs.out.2.2⟩, rfl, Hr.out.1, Hr.out.2.1, Hr.out.2.2⟩
    · go_wp2_with fail
      refine (step_any base B _ Hr.out.2.1).mono ?_
      rintro e w4 ⟨s, hok, hwf, rfl, hc4, ho4⟩
      have H4 := Lib.hid (And.intro hc4 (And.intro (Hr.out.2.2.trans ho4) (show OwnS w.heap.size w4 _ _ _ from owns_only Hr.out.1 ho4 hBw)))
      have Hm := Lib.hid (mem_snoc hxs.out hwf hok)
      clear hc4 ho4 hok hwf
      unfold Stp.c
      have hn63 : r + 1 ≤ maxLen := by unfold maxLen; omega
      have hnby : (r + 1) * 40 ≤ 140737488355328 := by omega
      have hsz4 := H4.out.2.1.size
      have hbs : w.heap.size ≤ (w4.alloc (.cells #[.int .i64 s.k, .complex .f64 s.x s.y, .int .i64 s.q, .int .i64 s.p] 45)).heap.size := by rw [World.size_alloc]; omega
      have Hown := Lib.hid (show (w4.alloc (.cells #[.int .i64 s.k, .complex .f64 s.x s.y, .int .i64 s.q, .int .i64 s.p] 45)).ownsRow w.heap.size 45 4 _ _ _ from World.ownsRow.alloc H4.out.2.2 (.cells #[.int .i64 s.k, .complex .f64 s.x s.y, .int .i64 s.q, .int .i64 s.p] 45))
      have Hnews := Lib.hid (one_cellS w4 s)
      have Hone := Lib.hid (one_oneS s)
      go_wp2_with (at_builtin; go_loud (refine wpList_append_lies _ rfl (.tmp 12) (.tmp 15) 24 rfl w.heap.size 45 i0 (.agg #[.int .i64 0, .complex .f64 0 0, .int .i64 0, .int .i64 0]) 4 40 Try.underlying24 Hi.out.1 Hi.out.2.1 Hi.out.2.2.1 Hi.out.2.2.2 rfl (by decide) (.slice (some ⟨g0, 0, none⟩) r cp) r (cS xs) rfl Hown.out ⟨w4.heap.size, 0, none⟩ 1 1 (Stp.l s) rfl rfl Hnews.out Hone.out (by omega) hn63 hnby hbs _ rfl ?_; intro g cap1 w5 hown1 hgrow1 hat1 hlt1))
      have H5 := Lib.hid (show OwnS w.heap.size w5 (.slice (some ⟨g, 0, none⟩) (r + 1) cap1) (r + 1) (xs ++ [s]) ∧ Cur base w5 B ∧ Only B w w5 from ⟨by
        unfold OwnS
        rw [← cS_snoc]
        exact hown1, cur_grown (H4.out.1.alloc _) hgrow1 (fun k hk => by have := (Hown.out.lt k hk).1; omega), only_grown (H4.out.2.1.alloc _) hgrow1 (fun k hk => (Hown.out.lt k hk).1)⟩)
      clear hown1 hgrow1 hat1 hlt1
      go_wp2_with fail
      go_roundw
      case rel => exact ⟨r + 1, m, g, cap1, xs ++ [s], rfl, by go_num, by omega, Hm.out, H5.out.1, H5.out.2.1, H5.out.2.2⟩
      case measure => first | (simp [intOf]; done) | (simp [intOf]; omega)
/-- a step that only turns signs and places -/
def exS (s : Stp) : Prop := s = ⟨5, 0, 0, 0, 0⟩ ∨ s = ⟨6, 0, 0, 0, 0⟩ ∨ ∃ q, (0 ≤ q ∧ q ≤ 3) ∧ s = ⟨7, 0, 0, q, 0⟩
theorem wfk {k q p : Int} : (Stp.mk k 0 0 q p).x < 18446744073709551616 ∧ (Stp.mk k 0 0 q p).y < 18446744073709551616 := zeroW
set_option maxHeartbeats 3200000 in
theorem exact_any (base B : Nat) (w : World) (hc : Cur base w B) :
    Calls Try.prog 24 #[.pointer (some ⟨B, 0, none⟩)] w (ListOut exS base B w) := by
  have hBw := hc.lt
  obtain ⟨i0, hi, hz, hs, hby⟩ := info_partsS
  have Hi := Lib.hid (And.intro hi (And.intro hz (And.intro hs hby)))
  have Hn := Lib.hid (And.intro (hc.alloc (.cells #[] 45)) (And.intro ((Only.refl B w).alloc (.cells #[] 45)) (litS w)))
  clear hc hi hz hs hby
  go_enter Try.func24, Try.ntmps24
  go_wp2_with fail
  refine (below_any base B _ _ Hn.out.1 (by omega)).mono ?_
  rintro e w1 ⟨r, r0, r1, rfl, hc1, ho1⟩
  obtain ⟨m0, rfl⟩ := Int.eq_ofNat_of_zero_le r0
  have hm0 : m0 < 6 := by have := r1 (by omega); omega
  have H1 := Lib.hid (And.intro hc1 (And.intro (Hn.out.2.1.trans ho1) (show OwnS _ _ _ _ _ from owns_only Hn.out.2.2 ho1 hBw)))
  clear hc1 ho1 r1 r0 Hn
  go_wp2_with fail
  go_loopw [3, 4] (fun vo vn wr => ∃ (r m g cp : Nat) (xs : List Stp), vo = .slice (some ⟨g, 0, none⟩) r cp ∧ vn = .int .i64 ((m : Nat) : Int) ∧ r + m ≤ 5 ∧ Hid (xs.length = r ∧ wfS xs ∧ ∀ s ∈ xs, exS s) ∧ OwnS w.heap.size wr vo r xs ∧ Cur base wr B ∧ Only B w wr)
    (fun _ vn _ => (intOf vn).toNat)
  case atStart => exact ⟨0, m0, _, _, [], rfl, rfl, by omega, Lib.hid ⟨rfl, fun s h => (by cases h), fun s h => (by cases h)⟩, H1.out.2.2, H1.out.1, H1.out.2.1⟩
  case round =>
    obtain ⟨r, m, g0, cp, xs, rfl, rfl, hrm, hxs, hown, hcr, hor⟩ := hrel
    have Hr := Lib.hid (And.intro hown (And.intro hcr hor))
    clear hown hcr hor
    rcases m with _ | m
    · go_wp2_with fail
      go_ret
      have hl := hxs.out.1
      subst hl
      exact ⟨g0, cp, xs, ⟨by omega, hxs.out.2.1, hxs.out.2.2⟩, rfl, Hr.out.1, Hr.out.2.1, Hr.out.2.2⟩
    · go_wp2_with fail
      refine (below_any base B _ _ Hr.out.2.1 (by omega)).mono ?_
      rintro e w4 ⟨c, c0, c1, rfl, hc4, ho4⟩
      have c2 := c1 (by omega)
      have H4 := Lib.hid (And.intro hc4 (And.intro (Hr.out.2.2.trans ho4) (show OwnS w.heap.size w4 _ _ _ from owns_only Hr.out.1 ho4 hBw)))
      clear hc4 ho4 c1
      obtain rfl | rfl | rfl : c = 0 ∨ c = 1 ∨ c = 2 := by omega
      · have Hm := Lib.hid (mem_snoc hxs.out wfk (.inl rfl : exS ⟨5, 0, 0, 0, 0⟩))
        have hn63 : r + 1 ≤ maxLen := by unfold maxLen; omega
        have hnby : (r + 1) * 40 ≤ 140737488355328 := by omega
        have hsz4 := H4.out.2.1.size
        have hbs : w.heap.size ≤ (w4.alloc (.cells #[.int .i64 5, .complex .f64 0 0, .int .i64 0, .int .i64 0] 45)).heap.size := by rw [World.size_alloc]; omega
        have Hown := Lib.hid (show (w4.alloc (.cells #[.int .i64 5, .complex .f64 0 0, .int .i64 0, .int .i64 0] 45)).ownsRow w.heap.size 45 4 _ _ _ from World.ownsRow.alloc H4.out.2.2 (.cells #[.int .i64 5, .complex .f64 0 0, .int .i64 0, .int .i64 0] 45))
        have Hnews := Lib.hid (one_cellS w4 ⟨5, 0, 0, 0, 0⟩)
        have Hone := Lib.hid (one_oneS ⟨5, 0, 0, 0, 0⟩)
        go_wp2_with (at_builtin; go_loud (refine wpList_append_lies _ rfl (.tmp 23) (.tmp 25) 24 rfl w.heap.size 45 i0 (.agg #[.int .i64 0, .complex .f64 0 0, .int .i64 0, .int .i64 0]) 4 40 Try.underlying24 Hi.out.1 Hi.out.2.1 Hi.out.2.2.1 Hi.out.2.2.2 rfl (by decide) (.slice (some ⟨g0, 0, none⟩) r cp) r (cS xs) rfl Hown.out ⟨w4.heap.size, 0, none⟩ 1 1 (Stp.l ⟨5, 0, 0, 0, 0⟩) rfl rfl Hnews.out Hone.out (by omega) hn63 hnby hbs _ rfl ?_; intro g cap1 w5 hown1 hgrow1 hat1 hlt1))
        have H5 := Lib.hid (show OwnS w.heap.size w5 (.slice (some ⟨g, 0, none⟩) (r + 1) cap1) (r + 1) (xs ++ [⟨5, 0, 0, 0, 0⟩]) ∧ Cur base w5 B ∧ Only B w w5 from ⟨by
          unfold OwnS
          rw [← cS_snoc]
          exact hown1, cur_grown (H4.out.1.alloc _) hgrow1 (fun k hk => by have := (Hown.out.lt k hk).1; omega), only_grown (H4.out.2.1.alloc _) hgrow1 (fun k hk => (Hown.out.lt k hk).1)⟩)
        clear hown1 hgrow1 hat1 hlt1
        go_wp2_with fail
        go_roundw
        case rel => exact ⟨r + 1, m, g, cap1, xs ++ [⟨5, 0, 0, 0, 0⟩], rfl, by go_num, by omega, Hm, H5.out.1, H5.out.2.1, H5.out.2.2⟩
        case measure => first | (simp [intOf]; done) | (simp [intOf]; omega)
      · have Hm := Lib.hid (mem_snoc hxs.out wfk (.inr (.inl rfl) : exS ⟨6, 0, 0, 0, 0⟩))
        have hn63 : r + 1 ≤ maxLen := by unfold maxLen; omega
        have hnby : (r + 1) * 40 ≤ 140737488355328 := by omega
        have hsz4 := H4.out.2.1.size
        have hbs : w.heap.size ≤ (w4.alloc (.cells #[.int .i64 6, .complex .f64 0 0, .int .i64 0, .int .i64 0] 45)).heap.size := by rw [World.size_alloc]; omega
        have Hown := Lib.hid (show (w4.alloc (.cells #[.int .i64 6, .complex .f64 0 0, .int .i64 0, .int .i64 0] 45)).ownsRow w.heap.size 45 4 _ _ _ from World.ownsRow.alloc H4.out.2.2 (.cells #[.int .i64 6, .complex .f64 0 0, .int .i64 0, .int .i64 0] 45))
        have Hnews := Lib.hid (one_cellS w4 ⟨6, 0, 0, 0, 0⟩)
        have Hone := Lib.hid (one_oneS ⟨6, 0, 0, 0, 0⟩)
        go_wp2_with (at_builtin; go_loud (refine wpList_append_lies _ rfl (.tmp 29) (.tmp 31) 24 rfl w.heap.size 45 i0 (.agg #[.int .i64 0, .complex .f64 0 0, .int .i64 0, .int .i64 0]) 4 40 Try.underlying24 Hi.out.1 Hi.out.2.1 Hi.out.2.2.1 Hi.out.2.2.2 rfl (by decide) (.slice (some ⟨g0, 0, none⟩) r cp) r (cS xs) rfl Hown.out ⟨w4.heap.size, 0, none⟩ 1 1 (Stp.l ⟨6, 0, 0, 0, 0⟩) rfl rfl Hnews.out Hone.out (by omega) hn63 hnby hbs _ rfl ?_; intro g cap1 w5 hown1 hgrow1 hat1 hlt1))
        have H5 := Lib.hid (show OwnS w.heap.size w5 (.slice (some ⟨g, 0, none⟩) (r + 1) cap1) (r + 1) (xs ++ [⟨6, 0, 0, 0, 0⟩]) ∧ Cur base w5 B ∧ Only B w w5 from ⟨by
          unfold OwnS
          rw [← cS_snoc]
          exact hown1, cur_grown (H4.out.1.alloc _) hgrow1 (fun k hk => by have := (Hown.out.lt k hk).1; omega), only_grown (H4.out.2.1.alloc _) hgrow1 (fun k hk => (Hown.out.lt k hk).1)⟩)
        clear hown1 hgrow1 hat1 hlt1
        go_wp2_with fail
        go_roundw
        case rel => exact ⟨r + 1, m, g, cap1, xs ++ [⟨6, 0, 0, 0, 0⟩], rfl, by go_num, by omega, Hm, H5.out.1, H5.out.2.1, H5.out.2.2⟩
        case measure => first | (simp [intOf]; done) | (simp [intOf]; omega)
      · go_wp2_with fail
        refine (below_any base B 4 _ H4.out.1 (by omega)).mono ?_
        rintro e w5 ⟨q, q0, q1, rfl, hc5, ho5⟩
        have q2 := q1 (by omega)
        have H4' := Lib.hid (And.intro hc5 (And.intro (H4.out.2.1.trans ho5) (show OwnS w.heap.size w5 _ _ _ from owns_only H4.out.2.2 ho5 hBw)))
        have Hm := Lib.hid (mem_snoc hxs.out wfk (.inr (.inr ⟨q, by omega, rfl⟩) : exS ⟨7, 0, 0, q, 0⟩))
        clear hc5 ho5 q1 H4
        have H4 := H4'
        clear H4'
        have hn63 : r + 1 ≤ maxLen := by unfold maxLen; omega
        have hnby : (r + 1) * 40 ≤ 140737488355328 := by omega
        have hsz4 := H4.out.2.1.size
        have hbs : w.heap.size ≤ (w5.alloc (.cells #[.int .i64 7, .complex .f64 0 0, .int .i64 q, .int .i64 0] 45)).heap.size := by rw [World.size_alloc]; omega
        have Hown := Lib.hid (show (w5.alloc (.cells #[.int .i64 7, .complex .f64 0 0, .int .i64 q, .int .i64 0] 45)).ownsRow w.heap.size 45 4 _ _ _ from World.ownsRow.alloc H4.out.2.2 (.cells #[.int .i64 7, .complex .f64 0 0, .int .i64 q, .int .i64 0] 45))
        have Hnews := Lib.hid (one_cellS w5 ⟨7, 0, 0, q, 0⟩)
        have Hone := Lib.hid (one_oneS ⟨7, 0, 0, q, 0⟩)
        go_wp2_with (at_builtin; go_loud (refine wpList_append_lies _ rfl (.tmp 14) (.tmp 19) 24 rfl w.heap.size 45 i0 (.agg #[.int .i64 0, .complex .f64 0 0, .int .i64 0, .int .i64 0]) 4 40 Try.underlying24 Hi.out.1 Hi.out.2.1 Hi.out.2.2.1 Hi.out.2.2.2 rfl (by decide) (.slice (some ⟨g0, 0, none⟩) r cp) r (cS xs) rfl Hown.out ⟨w5.heap.size, 0, none⟩ 1 1 (Stp.l ⟨7, 0, 0, q, 0⟩) rfl rfl Hnews.out Hone.out (by omega) hn63 hnby hbs _ rfl ?_; intro g cap1 w6 hown1 hgrow1 hat1 hlt1))
        have H5 := Lib.hid (show OwnS w.heap.size w6 (.slice (some ⟨g, 0, none⟩) (r + 1) cap1) (r + 1) (xs ++ [⟨7, 0, 0, q, 0⟩]) ∧ Cur base w6 B ∧ Only B w w6 from ⟨by
          unfold OwnS
          rw [← cS_snoc]
          exact hown1, cur_grown (H4.out.1.alloc _) hgrow1 (fun k hk => by have := (Hown.out.lt k hk).1; omega), only_grown (H4.out.2.1.alloc _) hgrow1 (fun k hk => (Hown.out.lt k hk).1)⟩)
        clear hown1 hgrow1 hat1 hlt1
        go_wp2_with fail
        go_roundw
        case rel => exact ⟨r + 1, m, g, cap1, xs ++ [⟨7, 0, 0, q, 0⟩], rfl, by go_num, by omega, Hm, H5.out.1, H5.out.2.1, H5.out.2.2⟩
        case measure => first | (simp [intOf]; done) | (simp [intOf]; omega)
end Go.Proofs.Ytpemmmnohlimmaa.Drw
