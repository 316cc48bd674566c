/- TraceSteps in the program. -/
import Derived.Test.YtpemmmnohlimmaaCorO
import Derived.Test.YtpemmmnohlimmaaStpL
import Derived.Laws.OwnMore
import Derived.OwnWalk
import Derived.Deep.AppendLies
namespace Go.Proofs.Ytpemmmnohlimmaa.Stp
open Go.ChangeShapes Go.WideShapes Go.ChangeAt Go.RowKit Go.Proofs.Ytpemmmnohlimmaa Go.Proofs.Ytpemmmnohlimmaa.Flt Go.Proofs.Ytpemmmnohlimmaa.Mth Go.Proofs.Ytpemmmnohlimmaa.Cpx Go.Proofs.Ytpemmmnohlimmaa.Trn
set_option linter.unusedVariables false
/-- the results up to the first step that fails -/
def trc : List Stp → Nat × Nat → List (Nat × Nat)
  | [], _ => []
  | s :: r, z => match corO s z with
    | none => []
    | some y => y :: trc r y
/-- the last result, if no step fails -/
def fld : List Stp → Nat × Nat → Option (Nat × Nat)
  | [], z => some z
  | s :: r, z => match corO s z with
    | none => none
    | some y => fld r y
theorem trc_len : ∀ (xs : List Stp) (z : Nat × Nat), (trc xs z).length ≤ xs.length
  | [], _ => Nat.le_refl _
  | s :: r, z => by
    unfold trc
    cases corO s z with
    | none => simp
    | some y => have := trc_len r y; simp only [List.length_cons]; omega
theorem fld_trc : ∀ (xs : List Stp) (z : Nat × Nat), (fld xs z = none ∧ (trc xs z).length < xs.length) ∨ ∃ y, fld xs z = some y ∧ (trc xs z).length = xs.length ∧ (z :: trc xs z)[xs.length]? = some y
  | [], z => .inr ⟨z, rfl, rfl, rfl⟩
  | s :: r, z => by
    unfold fld trc
    cases corO s z with
    | none => exact .inl ⟨rfl, by simp⟩
    | some y =>
      rcases fld_trc r y with ⟨h1, h2⟩ | ⟨u, h1, h2, h3⟩
      · exact .inl ⟨h1, by simpa using h2⟩
      · exact .inr ⟨u, h1, by simpa using h2, h3⟩
theorem cor_lt {s : Stp} {z y : Nat × Nat} (h : corO s z = some y) : isFinD y.1 = true ∧ isFinD y.2 = true := by
  unfold corO at h
  split at h
  · rename_i hq
    cases h
    rw [Bool.and_eq_true, Bool.and_eq_true (finO _)] at hq
    obtain ⟨_, h1, h2⟩ := hq
    constructor
    · show isFinD ((stepO s z.1 z.2).1.getD 0) = true
      revert h1
      cases (stepO s z.1 z.2).1 with
      | none => intro h; cases h
      | some r => intro h; exact h
    · show isFinD ((stepO s z.1 z.2).2.getD 0) = true
      revert h2
      cases (stepO s z.1 z.2).2 with
      | none => intro h; cases h
      | some r => intro h; exact h
  · cases h
theorem infoZ : (Try.prog.info? 25).map (fun i => (i.zero, i.size, i.bytes)) = some (some (.complex .f64 0 0), 1, 16) := by kernel_rfl
theorem info_partsZ : ∃ i, Try.prog.info? 25 = some i ∧ i.zero = some (.complex .f64 0 0) ∧ i.size = 1 ∧ i.bytes = 16 := by
  have h := infoZ
  cases hi : Try.prog.info? 25 with
  | none => rw [hi] at h; cases h
  | some i =>
    rw [hi] at h
    simp only [Option.map_some, Option.some.injEq, Prod.mk.injEq] at h
    exact ⟨i, rfl, h.1, h.2.1, h.2.2⟩
def cZ (xs : List (Nat × Nat)) : List Value := xs.map fun p => Value.complex .f64 p.1 p.2
/-- a list of complex numbers of the call's own -/
def OwnZ (base : Nat) (w : World) (v : Value) (xs : List (Nat × Nat)) : Prop := w.ownsRow base 25 1 v xs.length (cZ xs)
theorem makeZ_any (n : Nat) (hn : n ≤ 1048576) (w : World) :
    (Instr.makeSlice 30 (.int .i64 0) (.int .i64 (n : Int))).run Try.prog w = .ok (.slice (some ⟨w.heap.size, 0, none⟩) 0 n) (w.alloc (.cells (madeCells #[.complex .f64 0 0] n) 25)) := by
  obtain ⟨i, hi, hz, hs, hb⟩ := info_partsZ
  have h := run_make (P := Try.prog) w 30 25 i _ Try.underlying30 hi hz .i64 .i64 0 n (by omega) (by omega) (by rw [hb]; omega) (by omega)
  rw [hs] at h
  rw [show (Value.complex .f64 0 0).cells = #[.complex .f64 0 0] from rfl] at h
  simpa [Nat.mul_one] using h
theorem madeZ (n : Nat) (hn : n ≤ 1048576) (w : World) : OwnZ w.heap.size (w.alloc (.cells (madeCells #[.complex .f64 0 0] n) 25)) (.slice (some ⟨w.heap.size, 0, none⟩) 0 n) [] :=
  World.ownsRow_made w _ n (Nat.le_refl _) (by unfold maxLen; omega) (by rw [size_madeCells]; simp)
theorem nilZ (base : Nat) (w : World) : OwnZ base w (.slice none 0 0) [] := ⟨rfl, .inl ⟨rfl, rfl⟩⟩
theorem one_cellZ (wr : World) (x y : Nat) : ∀ j u, [Value.complex .f64 x y][j]? = some u → (wr.alloc (.cells #[.complex .f64 x y] 25)).cell? ((⟨wr.heap.size, 0, none⟩ : Addr).add j) = some u := by
  intro j u hj
  have e : (⟨wr.heap.size, 0, none⟩ : Addr).add j = ⟨wr.heap.size, j, none⟩ := by unfold Addr.add; split <;> simp_all
  rw [e, cell_of_row _ wr.heap.size j #[.complex .f64 x y] 25 (0, 0) (block_new wr _)]
  simpa using hj
theorem one_oneZ (x y : Nat) : ∀ u ∈ [Value.complex .f64 x y], u.oneCell' = true := by
  intro u hu
  simp at hu
  subst hu
  rfl
theorem cZ_snoc (xs : List (Nat × Nat)) (x y : Nat) : cZ xs ++ [.complex .f64 x y] = cZ (xs ++ [(x, y)]) := by unfold cZ; simp
theorem own_below {base e size n B : Nat} {w w' : World} {v : Value} {xs : List Value} (h : w.ownsRow base e size v n xs) (hB : w.heap.size ≤ B) (hb : Below B w w') : w'.ownsRow base e size v n xs := by
  refine ⟨h.1, ?_⟩
  rcases h.2 with hn | ⟨g, cap, cur, rfl, hbg, hg, rest⟩
  · exact .inl hn
  · exact .inr ⟨g, cap, cur, rfl, hbg, (hb.block g (Nat.lt_of_lt_of_le (lt_of_block hg) hB)).trans hg, rest⟩
theorem own_mono {base b e size n : Nat} {w : World} {v : Value} {xs : List Value} (h : w.ownsRow b e size v n xs) (hb : base ≤ b) : w.ownsRow base e size v n xs := by
  refine ⟨h.1, ?_⟩
  rcases h.2 with hn | ⟨g, cap, cur, e', hb', rest⟩
  · exact .inl hn
  · exact .inr ⟨g, cap, cur, e', Nat.le_trans hb hb', rest⟩
theorem trc_cons {xs : List Stp} {r : Nat} {s : Stp} (hs : xs[r]? = some s) (z : Nat × Nat) : trc (xs.drop r) z = match corO s z with | none => [] | some y => y :: trc (xs.drop (r + 1)) y := by
  have hl : r < xs.length := by
    rcases Nat.lt_or_ge r xs.length with h | h
    · exact h
    · rw [List.getElem?_eq_none h] at hs; cases hs
  rw [List.getElem?_eq_getElem hl] at hs
  cases hs
  rw [List.drop_eq_getElem_cons hl]
  rfl
theorem fo_lt {op : BinOp} {a b : Option Nat} {r : Nat} (h : fo op .f64 a b = some r) : r < 18446744073709551616 := by
  cases a with
  | none => cases h
  | some x =>
    cases b with
    | none => cases h
    | some y => exact bits_lt h
theorem can_lt {x r : Nat} (hx : x < 18446744073709551616) (h : can .f64 x = some r) : r < 18446744073709551616 := by
  obtain ⟨rfl, _⟩ := can_some h; exact hx
theorem quoO_lt {a b c d r : Nat} (h : (quoO a b c d).1 = some r ∨ (quoO a b c d).2 = some r) : r < 18446744073709551616 := by
  unfold quoO at h
  simp only at h
  split at h
  · rcases h with h | h <;> exact fo_lt h
  · rcases h with h | h <;> exact fo_lt h
theorem stepO_lt {s : Stp} {x y r : Nat} (hx : x < 18446744073709551616) (hy : y < 18446744073709551616) (h : (stepO s x y).1 = some r ∨ (stepO s x y).2 = some r) : r < 18446744073709551616 := by
  unfold stepO at h
  split at h
  · rcases h with h | h <;> exact fo_lt h
  · split at h
    · rcases h with h | h <;> exact fo_lt h
    · split at h
      · rcases h with h | h <;> exact fo_lt h
      · split at h
        · exact quoO_lt h
        · split at h
          · rcases h with h | h
            · exact can_lt hx h
            · exact can_lt (ng_lt hy) h
          · split at h
            · rcases h with h | h
              · exact can_lt (ng_lt hx) h
              · exact can_lt (ng_lt hy) h
            · rcases h with h | h <;> exact fo_lt h
theorem cor_wf {s : Stp} {x y p q : Nat} (hx : x < 18446744073709551616) (hy : y < 18446744073709551616) (h : corO s (x, y) = some (p, q)) : p < 18446744073709551616 ∧ q < 18446744073709551616 := by
  unfold corO at h
  split at h
  · rename_i hq
    rw [Bool.and_eq_true, Bool.and_eq_true (finO _)] at hq
    obtain ⟨_, h1, h2⟩ := hq
    simp only [Option.some.injEq, Prod.mk.injEq] at h
    obtain ⟨e1, e2⟩ := h
    constructor
    · refine stepO_lt (s := s) hx hy (.inl ?_)
      revert h1 e1
      cases (stepO s x y).1 with
      | none => intro h; cases h
      | some r => intro _ e; exact congrArg some e
    · refine stepO_lt (s := s) hx hy (.inr ?_)
      revert h2 e2
      cases (stepO s x y).2 with
      | none => intro h; cases h
      | some r => intro _ e; exact congrArg some e
  · cases h
def okZ (xs : List Stp) (z : Nat × Nat) : Bool := okS xs && (isFinD z.1 && isFinD z.2)
/-- what TraceSteps gives -/
def trA (xs : List Stp) (z : Nat × Nat) : List (Nat × Nat) := if okZ xs z = true then trc xs z else []
def TrOut (xs : List Stp) (z : Nat × Nat) (w : World) (e : Ending) (w' : World) : Prop := ∃ v, e = .returned v ∧ OwnZ w.heap.size w' v (trA xs z) ∧ Below w.heap.size w w'
set_option maxHeartbeats 1600000 in
theorem trace_no (g off cap : Nat) (xs : List Stp) (x y : Nat) (w : World) (hg : g < w.heap.size) (hwf : wfS xs) (h : CellsS w g off xs) (lx : x < 18446744073709551616) (ly : y < 18446744073709551616) (hno : okZ xs (x, y) = false) :
    Calls Try.prog 9 #[.slice (some ⟨g, off, none⟩) xs.length cap, .complex .f64 x y] w (TrOut xs (x, y) w) := by
  have cS := stepsOk_any g off cap xs w hg hwf h
  have cF := fun W => finI_any x y W lx ly
  have ht : trA xs (x, y) = [] := by unfold trA; rw [hno]; rfl
  unfold TrOut
  rw [ht]
  unfold okZ at hno
  cases ho : okS xs
  · rw [ho] at cS
    clear hno ho h hwf
    generalize xs.length = n at *
    go_enter Try.func9, Try.ntmps9
    go_wp2_with fail
    refine cS.mono ?_
    rintro e w1 ⟨rfl, hb⟩
    have Hb := Lib.hid hb
    clear hb cS
    go_wp2_with fail
    go_ret
    exact ⟨_, rfl, nilZ _ _, Hb.out⟩
  · rw [ho] at cS hno
    rw [show (isFinD (x, y).1 && isFinD (x, y).2) = (isFinD x && isFinD y) from rfl, Bool.true_and] at hno
    rw [hno] at cF
    clear hno ho h hwf
    generalize xs.length = n at *
    go_enter Try.func9, Try.ntmps9
    go_wp2_with fail
    refine cS.mono ?_
    rintro e w1 ⟨rfl, hb⟩
    have Hb := Lib.hid hb
    clear hb cS
    go_wp2_with fail
    refine (cF _).mono ?_
    rintro e w2 ⟨rfl, rfl⟩
    go_wp2_with fail
    go_ret
    exact ⟨_, rfl, nilZ _ _, Hb.out⟩
set_option maxHeartbeats 1600000 in
theorem trace_yes (g off cap : Nat) (xs : List Stp) (x y : Nat) (w : World) (hg : g < w.heap.size) (hwf : wfS xs) (h : CellsS w g off xs) (lx : x < 18446744073709551616) (ly : y < 18446744073709551616) (hok : okZ xs (x, y) = true) :
    Calls Try.prog 9 #[.slice (some ⟨g, off, none⟩) xs.length cap, .complex .f64 x y] w (TrOut xs (x, y) w) := by
  have cS := stepsOk_any g off cap xs w hg hwf h
  have cF := fun W => finI_any x y W lx ly
  have ht : trA xs (x, y) = trc xs (x, y) := by unfold trA; rw [if_pos hok]
  unfold TrOut
  rw [ht]
  unfold okZ at hok
  rw [Bool.and_eq_true] at hok
  obtain ⟨ho, hf⟩ := hok
  rw [show (isFinD (x, y).1 && isFinD (x, y).2) = (isFinD x && isFinD y) from rfl] at hf
  rw [ho] at cS
  rw [hf] at cF
  have hl : xs.length ≤ 20 := by
    unfold okS at ho
    rw [Bool.and_eq_true] at ho
    exact of_decide_eq_true ho.1
  have H := Lib.hid (And.intro hwf h)
  obtain ⟨n, hn⟩ : ∃ n, xs.length = n := ⟨_, rfl⟩
  rw [hn] at cS hl ⊢
  obtain ⟨i0, hi, hz0, hz1, hz2⟩ := info_partsZ
  have Hi := Lib.hid (And.intro hi (And.intro hz0 (And.intro hz1 hz2)))
  have hmk := makeZ_any n (by omega)
  clear hi hz0 hz1 hz2 ho hf h hwf ht
  go_enter Try.func9, Try.ntmps9
  go_wp2_with fail
  refine cS.mono ?_
  rintro e w1 ⟨rfl, hb⟩
  have hsz1 := hb.size
  have Hb := Lib.hid (show OwnZ w.heap.size (w1.alloc (.cells (madeCells #[.complex .f64 0 0] n) 25)) (.slice (some ⟨w1.heap.size, 0, none⟩) 0 n) [] ∧ Below w.heap.size w (w1.alloc (.cells (madeCells #[.complex .f64 0 0] n) 25)) from ⟨own_mono (madeZ n (by omega) w1) hsz1, hb.alloc hsz1 _⟩)
  clear hb cS
  go_wp2_with fail
  refine (cF _).mono ?_
  rintro e w2 ⟨rfl, rfl⟩
  go_wp2_with fail
  go_loopw [1, 5, 23] (fun zv v iv wr => ∃ (r g' cp a b : Nat) (zs : List (Nat × Nat)), zv = .complex .f64 a b ∧ v = .slice (some ⟨g', 0, none⟩) r cp ∧ iv = .int .i64 (r : Int) ∧ r ≤ n ∧ wr.ownsRow w.heap.size 25 1 v r (cZ zs) ∧ Hid (zs.length = r ∧ trc xs (x, y) = zs ++ trc (xs.drop r) (a, b) ∧ a < 18446744073709551616 ∧ b < 18446744073709551616) ∧ Below w.heap.size w wr)
    (fun _ _ iv _ => n - (intOf iv).toNat)
  case atStart => exact ⟨0, w2.heap.size, n, x, y, [], rfl, rfl, rfl, Nat.zero_le _, Hb.out.1, Lib.hid ⟨rfl, rfl, lx, ly⟩, Hb.out.2⟩
  case round =>
    obtain ⟨r, g', cp, a, b, zs, rfl, rfl, rfl, hr, hown, hz, hbel⟩ := hrel
    have hsz := hbel.size
    by_cases hrl : r < n
    · have hrl' : (r : Int) < (n : Int) := by omega
      obtain ⟨s, hs⟩ : ∃ s, xs[r]? = some s := ⟨_, List.getElem?_eq_getElem (by rw [hn]; exact hrl)⟩
      have hw := H.out.1 s (List.mem_of_getElem? hs)
      obtain ⟨a0, a1, a2, a3⟩ := (H.out.2.keep hg hbel) r s hs
      have Ht := Lib.hid (trc_cons hs (a, b))
      have Hr := Lib.hid (And.intro hown hbel)
      have hO := fun W => one_any s a b W hw.1 hw.2 hz.out.2.2.1 hz.out.2.2.2
      unfold OneOut at hO
      clear hs hown hbel
      cases hc : corO s (a, b) with
      | none =>
        have Hf := Lib.hid (show trc xs (x, y) = zs by rw [hz.out.2.1, Ht.out, hc, List.append_nil])
        rw [hc] at hO
        have hO' : ∀ W : World, Calls Try.prog 20 #[.agg #[.int .i64 s.k, .complex .f64 s.x s.y, .int .i64 s.q, .int .i64 s.p], .complex .f64 a b] W fun e w' => e = .returned (.tuple #[.complex .f64 0 0, .bool false]) ∧ Below W.heap.size W w' := hO
        clear hc hO
        go_wp2_with fail
        refine (hO' _).mono ?_
        rintro e w3 ⟨rfl, hb3⟩
        have H3 := Lib.hid (show wr.ownsRow w.heap.size 25 1 (.slice (some ⟨g', 0, none⟩) r cp) r (cZ zs) → (w3.ownsRow w.heap.size 25 1 (.slice (some ⟨g', 0, none⟩) r cp) r (cZ zs) ∧ Below w.heap.size w w3) from fun h => ⟨own_below h (Nat.le_refl _) (below_on (B := wr.heap.size) hb3 (by go_grown) (by simp)), Hr.out.2.trans ((below_on (B := wr.heap.size) hb3 (by go_grown) (by simp)).mono hsz)⟩)
        clear hb3
        go_wp2_with fail
        go_ret
        exact ⟨_, rfl, by rw [Hf.out]; unfold OwnZ; rw [hz.out.1]; exact (H3.out Hr.out.1).1, (H3.out Hr.out.1).2⟩
      | some u =>
        obtain ⟨p, q⟩ := u
        have Hf := Lib.hid (show trc xs (x, y) = (zs ++ [(p, q)]) ++ trc (xs.drop (r + 1)) (p, q) by rw [hz.out.2.1, Ht.out, hc, List.append_assoc]; rfl)
        have Hpq := Lib.hid (cor_wf hz.out.2.2.1 hz.out.2.2.2 hc)
        rw [hc] at hO
        have hO' : ∀ W : World, Calls Try.prog 20 #[.agg #[.int .i64 s.k, .complex .f64 s.x s.y, .int .i64 s.q, .int .i64 s.p], .complex .f64 a b] W fun e w' => e = .returned (.tuple #[.complex .f64 p q, .bool true]) ∧ Below W.heap.size W w' := hO
        clear hc hO
        go_wp2_with fail
        refine (hO' _).mono ?_
        rintro e w3 ⟨rfl, hb3⟩
        have hbb := below_on (B := wr.heap.size) hb3 (show Below wr.heap.size wr _ by go_grown) (by simp)
        have H3 := Lib.hid (And.intro (own_below Hr.out.1 (Nat.le_refl _) hbb) (Hr.out.2.trans (hbb.mono hsz)))
        have hsz3 := H3.out.2.size
        clear hb3 hbb
        have hn63 : r + 1 ≤ maxLen := by unfold maxLen; omega
        have hnby : (r + 1) * 16 ≤ 140737488355328 := by omega
        have hbs : w.heap.size ≤ (w3.alloc (.cells #[.complex .f64 p q] 25)).heap.size := by rw [World.size_alloc]; omega
        have Hown := Lib.hid (show (w3.alloc (.cells #[.complex .f64 p q] 25)).ownsRow w.heap.size 25 1 _ _ _ from World.ownsRow.alloc H3.out.1 (.cells #[.complex .f64 p q] 25))
        have Hnews := Lib.hid (one_cellZ w3 p q)
        have Hone := Lib.hid (one_oneZ p q)
        go_wp2_with (at_builtin; go_loud (refine wpList_append_lies _ rfl (.tmp 35) (.tmp 37) 30 rfl w.heap.size 25 i0 (.complex .f64 0 0) 1 16 Try.underlying30 Hi.out.1 Hi.out.2.1 Hi.out.2.2.1 Hi.out.2.2.2 rfl (by decide) (.slice (some ⟨g', 0, none⟩) r cp) r (cZ zs) rfl Hown.out ⟨w3.heap.size, 0, none⟩ 1 1 [.complex .f64 p q] rfl rfl Hnews.out Hone.out (by omega) hn63 hnby hbs _ rfl ?_; intro g2 cap2 w5 hown1 hgrow1 hat1 hlt1))
        have H5 := Lib.hid (show w5.ownsRow w.heap.size 25 1 (.slice (some ⟨g2, 0, none⟩) (r + 1) cap2) (r + 1) (cZ (zs ++ [(p, q)])) ∧ Below w.heap.size w w5 from ⟨by
          rw [← cZ_snoc]
          exact hown1, (H3.out.2.alloc hsz3 _).grown hgrow1 hbs (fun j hj => (Hown.out.lt j hj).1)⟩)
        clear hown1 hgrow1 hat1 hlt1
        go_wp2_with fail
        go_roundw
        case rel => exact ⟨r + 1, g2, cap2, p, q, zs ++ [(p, q)], rfl, rfl, by go_num, hrl, H5.out.1, Lib.hid ⟨by rw [List.length_append, hz.out.1]; rfl, Hf.out, Hpq.out⟩, H5.out.2⟩
        case measure => simp [intOf]; omega
    · obtain rfl : r = n := by omega
      have hrl' : ¬ (r : Int) < (r : Int) := by omega
      have Hf := Lib.hid (show trc xs (x, y) = zs by rw [hz.out.2.1, List.drop_eq_nil_of_le (by omega)]; exact List.append_nil _)
      have Hr := Lib.hid (And.intro hown hbel)
      clear hown hbel
      go_wp2_with fail
      go_ret
      exact ⟨_, rfl, by rw [Hf.out]; unfold OwnZ; rw [hz.out.1]; exact Hr.out.1, Hr.out.2⟩
end Go.Proofs.Ytpemmmnohlimmaa.Stp
