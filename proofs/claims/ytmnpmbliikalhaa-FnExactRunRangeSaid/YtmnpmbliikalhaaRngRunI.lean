/- RunRange in the program. -/
import Derived.Test.YtmnpmbliikalhaaRngSeq
namespace Go.Proofs.Ytmnpmbliikalhaa.Rng
open Go.ChangeShapes Go.WideShapes Go.ChangeAt Go.RowKit Go.Shelf Go.Deep Go.Proofs.Ytmnpmbliikalhaa Go.Proofs.Ytmnpmbliikalhaa.Flt Go.Proofs.Ytmnpmbliikalhaa.Mth Go.Proofs.Ytmnpmbliikalhaa.Sgl Go.Proofs.Ytmnpmbliikalhaa.Ils
set_option linter.unusedVariables false
attribute [local go_sem] Oper.semAt_some
theorem implRun_no (a a' : Option Addr) (len cap n cap' : Nat) (X : Nat → Nat) (k : Int) (w : World) (hl : len ≤ 1048576) (h : Lst w a len X) (hc : ¬ (hasB len X k = true ∧ n ≤ 100)) :
    Calls Try.prog 33 #[.slice a len cap, .int .i64 k, .slice a' n cap'] w fun e w' => ∃ v, e = .returned v ∧ OwnI w.heap.size w' v [] ∧ Below w.heap.size w w' := by
  have H := Lib.hid h
  clear h
  obtain ⟨c, hok⟩ : ∃ c, hasB len X k = c := ⟨_, rfl⟩
  rw [hok] at hc
  cases c
  · clear hc
    go_enter Try.func33, Try.ntmps33
    go_wp2_with fail
    refine (has_any _ _ _ X _ _ hl H.out).mono ?_
    rintro e w1 ⟨rfl, hb1⟩
    rw [hok]
    have H1 := Lib.hid hb1
    clear hb1
    go_wp2_with fail
    refine bodyPost_ret (results_tmp rfl _ _ _) rfl ?_
    exact ⟨_, rfl, World.ownsRow_nil _ _ _ _, H1.out⟩
  · have hn : (100 : Int) < n := by
      have : ¬ n ≤ 100 := fun h => hc ⟨rfl, h⟩
      omega
    clear hc
    go_enter Try.func33, Try.ntmps33
    go_wp2_with fail
    refine (has_any _ _ _ X _ _ hl H.out).mono ?_
    rintro e w1 ⟨rfl, hb1⟩
    rw [hok]
    have H1 := Lib.hid hb1
    clear hb1
    go_wp2_with fail
    refine bodyPost_ret (results_tmp rfl _ _ _) rfl ?_
    exact ⟨_, rfl, World.ownsRow_nil _ _ _ _, H1.out⟩
theorem makeI_any (n : Nat) (hn : n ≤ 100) (w : World) :
    (Instr.makeSlice 46 (.int .i64 0) (.int .i64 (n : Int))).run Try.prog w = .ok (.slice (some ⟨w.heap.size, 0, none⟩) 0 n) (w.alloc (.cells (madeCells #[.int .i64 0] n) 3)) := by
  obtain ⟨i, hi, hz, hs, hb⟩ := info_parts infoI
  have h := run_make (P := Try.prog) w 46 3 i _ Try.underlying46 hi hz .i64 .i64 0 n (by omega) (by omega) (by rw [hb]; omega) (by omega)
  rw [hs] at h
  rw [show (Value.int .i64 0).cells = #[.int .i64 0] from rfl] at h
  simpa [Nat.mul_one] using h
set_option maxRecDepth 100000 in
set_option maxHeartbeats 2000000 in
theorem implRun_yes (b off len cap n cap' : Nat) (a' : Option Addr) (X Y : Nat → Nat) (k : Nat) (w : World) (hk : k < len) (hb : b < w.heap.size) (h : Cells w b off len X) (hL : Lst w (some ⟨b, off, none⟩) len X) (ho : okB len X = true) (hhas : hasB len X (k : Int) = true) (hn : n ≤ 100) (hY : LstF w a' n Y) :
    Calls Try.prog 33 #[.slice (some ⟨b, off, none⟩) len cap, .int .i64 (k : Int), .slice a' n cap'] w fun e w' => ∃ v, e = .returned v ∧ OwnI w.heap.size w' v (runL len X Y k n) ∧ Below w.heap.size w w' := by
  have H := Lib.hid h
  have HL := Lib.hid hL
  have HY := Lib.hid hY
  have HO := Lib.hid ho
  have hl := (okB_bounds ho).2
  have hn1 : ¬ (100 : Int) < n := by omega
  have hn2 : decide ((100 : Int) < n) = false := decide_eq_false hn1
  have hmk := makeI_any n hn
  obtain ⟨i0, hi, hz0, hz1, hz2⟩ := info_parts infoI
  have Hi := Lib.hid (And.intro hi (And.intro hz0 (And.intro hz1 hz2)))
  clear h ho hL hY hi hz0 hz1 hz2
  refine (callsIn_wide (n := 3)).1 ?_
  refine callsIn_of_wp_marks Try.func33 rfl trivial ?_ rfl
  simp only [Try.ntmps33, List.size_toArray, List.length_cons, List.length_nil, Nat.reduceAdd, Nat.reduceSub, Array.replicate_succ, Array.replicate_zero, List.push_toArray, List.append_toArray, List.nil_append, List.cons_append]
  gi_wp2_with (first
    | (refine ⟨trivial, ?_⟩; gi_at_call 48; refine (callsIn_wide.2 (has_any _ _ _ X _ w (by omega) HL.out)).mono ?_; rintro e w1 ⟨rfl, hb1⟩; rw [hhas]; have H1 := Lib.hid hb1; clear hb1)
    | (refine ⟨trivial, ?_⟩; gi_at_call 57; refine (settled_in 2 _ _ _ _ _ _ _ _).mono ?_; rintro e w' ⟨rfl, rfl⟩))
  have hS : w.heap.size ≤ w1.heap.size := H1.out.size
  have hbt : ∀ j, w1.heap.size + 1 + 1 + j < w1.heap.size + 1 + 1 + j + 1 := fun j => Nat.lt_succ_self _
  have bO := Boxed.new (w1.alloc (.cells (madeCells #[.int .i64 0] n) 3)) 46 (.slice (some ⟨w1.heap.size, 0, none⟩) 0 n)
  have bL := Boxed.new ((w1.alloc (.cells (madeCells #[.int .i64 0] n) 3)).alloc (.cells #[.slice (some ⟨w1.heap.size, 0, none⟩) 0 n] 46)) 62 (.slice (some ⟨b, off, none⟩) len cap)
  have bA := Boxed.new (((w1.alloc (.cells (madeCells #[.int .i64 0] n) 3)).alloc (.cells #[.slice (some ⟨w1.heap.size, 0, none⟩) 0 n] 46)).alloc (.cells #[.slice (some ⟨b, off, none⟩) len cap] 62)) 3 (.int .i64 (k : Int))
  have bX := Boxed.new ((((w1.alloc (.cells (madeCells #[.int .i64 0] n) 3)).alloc (.cells #[.slice (some ⟨w1.heap.size, 0, none⟩) 0 n] 46)).alloc (.cells #[.slice (some ⟨b, off, none⟩) len cap] 62)).alloc (.cells #[.int .i64 (k : Int)] 3)) 45 (.slice a' n cap')
  simp only [World.size_alloc] at bO bL bA bX
  have bO5 := ((bO.alloc (.cells #[.slice (some ⟨b, off, none⟩) len cap] 62)).alloc (.cells #[.int .i64 (k : Int)] 3)).alloc (.cells #[.slice a' n cap'] 45)
  have bL5 := (bL.alloc (.cells #[.int .i64 (k : Int)] 3)).alloc (.cells #[.slice a' n cap'] 45)
  have bA5 := bA.alloc (.cells #[.slice a' n cap'] 45)
  have hrow0 : (w1.alloc (.cells (madeCells #[.int .i64 0] n) 3)).ownsRow w.heap.size 3 1 (.slice (some ⟨w1.heap.size, 0, none⟩) 0 n) 0 [] := World.ownsRow_made w1 _ n hS (by unfold maxLen; omega) (by rw [size_madeCells]; omega)
  have hrow5 := (((hrow0.alloc (.cells #[.slice (some ⟨w1.heap.size, 0, none⟩) 0 n] 46)).alloc (.cells #[.slice (some ⟨b, off, none⟩) len cap] 62)).alloc (.cells #[.int .i64 (k : Int)] 3)).alloc (.cells #[.slice a' n cap'] 45)
  have hB5 := ((((H1.out.alloc hS (.cells (madeCells #[.int .i64 0] n) 3)).alloc (by simp only [World.size_alloc]; omega) (.cells #[.slice (some ⟨w1.heap.size, 0, none⟩) 0 n] 46)).alloc (by simp only [World.size_alloc]; omega) (.cells #[.slice (some ⟨b, off, none⟩) len cap] 62)).alloc (by simp only [World.size_alloc]; omega) (.cells #[.int .i64 (k : Int)] 3)).alloc (by simp only [World.size_alloc]; omega) (.cells #[.slice a' n cap'] 45)
  have hsz5 : (((((w1.alloc (.cells (madeCells #[.int .i64 0] n) 3)).alloc (.cells #[.slice (some ⟨w1.heap.size, 0, none⟩) 0 n] 46)).alloc (.cells #[.slice (some ⟨b, off, none⟩) len cap] 62)).alloc (.cells #[.int .i64 (k : Int)] 3)).alloc (.cells #[.slice a' n cap'] 45)).heap.size = w1.heap.size + 1 + 1 + 1 + 1 + 1 := by simp only [World.size_alloc]
  obtain ⟨W5, hW5⟩ : ∃ W5, ((((w1.alloc (.cells (madeCells #[.int .i64 0] n) 3)).alloc (.cells #[.slice (some ⟨w1.heap.size, 0, none⟩) 0 n] 46)).alloc (.cells #[.slice (some ⟨b, off, none⟩) len cap] 62)).alloc (.cells #[.int .i64 (k : Int)] 3)).alloc (.cells #[.slice a' n cap'] 45) = W5 := ⟨_, rfl⟩
  rw [hW5] at bO5 bL5 bA5 bX hrow5 hB5 hsz5 ⊢
  clear hW5 bO bL bA hrow0
  obtain ⟨S, hSS⟩ : ∃ S, w1.heap.size = S := ⟨_, rfl⟩
  rw [hSS] at bO5 bL5 bA5 bX hrow5 hsz5 hS ⊢
  clear hSS hbt H1 w1
  have hY5 : WfF n Y ∧ (n = 0 ∨ ∃ b' off', a' = some ⟨b', off', none⟩ ∧ b' < w.heap.size ∧ CellsF W5 b' off' n Y) := ⟨HY.out.1, HY.out.2.imp id (fun ⟨b', off', e, hlb, hc⟩ => ⟨b', off', e, hlb, hc.keep hlb hB5⟩)⟩
  refine wpIn_rangeFunc_ownG rfl (by omega) (gf := 65) rfl trivial (enters_of Try.func65 (by kernel_rfl) rfl)
    (settled_stops 2 (by omega) (S + 1 + 1 + 1) (S + 1 + 1 + 2) (S + 1 + 1) w.heap.size b off len cap n cap' k a' X Y hk HO.out hb hn W5 (by omega) (by omega) (by omega) (by omega) bA5.cell bX.cell bL5.cell (H.out.keep hb hB5) hY5)
    Kps.trans (Kps.put (by omega) (by omega)) (Below.refl _ _) (fun _ => rfl)
    (fun pre W => (∃ v, Boxed W (S + 1) 46 v ∧ W.ownsRow w.heap.size 3 1 v pre.length (intV pre) ∧ v = .slice (some ⟨S, 0, none⟩) pre.length n) ∧ Below w.heap.size w W ∧ S + 1 + 1 < W.heap.size)
    (fun _ _ _ => False)
    (OwnFrom.and (Own.from (holdsRow_own w.heap.size (S + 1) 46 3 1 (fun pre => pre.length) (fun pre => intV pre) (fun pre v => v = .slice (some ⟨S, 0, none⟩) pre.length n)) _) (OwnFrom.and (ownFrom_below (Nat.le_refl _) (by omega)) (fun s A B row hs hg _ => Nat.lt_of_lt_of_le hs hg.size)))
    (fun _ _ _ _ _ hs _ _ => hs)
    ⟨⟨_, bO5, hrow5, rfl⟩, hB5, by omega⟩
    (fun x => { tmps := #[.slice (some ⟨b, off, none⟩) len cap, .int .i64 (k : Int), .slice a' n cap', undef, undef, undef, .slice none 0 0, .pointer (some ⟨S + 1, 0, none⟩), .int .i64 x, .slice (some ⟨b, off, none⟩) len cap, .int .i64 (k : Int), .bool true, .bool false, .bool false, .slice a' n cap', .int .i64 (n : Int), .bool false, .bool false, .slice a' n cap', .int .i64 (n : Int), .slice (some ⟨S, 0, none⟩) 0 n, .slice (some ⟨b, off, none⟩) len cap, .int .i64 (k : Int), .slice a' n cap', .func (.func 65) #[] #[.pointer (some ⟨S + 1 + 1 + 1, 0, none⟩), .pointer (some ⟨S + 1 + 1 + 2, 0, none⟩), .pointer (some ⟨S + 1 + 1, 0, none⟩)], .int .i64 x, undef, undef, undef, undef, undef], defers := [] }) ?assign ?body ?done ?stop
  case assign =>
    intro l x W K hK
    gi_wp2
    exact hK
  case body =>
    rintro l pre x W ⟨⟨v, hv, hrow, hve⟩, hB, hBl⟩ hlt
    subst hve
    have hc := hv.cell
    gi_wp2_with (gi_at_builtin; refine wpListIn_append_fits _ rfl _ _ 46 rfl w.heap.size 3 i0 1 Try.underlying46 Hi.out.1 Hi.out.2.2.1 S pre.length n (intV pre) rfl (hrow.alloc _) ⟨W.heap.size, 0, none⟩ 1 1 [.int .i64 x] rfl rfl (one_cellI _ _) (one_oneI _) (by omega) ?_; intro w2 hown' hgrow; obtain ⟨hv1, hv2, hr2, hk2, hb2⟩ := hv.appended (by decide) hrow hB.size (by omega) hown' hgrow; have hc1 := hv1.cell; have hf1 := hv1.frozen)
    have hsW := World.size_alloc W (.cells #[.int .i64 x] 3)
    have hs2 := hgrow.size
    have hg3 := grownBy_setCell' w2 (S + 1) (.slice (some ⟨S, 0, none⟩) (pre.length + 1) n)
    have hs3 := hg3.size
    have q1 := (World.grownBy_alloc W (.cells #[.int .i64 x] 3) none).block (S + 1 + 1) hBl (fun e => by cases e)
    have q2 := hgrow.block (S + 1 + 1) (by omega) (fun e => by injection e with e; omega)
    have q3 := hg3.block (S + 1 + 1) (by omega) (fun e => by injection e with e; omega)
    have hlen : (pre ++ [x]).length = pre.length + 1 := by simp
    have hint : intV (pre ++ [x]) = intV pre ++ [.int .i64 x] := by unfold intV; rw [List.map_append]; rfl
    refine ⟨hk2.from _, ⟨hb2, q3.trans (q2.trans q1)⟩, ⟨_, hv2, ?_, ?_⟩, hB.trans hb2, by omega⟩
    · rw [hlen, hint]; exact hr2
    · rw [hlen]
  case done =>
    rintro D ys W hD rfl ⟨⟨v, hv, hrow, hve⟩, hB, _⟩ hK
    subst hve
    have hc := hv.cell
    gi_wp2
    refine ⟨by simp, .inl ⟨_, _, rfl, run_takeDeferred hK, ?_⟩⟩
    refine ⟨_, results_tmp rfl _ _ _, .slice (some ⟨S, 0, none⟩) (runL len X Y k n).length n, rfl, ?_, ?_⟩
    · exact ownsRow_putObj hrow _ hK rfl
    exact (hB.trans (belowK_b (w := w) (Nat.le_refl _) W D _ _ (by omega) hK rfl rfl))
  case stop =>
    rintro D c pre W _ _ h _
    exact h.elim
theorem implRun (a a' : Option Addr) (len cap n cap' : Nat) (X Y : Nat → Nat) (k : Int) (w : World) (hl : len ≤ 1048576) (h : Lst w a len X) (hY : LstF w a' n Y) :
    Calls Try.prog 33 #[.slice a len cap, .int .i64 k, .slice a' n cap'] w fun e w' => ∃ v, e = .returned v ∧ OwnI w.heap.size w' v (runV len X k Y n) ∧ Below w.heap.size w w' := by
  by_cases hc : hasB len X k = true ∧ n ≤ 100
  · obtain ⟨ho, m, rfl, hm⟩ := hasB_at hc.1
    rw [runV_yes hc.1 hc.2]
    obtain ⟨b, off, rfl, hlt, hcells⟩ := h.cells (by omega)
    exact implRun_yes b off len cap n cap' a' X Y m w hm hlt hcells h ho hc.1 hc.2 hY
  · rw [runV_no hc]
    exact implRun_no a a' len cap n cap' X k w hl h hc
end Go.Proofs.Ytmnpmbliikalhaa.Rng
