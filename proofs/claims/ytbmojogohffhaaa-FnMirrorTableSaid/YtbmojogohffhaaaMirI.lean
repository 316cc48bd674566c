/- MirrorTable in the program. -/
import Derived.Test.YtbmojogohffhaaaMirQ
namespace Go.Proofs.Ytbmojogohffhaaa.Pnt
open Go.ChangeShapes Go.WideShapes Go.ChangeAt Go.RowKit Go.Shelf Go.Deep Go.Proofs.Ytbmojogohffhaaa Go.Proofs.Ytbmojogohffhaaa.Flt Go.Proofs.Ytbmojogohffhaaa.Mth
set_option linter.unusedVariables false
attribute [local go_sem] Oper.semAt_some
theorem implMir_no (a : Option Addr) (len cap : Nat) (X : Nat → Nat) (w : World) (hl : len ≤ 1048576) (h : Lst w a len X) (hok : okP len X = false) :
    Calls Try.prog 22 #[.slice a len cap] w fun e w' => ∃ v, e = .returned (.tuple #[v, .bool (okP len X)]) ∧ OwnQ w.heap.size w' v (mirN len X) (mirX len X) ∧ Below w.heap.size w w' := by
  have H := Lib.hid h
  clear h
  rw [hok]
  have Hf := Lib.hid (show mirN len X = 0 by unfold mirN; rw [if_neg (by rw [hok]; exact Bool.false_ne_true)])
  have Hok := Lib.hid hok
  clear hok
  go_enter Try.func22, Try.ntmps22
  go_wp2_with fail
  refine (implTab _ _ _ X _ hl H.out).mono ?_
  rintro e w1 ⟨rfl, hb1⟩
  rw [Hok.out]
  have H1 := Lib.hid hb1
  clear hb1
  go_wp2_with fail
  go_ret2
  exact ⟨_, rfl, by rw [Hf.out]; exact nilQ _ _ _, H1.out⟩
/-- the mirrored cells of the places that were visited -/
def negs (X : Nat → Nat) (pre : List Nat) : List Value := pre.flatMap fun q => [.float .f32 (Op.negFloat .f32 (X (q * 2))), .float .f32 (Op.negFloat .f32 (X (q * 2 + 1)))]
theorem negs_snoc (X : Nat → Nat) (pre : List Nat) (q : Nat) : negs X (pre ++ [q]) = negs X pre ++ [.float .f32 (Op.negFloat .f32 (X (q * 2))), .float .f32 (Op.negFloat .f32 (X (q * 2 + 1)))] := by
  simp [negs, List.flatMap_append]
theorem negs_bwd (X : Nat → Nat) (len : Nat) : ∀ i, negs X (bwd len i) = flat (mirX len X) (i * 2)
  | 0 => rfl
  | i + 1 => by
    rw [bwd_snoc, negs_snoc, negs_bwd X len i, flat_two]
    obtain ⟨e0, e1⟩ := mirX_at len X i
    rw [e0, e1]
set_option maxRecDepth 100000 in
set_option maxHeartbeats 2000000 in
theorem implMir_yes (b off len cap : Nat) (X : Nat → Nat) (w : World) (hb : b < w.heap.size) (hL : Lst w (some ⟨b, off, none⟩) len X) (hok : okP len X = true) (h : Cells w b off len X) :
    Calls Try.prog 22 #[.slice (some ⟨b, off, none⟩) len cap] w fun e w' => ∃ v, e = .returned (.tuple #[v, .bool true]) ∧ OwnQ w.heap.size w' v len (mirX len X) ∧ Below w.heap.size w w' := by
  have H := Lib.hid h
  have HL := Lib.hid hL
  have hl := (okP_bounds hok).2
  have HO := Lib.hid hok
  have hmk := make0_any len (by omega)
  obtain ⟨i0, hi, hz0, hz1, hz2⟩ := info_partsP
  have Hi := Lib.hid (And.intro hi (And.intro hz0 (And.intro hz1 hz2)))
  clear h hL hi hz0 hz1 hz2 hok
  refine (callsIn_wide (n := 3)).1 ?_
  refine callsIn_of_wp_marks Try.func22 rfl trivial ?_ rfl
  simp only [Try.ntmps22, List.size_toArray, List.length_cons, List.length_nil, Nat.reduceAdd, Nat.reduceSub, Array.replicate_succ, Array.replicate_zero, List.push_toArray, List.append_toArray, List.nil_append, List.cons_append]
  gi_wp2_with (first
    | (refine ⟨trivial, ?_⟩; gi_at_call 17; refine (callsIn_wide.2 (implTab _ _ _ X w (by omega) HL.out)).mono ?_; rintro e w1 ⟨rfl, hb1⟩; rw [HO.out]; have H1 := Lib.hid hb1; clear hb1)
    | (refine ⟨trivial, ?_⟩; gi_at_call 57; refine (back_in 2 _ _ _ _).mono ?_; rintro e w' ⟨rfl, rfl⟩))
  have hS : w.heap.size ≤ w1.heap.size := H1.out.size
  have bO := Boxed.new (w1.alloc (.cells (madeCells #[.float .f32 0, .float .f32 0] (len * 2)) 32)) 24 (.slice (some ⟨w1.heap.size, 0, none⟩) 0 len)
  have bL := Boxed.new ((w1.alloc (.cells (madeCells #[.float .f32 0, .float .f32 0] (len * 2)) 32)).alloc (.cells #[.slice (some ⟨w1.heap.size, 0, none⟩) 0 len] 24)) 24 (.slice (some ⟨b, off, none⟩) len cap)
  simp only [World.size_alloc] at bO bL
  have bO5 := bO.alloc (.cells #[.slice (some ⟨b, off, none⟩) len cap] 24)
  have hrow5 := ((World.ownsRow.mono (made0 len (by omega) w1) hS).alloc (.cells #[.slice (some ⟨w1.heap.size, 0, none⟩) 0 len] 24)).alloc (.cells #[.slice (some ⟨b, off, none⟩) len cap] 24)
  have hB5 := ((H1.out.alloc hS (.cells (madeCells #[.float .f32 0, .float .f32 0] (len * 2)) 32)).alloc (by simp only [World.size_alloc]; omega) (.cells #[.slice (some ⟨w1.heap.size, 0, none⟩) 0 len] 24)).alloc (by simp only [World.size_alloc]; omega) (.cells #[.slice (some ⟨b, off, none⟩) len cap] 24)
  have hsz5 : (((w1.alloc (.cells (madeCells #[.float .f32 0, .float .f32 0] (len * 2)) 32)).alloc (.cells #[.slice (some ⟨w1.heap.size, 0, none⟩) 0 len] 24)).alloc (.cells #[.slice (some ⟨b, off, none⟩) len cap] 24)).heap.size = w1.heap.size + 1 + 1 + 1 := by simp only [World.size_alloc]
  obtain ⟨W5, hW5⟩ : ∃ W5, ((w1.alloc (.cells (madeCells #[.float .f32 0, .float .f32 0] (len * 2)) 32)).alloc (.cells #[.slice (some ⟨w1.heap.size, 0, none⟩) 0 len] 24)).alloc (.cells #[.slice (some ⟨b, off, none⟩) len cap] 24) = W5 := ⟨_, rfl⟩
  rw [hW5] at bO5 bL hrow5 hB5 hsz5 ⊢
  clear hW5 bO
  obtain ⟨S, hSS⟩ : ∃ S, w1.heap.size = S := ⟨_, rfl⟩
  rw [hSS] at bO5 bL hrow5 hsz5 hS ⊢
  clear hSS H1 w1
  refine wpIn_rangeFunc_ownH rfl (by omega) (gf := 72) rfl trivial (enters_of Try.func72 (by kernel_rfl) rfl)
    (back_stops 2 (by omega) (S + 1 + 1) w.heap.size b off len cap X hb (by omega) W5 (by omega) (by omega) bL.cell (H.out.keep hb hB5))
    Kps.trans (Kps.put (by omega) (by omega)) (Below.refl _ _) (fun _ => rfl)
    (fun pre W => (∃ v, Boxed W (S + 1) 24 v ∧ W.ownsRow w.heap.size 32 2 v pre.length (negs X pre) ∧ v = .slice (some ⟨S, 0, none⟩) pre.length len) ∧ Below w.heap.size w W ∧ S + 1 + 1 < W.heap.size)
    (fun _ _ _ => False)
    (OwnFrom.and (Own.from (holdsRow_own w.heap.size (S + 1) 24 32 2 (fun pre => pre.length) (fun pre => negs X pre) (fun pre v => v = .slice (some ⟨S, 0, none⟩) pre.length len)) _) (OwnFrom.and (ownFrom_below (Nat.le_refl _) (by omega)) (fun s A B row hs hg _ => Nat.lt_of_lt_of_le hs hg.size)))
    (fun _ _ _ _ _ hs _ _ => hs)
    ⟨⟨_, bO5, hrow5, rfl⟩, hB5, by omega⟩
    (fun q a' W => ∃ p, a' = { tmps := #[.slice (some ⟨b, off, none⟩) len cap, undef, .slice none 0 0, .bool false, .pointer (some ⟨S + 1, 0, none⟩), undef, .pointer (some ⟨p, 0, none⟩), .slice (some ⟨b, off, none⟩) len cap, .bool true, .bool false, .slice (some ⟨b, off, none⟩) len cap, .int .i64 (len : Int), .slice (some ⟨S, 0, none⟩) 0 len, .slice (some ⟨b, off, none⟩) len cap, .func (.func 72) #[] #[.pointer (some ⟨S + 1 + 1, 0, none⟩)], .int .i64 (q : Int), .agg #[.float .f32 (X (q * 2)), .float .f32 (X (q * 2 + 1))], undef, undef, undef, undef, undef, undef, undef, undef, undef, undef, undef], defers := [] } ∧ W.heap[p]? = some (.cells #[.float .f32 (X (q * 2)), .float .f32 (X (q * 2 + 1))] 32 (0, 0)))
    ?keepsA ?assign ?body ?done ?stop
  case keepsA =>
    rintro q a' _ W W' row ⟨p, e, hb⟩ hg hr
    refine ⟨p, e, (hg.block p (lt_of_block hb) (fun e' => ?_)).trans hb⟩
    obtain ⟨_, o, ho, hc⟩ := hr p e'.symm
    rw [hb] at ho
    cases ho
    cases hc
  case assign =>
    intro l pre q W K hI hK
    have hI' := hI
    obtain ⟨_, hB, hBl⟩ := hI
    have hszW := hB.size
    have Hk := Lib.hid (fun a' h => hK a' (W.alloc (.cells #[.float .f32 (X (q * 2)), .float .f32 (X (q * 2 + 1))] 32))
      (KeepsFrom.of_grownBy (World.grownBy_alloc W _ none) (fun j e => by cases e))
      (Kps.call hszW hBl ((Below.refl _ W).alloc (Nat.le_refl _) _))
      (OwnFrom.alloc (OwnFrom.and (Own.from (holdsRow_own w.heap.size (S + 1) 24 32 2 (fun pre => pre.length) (fun pre => negs X pre) (fun pre v => v = .slice (some ⟨S, 0, none⟩) pre.length len)) W5.heap.size) (OwnFrom.and (ownFrom_below (Nat.le_refl _) (by omega)) (fun s A B row hs hg _ => Nat.lt_of_lt_of_le hs hg.size))) _ hI') h)
    clear hK hI' hB hBl hszW
    simp only [yv]
    gi_wp2
    exact Hk.out _ ⟨W.heap.size, rfl, World.alloc_heap_new W _⟩
  case body =>
    rintro l pre q a' W _ _ ⟨⟨v, hv, hrow, hve⟩, hB, hBl⟩ ⟨p, rfl, hp⟩ hlt
    subst hve
    have hc := hv.cell
    have hp0 : W.cell? ⟨p, 0, none⟩ = some (.float .f32 (X (q * 2))) := cell_of_row W p 0 #[.float .f32 (X (q * 2)), .float .f32 (X (q * 2 + 1))] 32 (0, 0) hp
    have hp1 : W.cell? ⟨p, 1, none⟩ = some (.float .f32 (X (q * 2 + 1))) := cell_of_row W p 1 #[.float .f32 (X (q * 2)), .float .f32 (X (q * 2 + 1))] 32 (0, 0) hp
    obtain ⟨nx, hnx⟩ : ∃ nx, Op.negFloat .f32 (X (q * 2)) = nx := ⟨_, rfl⟩
    obtain ⟨ny, hny⟩ : ∃ ny, Op.negFloat .f32 (X (q * 2 + 1)) = ny := ⟨_, rfl⟩
    have hnl : (negs X pre ++ [.float .f32 nx, .float .f32 ny]) = negs X (pre ++ [q]) := by rw [negs_snoc, hnx, hny]
    clear hp
    gi_wp2_with (gi_at_builtin; refine wpListIn_append_fits _ rfl _ _ 24 rfl w.heap.size 32 i0 2 Try.underlying24 Hi.out.1 Hi.out.2.2.1 S pre.length len (negs X pre) rfl (hrow.alloc _) ⟨W.heap.size, 0, none⟩ 1 1 [.float .f32 nx, .float .f32 ny] rfl rfl (one_cellP _ _ _) (one_oneP _ _) (by omega) ?_; intro w2 hown' hgrow; obtain ⟨hv1, hv2, hr2, hk2, hb2⟩ := hv.appended (by decide) hrow hB.size (by omega) hown' hgrow; have hc1 := hv1.cell; have hf1 := hv1.frozen)
    have hsW := World.size_alloc W (.cells #[.float .f32 nx, .float .f32 ny] 32)
    have hs2 := hgrow.size
    have hg3 := grownBy_setCell' w2 (S + 1) (.slice (some ⟨S, 0, none⟩) (pre.length + 1) len)
    have hs3 := hg3.size
    have q1 := (World.grownBy_alloc W (.cells #[.float .f32 nx, .float .f32 ny] 32) none).block (S + 1 + 1) hBl (fun e => by cases e)
    have q2 := hgrow.block (S + 1 + 1) (by omega) (fun e => by injection e with e; omega)
    have q3 := hg3.block (S + 1 + 1) (by omega) (fun e => by injection e with e; omega)
    have hlen : (pre ++ [q]).length = pre.length + 1 := by simp
    refine ⟨hk2.from _, ⟨hb2, q3.trans (q2.trans q1)⟩, ⟨_, hv2, ?_, ?_⟩, hB.trans hb2, by omega⟩
    · rw [hlen, ← hnl]; exact hr2
    · rw [hlen]
  case done =>
    rintro D ys W hD rfl ⟨⟨v, hv, hrow, hve⟩, hB, _⟩ hK
    subst hve
    have hc := hv.cell
    rw [bwd_len] at hrow hc
    gi_wp2
    refine ⟨by simp, .inl ⟨_, _, rfl, run_takeDeferred hK, ?_⟩⟩
    refine ⟨_, results_tmp2 rfl _ _ _, .slice (some ⟨S, 0, none⟩) len len, rfl, ?_, ?_⟩
    · unfold OwnQ
      rw [← negs_bwd]
      exact ownsRow_putObj hrow _ hK rfl
    exact (hB.trans (belowK_b (w := w) (Nat.le_refl _) W D _ _ (by omega) hK rfl rfl))
  case stop =>
    rintro D c pre W _ _ h _
    exact h.elim
theorem implMir (a : Option Addr) (len cap : Nat) (X : Nat → Nat) (w : World) (hl : len ≤ 1048576) (h : Lst w a len X) :
    Calls Try.prog 22 #[.slice a len cap] w fun e w' => ∃ v, e = .returned (.tuple #[v, .bool (okP len X)]) ∧ OwnQ w.heap.size w' v (mirN len X) (mirX len X) ∧ Below w.heap.size w w' := by
  cases hok : okP len X
  · have := implMir_no a len cap X w hl h hok
    rw [hok] at this
    exact this
  · obtain ⟨b, off, rfl, hlt, hcells⟩ := h.cells (by have := okP_bounds hok; omega)
    have := implMir_yes b off len cap X w hlt h hok hcells
    rw [show mirN len X = len by unfold mirN; rw [if_pos hok]]
    exact this
end Go.Proofs.Ytbmojogohffhaaa.Pnt
