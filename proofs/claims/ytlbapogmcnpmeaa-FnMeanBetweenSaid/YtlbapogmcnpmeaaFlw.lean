/- Lists of singles of a call's own, at a seat that has neither ranges nor points: their content by index; comparison but for the bits of NaNs, marks, held marks; append by its run. -/
import Derived.Test.YtlbapogmcnpmeaaFls
import Derived.Test.YtlbapogmcnpmeaaOld
import Derived.Test.YtlbapogmcnpmeaaLin
import Derived.Handy
import Derived.Laws.OwnMore
import Derived.OwnWalk
import Derived.Deep.AppendLies
namespace Go.Proofs.Ytlbapogmcnpmeaa.Sgl
open Go.ChangeShapes Go.WideShapes Go.ChangeAt Go.RowKit Go.Deep Go.Proofs.Ytlbapogmcnpmeaa Go.Proofs.Ytlbapogmcnpmeaa.Flt Go.Proofs.Ytlbapogmcnpmeaa.Mth
open Ieee (single double)
set_option linter.unusedVariables false
/-- the first 'm' cells -/
def flat (X : Nat → Nat) (m : Nat) : List Value := (List.range m).map fun j => .float .f32 (X j)
theorem flat_len (X : Nat → Nat) (m : Nat) : (flat X m).length = m := by simp [flat]
theorem flat_at {X : Nat → Nat} {m j : Nat} (h : j < m) : (flat X m)[j]? = some (.float .f32 (X j)) := by
  unfold flat
  rw [List.getElem?_map, List.getElem?_range h]; rfl
theorem flat_congr {X Y : Nat → Nat} {m : Nat} (h : ∀ j, j < m → X j = Y j) : flat X m = flat Y m := by
  unfold flat
  exact List.map_congr_left fun j hj => by rw [h j (by simpa using hj)]
theorem flat_snoc (X : Nat → Nat) (m : Nat) : flat X (m + 1) = flat X m ++ [.float .f32 (X m)] := by
  simp [flat, List.range_succ]
/-- one cell is written anew -/
def upd (X : Nat → Nat) (i x : Nat) : Nat → Nat := fun j => if j = i then x else X j
theorem flat_set (X : Nat → Nat) (m i x : Nat) : (flat X m).set i (.float .f32 x) = flat (upd X i x) m := by
  apply List.ext_getElem?
  intro j
  rw [List.getElem?_set]
  by_cases hj : j < m
  · rw [flat_at (X := upd X i x) hj]
    by_cases e : i = j
    · rw [if_pos e, if_pos (by rw [flat_len]; omega), show upd X i x j = x from if_pos e.symm]
    · rw [if_neg e, show upd X i x j = X j from if_neg (Ne.symm e), flat_at hj]
  · have h1 : (flat X m)[j]? = none := by rw [List.getElem?_eq_none]; rw [flat_len]; omega
    have h2 : (flat (upd X i x) m)[j]? = none := by rw [List.getElem?_eq_none]; rw [flat_len]; omega
    rw [h1, h2]
    split
    · rw [if_neg]
      rename_i e
      rw [flat_len]; omega
    · rfl
/-- a list of singles of the call's own -/
def OwnF (base : Nat) (w : World) (v : Value) (n : Nat) (X : Nat → Nat) : Prop := w.ownsRow base 30 1 v n (flat X n)
theorem own_below {base e size n B : Nat} {w w' : World} {v : Value} {xs : List Value} (h : w.ownsRow base e size v n xs) (hB : w.heap.size ≤ B) (hb : Below B w w') : w'.ownsRow base e size v n xs := by
  refine ⟨h.1, ?_⟩
  rcases h.2 with hn | ⟨g, cap, cur, rfl, hbg, hg, rest⟩
  · exact .inl hn
  · exact .inr ⟨g, cap, cur, rfl, hbg, (hb.block g (Nat.lt_of_lt_of_le (lt_of_block hg) hB)).trans hg, rest⟩
/-- the marks -/
def mkF (j : Nat) : Nat := fl ((j + 1 : Nat) : Int)
theorem fl_eq (k : Int) (h : isNaN single (fl k) = false) : (FloatKind.f32.format.order (fl k) (fl k) != some .eq) = false := by
  rw [bne, eq32, eqW_self, h]; rfl
theorem fl_num (k : Int) : isNaN single (fl k) = false := by
  unfold fl
  rw [ofInt32]
  exact word_nan single _ (Nat.min_le_right _ _)
/-- 'Y' laid over 'Z' from cell 'o' on, 'L' cells -/
def spl (Z : Nat → Nat) (o : Nat) (Y : Nat → Nat) (L : Nat) : Nat → Nat := fun j => if o ≤ j ∧ j < o + L then Y (j - o) else Z j
theorem flat_one (Y : Nat → Nat) (L : Nat) : ∀ v ∈ flat Y L, v.oneCell' = true := by
  intro v hv
  unfold flat at hv
  rw [List.mem_map] at hv
  obtain ⟨j, _, rfl⟩ := hv
  rfl
theorem addr_add (g o j : Nat) : (⟨g, o, none⟩ : Addr).add j = ⟨g, o + j, none⟩ := by unfold Addr.add; split <;> simp_all
theorem spl_eq (Z : Nat → Nat) (o : Nat) (Y : Nat → Nat) (L j : Nat) : spl Z o Y L j = if o ≤ j ∧ j < o + L then Y (j - o) else Z j := rfl
theorem own_mono {base b e size n : Nat} {w : World} {v : Value} {xs : List Value} (h : w.ownsRow b e size v n xs) (hb : base ≤ b) : w.ownsRow base e size v n xs := by
  refine ⟨h.1, ?_⟩
  rcases h.2 with hn | ⟨g, cap, cur, e', hb', rest⟩
  · exact .inl hn
  · exact .inr ⟨g, cap, cur, e', Nat.le_trans hb hb', rest⟩
/-- what an operation gives, at every world -/
def opX (op : BinOp) (x y : Nat) (w : World) : Nat := match floatBits op .f32 x y with
  | some r => r
  | none => (Question.nanBits .f32 x y).cut (w.tape w.drawn (.nanBits .f32 x y))
def odr (op : BinOp) (x y : Nat) : Nat := match floatBits op .f32 x y with
  | some _ => 0
  | none => 1
theorem run_opX {P : Program} (op : BinOp) (hop : op = .add ∨ op = .sub ∨ op = .mul ∨ op = .quo) (t : TypeId) (x y : Nat) (w : World) :
    (binOp op t (.float .f32 x) (.float .f32 y)).run P w = .ok (.float .f32 (opX op x y w)) (w.drewN (odr op x y)) := by
  unfold opX odr
  cases h : floatBits op .f32 x y with
  | some r => exact run_float_arith w op t .f32 x y r h
  | none =>
    have hf : (Question.nanBits .f32 x y).forced = false := rfl
    unfold floatBits at h
    rcases hop with rfl | rfl | rfl | rfl <;> simp only at h <;> simp [binOp, Op.floatArith, h, hf] <;> rfl
/-- the same word, or two NaNs -/
def Sim (a b : Nat) : Prop := a = b ∨ (isNaN single a = true ∧ isNaN single b = true)
theorem Sim.rfl' (a : Nat) : Sim a a := .inl rfl
theorem Sim.symm {a b : Nat} (h : Sim a b) : Sim b a := h.elim (fun e => .inl e.symm) (fun ⟨p, q⟩ => .inr ⟨q, p⟩)
theorem Sim.trans {a b c : Nat} (h : Sim a b) (k : Sim b c) : Sim a c := by
  rcases h with rfl | ⟨p, q⟩
  · exact k
  · rcases k with rfl | ⟨_, s⟩
    · exact .inr ⟨p, q⟩
    · exact .inr ⟨p, s⟩
def opV (op : BinOp) (x y : Nat) : Nat := (floatBits op .f32 x y).getD 2143289344
theorem opX_sim (op : BinOp) (x y : Nat) (w : World) : Sim (opX op x y w) (opV op x y) := by
  unfold opX opV
  cases h : floatBits op .f32 x y with
  | some r => exact .inl rfl
  | none => exact .inr ⟨(nan32_isNaN (w.tape w.drawn (.nanBits .f32 x y))).1, by decide⟩
theorem opV_wf (op : BinOp) (x y : Nat) : (Lit.float .f32 (opV op x y)).wf = true := by
  unfold opV
  cases h : floatBits op .f32 x y with
  | some r => exact floatBits_wf h
  | none => decide
theorem opX_wf (op : BinOp) (x y : Nat) (w : World) : (Lit.float .f32 (opX op x y w)).wf = true := by
  unfold opX
  cases h : floatBits op .f32 x y with
  | some r => exact floatBits_wf h
  | none =>
    have := (nan32_isNaN (w.tape w.drawn (.nanBits .f32 x y))).2
    rw [width_single] at this
    exact wf_single this
theorem sim_fin {a b : Nat} (h : Sim a b) (ha : finB a = true) : a = b := by
  rcases h with e | ⟨p, q⟩
  · exact e
  · rw [fin_num ha] at p; cases p
theorem sameW_sim {a b : Nat} (h : Sim a b) : sameW single a b = true := by
  rcases h with rfl | ⟨p, q⟩
  · exact sameW_refl _ _
  · unfold sameW
    rw [p, q]; rfl
theorem same_simw {x x' r s : Nat} (wx : (Lit.float .f32 x).wf = true) (wx' : (Lit.float .f32 x').wf = true) (h : Sim x x') (hr : Wid x r) (hs' : Wid x' s) (w : World) :
    Calls Try.prog 19 #[.float .f64 r, .float .f64 s] w fun e w' => e = .returned (.bool true) ∧ w' = w := by
  refine (sameFloat_any r s w hr.1 hs'.1).mono ?_
  rintro e w' ⟨rfl, rfl⟩
  rw [sameW_wid wx wx' hr hs', sameW_sim h]
  exact ⟨rfl, rfl⟩
set_option maxHeartbeats 400000 in
theorem eqFS_any (b off c off' len cap cap' : Nat) (X X' : Nat → Nat) (w : World) (hl : len ≤ 1048576) (hb : b < w.heap.size) (hc : c < w.heap.size) (h1 : CellsF w b off len X) (h2 : CellsF w c off' len X') (hw : WfF len X) (hw' : WfF len X') (hsim : ∀ i, i < len → Sim (X i) (X' i)) :
    Calls Try.prog 20 #[.slice (some ⟨b, off, none⟩) len cap, .slice (some ⟨c, off', none⟩) len cap'] w fun e w' => e = .returned (.bool true) ∧ Below w.heap.size w w' := by
  have H1 := Lib.hid h1
  have H2 := Lib.hid h2
  have HW := Lib.hid (And.intro hw (And.intro hw' hsim))
  clear h1 h2 hw hw' hsim
  have h25 : (Try.prog.underlying 30).isSome = true := by rw [Try.underlying30]; rfl
  have kw := fun b w => run_widX (P := Try.prog) 30 23 b h25 Try.underlying23 w
  clear h25
  go_enter Try.func20, Try.ntmps20
  go_wp2
  go_loopw [5] (fun i wr => ∃ k m : Nat, i = .int .i64 k ∧ k ≤ len ∧ wr = w.drewN m)
    (fun i _ => len - (intOf i).toNat)
  case atStart => exact ⟨0, 0, rfl, Nat.zero_le _, rfl⟩
  case round =>
    obtain ⟨k, m, rfl, hk, hwr⟩ := hrel
    subst hwr
    by_cases hkl : k < len
    · have a0 := H1.out k hkl
      have c0 := H2.out k hkl
      have v0 := HW.out.1 k hkl
      have v0' := HW.out.2.1 k hkl
      have hs0 := HW.out.2.2 k hkl
      generalize X k = x at *
      generalize X' k = x' at *
      go_wp2_with fail
      refine wp_region_S_drew (by kernel_rfl) (by kernel_rfl) ?_
      repeat (refine wpS_want (by kernel_rfl) ?_; intro K hK; refine quietS_of (by kernel_rfl) ?_; go_big_quiet_op; go_big_quiet_on)
      refine wpS_want (by kernel_rfl) ?_
      intro K hK
      refine quietS_conv (fun v => ∃ r, v = .float .f64 r ∧ Wid x r) (fun w' hw' => ?_) ⟨0, rfl⟩ ?_
      · obtain ⟨n, rfl⟩ := hw'
        exact ⟨_, _, kw x _, ⟨n + ndr x, World.drewN_drewN _ _ _⟩, _, rfl, widX_wid x _⟩
      rintro v ⟨r1, rfl, hr1⟩
      go_big_quiet_op
      go_big_quiet_on
      repeat (refine wpS_want (by kernel_rfl) ?_; intro K hK; refine quietS_of (by kernel_rfl) ?_; go_big_quiet_op; go_big_quiet_on)
      refine wpS_want (by kernel_rfl) ?_
      intro K hK
      refine quietS_conv (fun v => ∃ r, v = .float .f64 r ∧ Wid x' r) (fun w' hw' => ?_) ⟨0, rfl⟩ ?_
      · obtain ⟨n, rfl⟩ := hw'
        exact ⟨_, _, kw x' _, ⟨n + ndr x', World.drewN_drewN _ _ _⟩, _, rfl, widX_wid x' _⟩
      rintro v ⟨r2, rfl, hr2⟩
      go_big_quiet_op
      go_big_quiet_on
      refine wpS_want (by kernel_rfl) ?_
      intro K hK
      refine quietS_call (.bool true) 19 #[.float .f64 r1, .float .f64 r2] (by kernel_rfl) (fun w' => ?_) (fun w' hw' => ?_) ⟨0, rfl⟩ ?_
      · simp [go_sem]
      · obtain ⟨n, rfl⟩ := hw'
        exact (same_simw v0 v0' hs0 hr1 hr2 _).mono fun e w2 ⟨he, hw2⟩ => ⟨he, n, hw2⟩
      go_big_quiet_op
      go_big_quiet_on
      repeat (refine wpS_want (by kernel_rfl) ?_; intro K hK; refine quietS_of (by kernel_rfl) ?_; go_big_quiet_op; go_big_quiet_on)
      refine wpQuietS_nil ?_
      rintro _ ⟨n, rfl⟩
      go_wp2_with fail
      go_roundw
      case rel => exact ⟨k + 1, _, by go_num, by omega, rfl⟩
      case measure => simp [intOf]; omega
    · obtain rfl : k = len := by omega
      go_wp2
      go_ret
      exact ⟨rfl, ⟨rfl, rfl, rfl, Nat.le_refl _, fun _ _ => rfl⟩⟩
theorem ownF_form {base : Nat} {w : World} {v : Value} {n : Nat} {X : Nat → Nat} (h : OwnF base w v n X) : ∃ a cap, v = .slice a n cap ∧ (n = 0 ∨ ∃ g, a = some ⟨g, 0, none⟩ ∧ base ≤ g ∧ g < w.heap.size ∧ CellsF w g 0 n X) := by
  have h' := h
  rcases h.2 with ⟨rfl, rfl⟩ | ⟨g, cap, cur, rfl, hb, hg, rest⟩
  · exact ⟨_, _, rfl, .inl rfl⟩
  · refine ⟨_, _, rfl, .inr ⟨g, rfl, hb, lt_of_block hg, fun i hi => ?_⟩⟩
    rw [Nat.zero_add, World.ownsRow.cellAt h' i (by omega), flat_at hi]
theorem ownF_congr {base : Nat} {w : World} {v : Value} {n : Nat} {X Y : Nat → Nat} (h : OwnF base w v n X) (e : ∀ j, j < n → X j = Y j) : OwnF base w v n Y := by
  unfold OwnF at h ⊢
  rw [← flat_congr e]; exact h
theorem eqFF_any {b1 b2 n : Nat} {v v' : Value} {X X' : Nat → Nat} (w : World) (h1 : OwnF b1 w v n X) (h2 : OwnF b2 w v' n X') (hw : WfF n X) (hw' : WfF n X') (hsim : ∀ i, i < n → Sim (X i) (X' i)) (hl : n ≤ 1048576) :
    Calls Try.prog 20 #[v, v'] w fun e w' => e = .returned (.bool true) ∧ Below w.heap.size w w' := by
  obtain ⟨a, cap, rfl, h0 | ⟨g, rfl, _, hg, hc⟩⟩ := ownF_form h1
  · subst h0
    obtain ⟨a', cap', rfl, _⟩ := ownF_form h2
    refine (eqF_none a a' cap cap' w).mono ?_
    rintro e w ⟨rfl, rfl⟩
    exact ⟨rfl, Below.refl _ _⟩
  · obtain ⟨a', cap', rfl, h0 | ⟨g', rfl, _, hg', hc'⟩⟩ := ownF_form h2
    · subst h0
      refine (eqF_none _ a' cap cap' w).mono ?_
      rintro e w ⟨rfl, rfl⟩
      exact ⟨rfl, Below.refl _ _⟩
    · exact eqFS_any g 0 g' 0 n cap cap' X X' w hl hg hg' hc hc' hw hw' hsim
set_option maxRecDepth 20000 in
set_option maxHeartbeats 1600000 in
theorem markFF_any {base n : Nat} {v : Value} {X : Nat → Nat} (w : World) (hb : base ≤ w.heap.size) (h1 : OwnF base w v n X) (hn : n ≤ 1000) :
    Calls Try.prog 31 #[v, .int .i64 1] w fun e w' => e = .returned (.int .i64 ((n + 1 : Nat) : Int)) ∧ OwnF base w' v n mkF ∧ Below base w w' := by
  have hc := run_fl
  obtain ⟨a, cap, rfl, h0 | ⟨g, rfl, hbg, hlt, _⟩⟩ := ownF_form h1
  · subst h0
    have Hm := Lib.hid (show OwnF base w (.slice a 0 cap) 0 mkF from ownF_congr h1 (fun j hj => absurd hj (by omega)))
    clear h1
    go_enter Try.func31, Try.ntmps31
    go_wp2_with fail
    go_rounds 1
    go_ret
    exact ⟨rfl, Hm.out, Below.refl _ _⟩
  · have H1 := Lib.hid h1
    clear h1
    go_enter Try.func31, Try.ntmps31
    go_wp2_with fail
    go_loopw [1, 5] (fun kv iv wr => ∃ (i k : Nat) (Z : Nat → Nat), i ≤ n ∧ k = 1 + i ∧ Hid (∀ j, j < i → Z j = mkF j) ∧ kv = .int .i64 (k : Int) ∧ iv = .int .i64 (i : Int) ∧ OwnF base wr (.slice (some ⟨g, 0, none⟩) n cap) n Z ∧ Below base w wr) (fun _ iv _ => n - (intOf iv).toNat)
    case atStart => exact ⟨0, 1, X, Nat.zero_le _, rfl, Lib.hid (fun j hj => absurd hj (by omega)), rfl, rfl, H1.out, Below.refl _ _⟩
    case round =>
      obtain ⟨i, k, Z, hi, hki, hmk, rfl, rfl, hown, hbel⟩ := hrel
      have Hk := Lib.hid hki
      have hkb : k ≤ 7000000 := by omega
      by_cases hin : i < n
      · have hin' : (i : Int) < n := by omega
        have d0 : wr.cell? ⟨g, i, none⟩ = some (.float .f32 (Z i)) := by rw [World.ownsRow.cellAt hown i (by omega), flat_at (by omega)]
        have f0 := World.ownsRow.frozenAt hown i
        have s1 := (World.ownsRow.stored hown i (.float .f32 (fl (k : Int)))).1
        rw [flat_set] at s1
        have Hs := Lib.hid (And.intro (show OwnF base _ (.slice (some ⟨g, 0, none⟩) n cap) n (upd Z i (fl (k : Int))) from s1) (hbel.setCell (p := ⟨g, i, none⟩) hbg (.float .f32 (fl (k : Int)))))
        have Hm2 := Lib.hid (show ∀ j, j < i + 1 → upd Z i (fl (k : Int)) j = mkF j from fun j hj => by
          unfold upd
          by_cases e0 : j = i
          · rw [if_pos e0, e0]; unfold mkF; congr 1; omega
          · rw [if_neg e0]; exact hmk.out j (by omega))
        clear hown hbel hki s1
        generalize Z i = g0 at d0
        go_wp2_with fail
        go_roundw
        case rel => exact ⟨i + 1, k + 1, _, hin, by rw [Hk.out]; omega, Lib.hid Hm2.out, by go_num, by go_num, Hs.out.1, Hs.out.2⟩
        case measure => simp [intOf]; omega
      · have hin' : ¬ (i : Int) < n := by omega
        obtain rfl : i = n := by omega
        have Hf := Lib.hid (show (k : Int) = ((i + 1 : Nat) : Int) by omega)
        have Hb := Lib.hid (And.intro (show OwnF base wr _ i mkF from ownF_congr hown hmk.out) hbel)
        clear hown hbel hki hc
        go_wp2_with fail
        go_ret
        exact ⟨ret_int Hf.out, Hb.out.1, Hb.out.2⟩
set_option maxRecDepth 20000 in
set_option maxHeartbeats 1600000 in
theorem heldFF_any {base n : Nat} {v : Value} (w : World) (h1 : OwnF base w v n mkF) (hn : n ≤ 1000) :
    Calls Try.prog 32 #[v, .int .i64 1] w fun e w' => e = .returned (.int .i64 ((n + 1 : Nat) : Int)) ∧ Below w.heap.size w w' := by
  have hc := run_fl
  have Hst := Lib.hid (Below.refl w.heap.size w)
  obtain ⟨a, cap, rfl, h0 | ⟨g, rfl, hbg, hlt, hcell⟩⟩ := ownF_form h1
  · subst h0
    clear h1
    go_enter Try.func32, Try.ntmps32
    go_wp2_with fail
    go_rounds 1
    go_ret
    exact ⟨rfl, Hst.out⟩
  · have Hc := Lib.hid hcell
    clear h1 hcell
    go_enter Try.func32, Try.ntmps32
    go_wp2_with fail
    go_loopw [1, 5] (fun kv iv wr => ∃ (i k m : Nat), i ≤ n ∧ k = 1 + i ∧ kv = .int .i64 (k : Int) ∧ iv = .int .i64 (i : Int) ∧ wr = w.drewN m) (fun _ iv _ => n - (intOf iv).toNat)
    case atStart => exact ⟨0, 1, 0, Nat.zero_le _, rfl, rfl, rfl, rfl⟩
    case round =>
      obtain ⟨i, k, m, hi, hki, rfl, rfl, rfl⟩ := hrel
      have Hk := Lib.hid hki
      have hkb : k ≤ 7000000 := by omega
      by_cases hin : i < n
      · have hin' : (i : Int) < n := by omega
        have a0 := Hc.out i hin
        rw [Nat.zero_add] at a0
        have e0 : mkF i = fl (k : Int) := by unfold mkF; congr 1; omega
        rw [e0] at a0
        have o0 := fl_eq (k : Int) (fl_num _)
        clear hki e0
        go_wp2_with fail
        go_roundw
        case rel => exact ⟨i + 1, k + 1, _, hin, by rw [Hk.out]; omega, by go_num, by go_num, by first | rfl | trivial⟩
        case measure => simp [intOf]; omega
      · have hin' : ¬ (i : Int) < n := by omega
        obtain rfl : i = n := by omega
        have Hf := Lib.hid (show (k : Int) = ((i + 1 : Nat) : Int) by omega)
        clear hki hc
        go_wp2_with fail
        go_ret
        exact ⟨ret_int Hf.out, below_drewN Hst.out m⟩
/-- between two marks of the heap -/
def OwnU (base top : Nat) (w : World) (v : Value) (n : Nat) (X : Nat → Nat) : Prop := OwnF base w v n X ∧ ∀ g, v.ownBlock = some g → g < top
theorem OwnU.of {base : Nat} {w : World} {v : Value} {n : Nat} {X : Nat → Nat} (h : OwnF base w v n X) : OwnU base w.heap.size w v n X := ⟨h, fun g hg => (World.ownsRow.lt h g hg).2⟩
theorem OwnU.keep {base top : Nat} {w w' : World} {v : Value} {n : Nat} {X : Nat → Nat} (h : OwnU base top w v n X) (hb : ∀ j, base ≤ j → j < top → w'.heap[j]? = w.heap[j]?) : OwnU base top w' v n X := by
  refine ⟨⟨h.1.1, ?_⟩, h.2⟩
  rcases h.1.2 with hn | ⟨g, cap, cur, rfl, hbg, hg, rest⟩
  · exact .inl hn
  · exact .inr ⟨g, cap, cur, rfl, hbg, (hb g hbg (h.2 g rfl)).trans hg, rest⟩
theorem OwnU.below {base top B : Nat} {w w' : World} {v : Value} {n : Nat} {X : Nat → Nat} (h : OwnU base top w v n X) (hB : top ≤ B) (hb : Below B w w') : OwnU base top w' v n X :=
  h.keep fun j _ hj => hb.block j (by omega)
theorem OwnU.only {base top B : Nat} {w w' : World} {v : Value} {n : Nat} {X : Nat → Nat} (h : OwnU base top w v n X) (ht : top ≤ w.heap.size) (hB : B < base ∨ top ≤ B) (hb : Only B w w') : OwnU base top w' v n X :=
  h.keep fun j hj hj2 => hb.block j (by omega) (by omega)
theorem flat_app (Z Y : Nat → Nat) (a b : Nat) : flat Z a ++ flat Y b = flat (spl Z a Y b) (a + b) := by
  apply List.ext_getElem?
  intro j
  by_cases h1 : j < a
  · rw [List.getElem?_append_left (by rw [flat_len]; exact h1), flat_at h1, flat_at (by omega), spl_eq, if_neg (by omega)]
  · by_cases h2 : j < a + b
    · rw [List.getElem?_append_right (by rw [flat_len]; omega), flat_len, flat_at (by omega), flat_at h2, spl_eq, if_pos (by omega)]
    · rw [List.getElem?_eq_none (by rw [List.length_append, flat_len, flat_len]; omega), List.getElem?_eq_none (by rw [flat_len]; omega)]
section
variable {P : Program}
theorem run_append_zero (w : World) (t ty e : TypeId) (i : TypeInfo) (ht : P.underlying t = some (.slice e)) (hi : P.info? e = some i) (b : Addr) (n cap : Nat) (a : Option Addr) (c : Nat) (h : n ≤ cap) :
    (Builtin.append_ #[t, t] ty #[.slice (some b) n cap, .slice a 0 c]).run P w = .ok (.slice (some b) n cap) w := by
  have hl : ∀ (x : Addr), (loadCells x 0).run P w = .ok #[] w := fun x => by simpa using run_loadCells_list (P := P) w x [] (by simp)
  have hlt : ¬ (n + 0 > cap) := by omega
  cases a <;> simp [Builtin.append_, run_underlying ht, sizeOf, typeInfo, hi, Builtin.lenOf, Builtin.firstCells, h, hl, storeCells]
end
theorem appF {base n cap m c g : Nat} {Z Y : Nat → Nat} {ad : Addr} {w : World} (h : OwnF base w (.slice (some ⟨g, 0, none⟩) n cap) n Z)
    (hsrc : ∀ j, j < m → w.cell? (ad.add j) = some (.float .f32 (Y j))) (hn : n + m ≤ 3000000) (hbase : base ≤ w.heap.size) :
    ∃ g' cap' w', (Builtin.append_ #[22, 22] 22 #[.slice (some ⟨g, 0, none⟩) n cap, .slice (some ad) m c]).run Try.prog w = .ok (.slice (some ⟨g', 0, none⟩) (n + m) cap') w' ∧
      OwnF base w' (.slice (some ⟨g', 0, none⟩) (n + m) cap') (n + m) (spl Z n Y m) ∧ Below base w w' := by
  obtain ⟨i, hi, hz, hs, hby⟩ := info_partsF
  obtain ⟨v', w', hr, h2, h3, h4⟩ := run_append_own (P := Try.prog) w base 22 22 30 i (.float .f32 0) 1 4 Try.underlying22 hi hz hs hby rfl (by decide)
    (.slice (some ⟨g, 0, none⟩) n cap) n (flat Z n) h ad m c (flat Y m) (by rw [flat_len, Nat.mul_one])
    (fun j u hu => by
      have hj : j < m := by
        have := (List.getElem?_eq_some_iff.1 hu).1
        rw [flat_len] at this; exact this
      rw [flat_at hj] at hu
      cases hu
      exact hsrc j hj) (flat_one _ _) (by unfold maxLen; omega) (by omega) hbase
  rw [flat_app] at h2
  have hbel : Below base w w' := (Below.refl base w).grown h3 hbase (fun j hj => (World.ownsRow.lt h j hj).1)
  rcases h2.2 with ⟨e, _⟩ | ⟨g', cap', cur, e, _⟩
  · have := (h4.1 e).1
    cases this
  · subst e
    exact ⟨g', cap', w', hr, h2, hbel⟩
theorem appF0 {n cap g c : Nat} {a : Option Addr} {w : World} (h : n ≤ cap) :
    (Builtin.append_ #[22, 22] 22 #[.slice (some ⟨g, 0, none⟩) n cap, .slice a 0 c]).run Try.prog w = .ok (.slice (some ⟨g, 0, none⟩) n cap) w := by
  obtain ⟨i, hi, _⟩ := info_partsF
  exact run_append_zero w _ _ _ i Try.underlying22 hi _ _ _ _ _ h
/-- an empty list that a literal makes -/
theorem litF (w : World) : OwnF w.heap.size (w.alloc (.cells #[] 30)) (.slice (some ⟨w.heap.size, 0, none⟩) 0 0) 0 (fun _ => 0) :=
  World.ownsRow_made w _ 0 (Nat.le_refl _) (by unfold maxLen; omega) (by simp)
section
variable {P : Program} {w : World}
/-- append, at the operation, by its run -/
theorem wp_append_run {o : Oper} {a : Act} {K : Act → World → Prop} {Q : Exit → Act → World → Prop} (s x : Operand) (t : TypeId)
    (ho : o.op = .call { callee := .builtin .append, args := #[s, x], argTypes := #[t, t] }) {vs vx v : Value} {w' : World} (hs : a.eval s = vs) (hx : a.eval x = vx)
    (hr : (Builtin.append_ #[t, t] o.type #[vs, vx]).run P w = .ok v w') (h : K (a.put o.dst v) w') : o.wp P a w K Q := by
  unfold Oper.wp execOp
  simp only [ho, resolve, invoke, builtin, Sem.run_bind, Sem.run_pure, Result.andThen_ok, List.map_toArray, List.map_cons, List.map_nil, hs, hx, hr]
  exact h
theorem wpList_append_run {ops : Array Oper} {rest : List Oper} {o : Oper} {a : Act} {Q : Exit → Act → World → Prop} (hgd : o.guard = none) (s x : Operand) (t : TypeId)
    (ho : o.op = .call { callee := .builtin .append, args := #[s, x], argTypes := #[t, t] }) {vs vx v : Value} {w' : World} (hs : a.eval s = vs) (hx : a.eval x = vx)
    (hr : (Builtin.append_ #[t, t] o.type #[vs, vx]).run P w = .ok v w') (h : wpList P ops Q rest (a.put o.dst v) w') : wpList P ops Q (o :: rest) a w :=
  wpList_plain hgd fun _ hK => wp_append_run s x t ho hs hx hr (hK _ _ h)
theorem step_append_run {ops : Array Oper} {o : Oper} {a : Act} {K : Act → World → Prop} {Q : Exit → Act → World → Prop} {E : Prop} (hgd : o.guard = none) (s x : Operand) (t : TypeId)
    (ho : o.op = .call { callee := .builtin .append, args := #[s, x], argTypes := #[t, t] }) {vs vx v : Value} {w' : World} (hs : a.eval s = vs) (hx : a.eval x = vx)
    (hr : (Builtin.append_ #[t, t] o.type #[vs, vx]).run P w = .ok v w') (h : K (a.put o.dst v) w') : if Region.wanted o (yielded ops a.tmps) = true then Oper.wp P o a w K Q else E := by
  have hw : Region.wanted o (yielded ops a.tmps) = true := by simp [Region.wanted, hgd]
  rw [if_pos hw]
  exact wp_append_run s x t ho hs hx hr h
end
end Go.Proofs.Ytlbapogmcnpmeaa.Sgl
