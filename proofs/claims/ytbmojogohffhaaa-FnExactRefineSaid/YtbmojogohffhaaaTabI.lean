/- The program's check of a table: one line, all neighbors, TableOk. -/
import Derived.Test.YtbmojogohffhaaaTab
import Derived.Test.YtbmojogohffhaaaMathC
import Derived.Test.YtbmojogohffhaaaOld
import Derived.Test.YtbmojogohffhaaaLin
namespace Go.Proofs.Ytbmojogohffhaaa.Pnt
open Go.ChangeShapes Go.WideShapes Go.ChangeAt Go.RowKit Go.Proofs.Ytbmojogohffhaaa Go.Proofs.Ytbmojogohffhaaa.Flt Go.Proofs.Ytbmojogohffhaaa.Mth
open Ieee (single double)
set_option linter.unusedVariables false
/-- what a difference gives, at every world -/
def subX (x y : Nat) (w : World) : Nat := match floatBits .sub .f32 x y with
  | some r => r
  | none => (Question.nanBits .f32 x y).cut (w.tape w.drawn (.nanBits .f32 x y))
def sdr (x y : Nat) : Nat := match floatBits .sub .f32 x y with
  | some _ => 0
  | none => 1
theorem run_subX {P : Program} (t : TypeId) (x y : Nat) (w : World) : (binOp .sub t (.float .f32 x) (.float .f32 y)).run P w = .ok (.float .f32 (subX x y w)) (w.drewN (sdr x y)) := by
  unfold subX sdr
  cases h : floatBits .sub .f32 x y with
  | some r => exact run_float_arith w .sub t .f32 x y r h
  | none =>
    have hf : (Question.nanBits .f32 x y).forced = false := rfl
    unfold floatBits at h
    simp only at h
    simp [binOp, Op.floatArith, h, hf]
    rfl
/-- the difference is finite -/
def difB (x y : Nat) : Bool := match floatBits .sub .f32 x y with
  | some r => finB r
  | none => false
theorem fin_subX (x y : Nat) (w : World) : finB (subX x y w) = difB x y := by
  unfold subX difB
  cases h : floatBits .sub .f32 x y with
  | some r => rfl
  | none =>
    have h1 : isNaN single ((Question.nanBits .f32 x y).cut (w.tape w.drawn (.nanBits .f32 x y))) = true := (nan32_isNaN (w.tape w.drawn (.nanBits .f32 x y))).1
    have := of_decide_eq_true h1
    show decide (rung single ((Question.nanBits .f32 x y).cut (w.tape w.drawn (.nanBits .f32 x y))) < single.infRung) = false
    exact decide_eq_false (by omega)
theorem difB_fin {x y : Nat} (hx : finB x = true) (hy : finB y = true) : difB x y = finB (subB x y) := by
  unfold difB
  rw [sub_fin hx hy]
theorem difB_left {x y : Nat} (h : difB x y = true) : finB x = true ∧ finB y = true := by
  unfold difB at h
  cases hs : floatBits .sub .f32 x y with
  | none => rw [hs] at h; cases h
  | some r =>
    rw [hs] at h
    have hr := of_decide_eq_true (show decide (rung single r < single.infRung) = true from h)
    have hs' : single.sub x y = some r := hs
    unfold Ieee.Format.sub at hs'
    have noinf : ∀ s, r ≠ single.write (.infinity s) := by
      intro s e
      rw [e] at hr
      revert hr
      cases s <;> decide
    constructor
    · rcases reads single (by decide) x with ⟨m, e, hr', hlt, h'⟩ | ⟨hr', h'⟩ | ⟨t, hr', h'⟩
      · exact decide_eq_true hr'
      · rw [h'] at hs'
        exfalso
        cases hd : single.read y with
        | number s m p => rw [hd] at hs'; simp only [Ieee.Datum.opposite, Ieee.Datum.sum, Option.map_some, Option.some.injEq] at hs'; exact noinf _ hs'.symm
        | infinity s =>
          rw [hd] at hs'
          simp only [Ieee.Datum.opposite, Ieee.Datum.sum] at hs'
          split at hs'
          · simp only [Option.map_some, Option.some.injEq] at hs'; exact noinf _ hs'.symm
          · cases hs'
        | nan s m => rw [hd] at hs'; cases hs'
      · rw [h'] at hs'
        cases hd : single.read y <;> rw [hd] at hs' <;> cases hs'
    · rcases reads single (by decide) y with ⟨m, e, hr', hlt, h'⟩ | ⟨hr', h'⟩ | ⟨t, hr', h'⟩
      · exact decide_eq_true hr'
      · rw [h'] at hs'
        exfalso
        cases hd : single.read x with
        | number s m p => rw [hd] at hs'; simp only [Ieee.Datum.opposite, Ieee.Datum.sum, Option.map_some, Option.some.injEq] at hs'; exact noinf _ hs'.symm
        | infinity s =>
          rw [hd] at hs'
          simp only [Ieee.Datum.opposite, Ieee.Datum.sum] at hs'
          split at hs'
          · simp only [Option.map_some, Option.some.injEq] at hs'; exact noinf _ hs'.symm
          · cases hs'
        | nan s m => rw [hd] at hs'; cases hs'
      · rw [h'] at hs'
        cases hd : single.read x <;> rw [hd] at hs' <;> cases hs'
/-- a line leads from one point to the next -/
def lineB (x y x' y' : Nat) : Bool := gtB x' x && (difB x' x && difB y' y)
theorem isLine_any (x y x' y' : Nat) (w : World) :
    Calls Try.prog 51 #[.agg #[.float .f32 x, .float .f32 y], .agg #[.float .f32 x', .float .f32 y']] w fun e w' => e = .returned (.bool (lineB x y x' y')) ∧ Below w.heap.size w w' := by
  have h25 : (Try.prog.underlying 25).isSome = true := by rw [Try.underlying25]; rfl
  have HB := Lib.hid (((Below.refl w.heap.size w).alloc (Nat.le_refl _) (.cells #[.float .f32 x, .float .f32 y] 32)).alloc (by rw [sz_alloc]; omega) (.cells #[.float .f32 x', .float .f32 y'] 32))
  have ks := fun W => run_subX (P := Try.prog) 25 x' x W
  have kt := fun W => run_subX (P := Try.prog) 25 y' y W
  have kw := fun b W => run_widX (P := Try.prog) 25 47 b h25 Try.underlying47 W
  obtain ⟨c1, e1⟩ : ∃ c, gtB x' x = c := ⟨_, rfl⟩
  obtain ⟨c2, e2⟩ : ∃ c, difB x' x = c := ⟨_, rfl⟩
  obtain ⟨c3, e3⟩ : ∃ c, difB y' y = c := ⟨_, rfl⟩
  have Hf := Lib.hid (show (c1 && (c2 && c3)) = lineB x y x' y' by unfold lineB; rw [e1, e2, e3])
  have E2 := Lib.hid e2
  have E3 := Lib.hid e3
  unfold gtB at e1
  clear e2 e3 h25
  rcases (show c1 = false ∨ (c1 = true ∧ c2 = false) ∨ (c1 = true ∧ c2 = true) by cases c1 <;> cases c2 <;> simp) with rfl | ⟨rfl, rfl⟩ | ⟨rfl, rfl⟩
  · go_enter Try.func51, Try.ntmps51
    go_wp2
    go_ret
    exact ⟨ret_bool (by rw [← Hf.out]; rfl), HB.out⟩
  · go_enter Try.func51, Try.ntmps51
    go_wp2_with fail
    refine (fin_any _ _ (widX_wid _ _).1).mono ?_
    rintro e w' ⟨rfl, rfl⟩
    rw [isFin_wid (widX_wid _ _), fin_subX, E2.out]
    go_wp2_with fail
    go_ret
    exact ⟨ret_bool (by rw [← Hf.out]; rfl), below_drewN HB.out _⟩
  · go_enter Try.func51, Try.ntmps51
    go_wp2_with fail
    refine (fin_any _ _ (widX_wid _ _).1).mono ?_
    rintro e w' ⟨rfl, rfl⟩
    rw [isFin_wid (widX_wid _ _), fin_subX, E2.out]
    go_wp2_with fail
    refine (fin_any _ _ (widX_wid _ _).1).mono ?_
    rintro e w' ⟨rfl, rfl⟩
    rw [isFin_wid (widX_wid _ _), fin_subX, E3.out]
    go_wp2_with fail
    go_ret
    exact ⟨ret_bool (by rw [← Hf.out]; rfl), below_drewN HB.out _⟩
/-- each point fits the one before it -/
def nbB (n : Nat) (X : Nat → Nat) (g : Nat → Nat → Nat → Nat → Bool) : Bool := (List.range n).all fun i => i == 0 || g (X ((i - 1) * 2)) (X ((i - 1) * 2 + 1)) (X (i * 2)) (X (i * 2 + 1))
theorem nbB_fail {n k : Nat} {X : Nat → Nat} {g : Nat → Nat → Nat → Nat → Bool} (hk : k + 1 < n) (h : g (X (k * 2)) (X (k * 2 + 1)) (X ((k + 1) * 2)) (X ((k + 1) * 2 + 1)) = false) : false = nbB n X g := by
  symm
  unfold nbB
  rw [List.all_eq_false]
  exact ⟨k + 1, by simpa using hk, by rw [show k + 1 - 1 = k from rfl, h]; simp⟩
theorem nbB_all {n : Nat} {X : Nat → Nat} {g : Nat → Nat → Nat → Nat → Bool} (h : ∀ k, k + 1 < n → g (X (k * 2)) (X (k * 2 + 1)) (X ((k + 1) * 2)) (X ((k + 1) * 2 + 1)) = true) : true = nbB n X g := by
  symm
  unfold nbB
  rw [List.all_eq_true]
  intro i hi
  rcases i with _ | i
  · rfl
  · rw [show i + 1 - 1 = i from rfl, h i (by simpa using hi)]; simp
theorem nbB_at {n : Nat} {X : Nat → Nat} {g : Nat → Nat → Nat → Nat → Bool} (h : nbB n X g = true) {k : Nat} (hk : k + 1 < n) : g (X (k * 2)) (X (k * 2 + 1)) (X ((k + 1) * 2)) (X ((k + 1) * 2 + 1)) = true := by
  unfold nbB at h
  rw [List.all_eq_true] at h
  have := h (k + 1) (by simpa using hk)
  rw [show k + 1 - 1 = k from rfl] at this
  simpa using this
/-- the program's check says what the model's does -/
theorem okP_nb {n : Nat} {X : Nat → Nat} (h1 : 2 ≤ n) (h2 : n ≤ 32) : nbB n X lineB = okP n X := by
  cases h : nbB n X lineB
  · cases h' : okP n X
    · rfl
    · exfalso
      have : true = nbB n X lineB := nbB_all fun k hk => by
        have a1 := okP_at h' (j := k) (by omega)
        have a2 := okP_at h' (j := k + 1) hk
        obtain ⟨p1, p2⟩ := okPt_fin a1
        obtain ⟨p3, p4⟩ := okPt_fin a2
        unfold okPt isAB at a2
        rw [p3, p4, show (k + 1 == 0) = false from rfl, show k + 1 - 1 = k from rfl] at a2
        simp only [Bool.true_and, Bool.false_or, Bool.and_eq_true] at a2
        obtain ⟨⟨q1, q2⟩, q3⟩ := a2
        unfold lineB
        rw [difB_fin p3 p1, difB_fin p4 p2, q2, q3]
        simp only [Bool.and_true]
        unfold gtB
        unfold leB at q1
        rw [gt32]
        rw [lt32, eq32] at q1
        have n1 := fin_num p1
        have n3 := fin_num p3
        unfold ltW eqW at q1
        unfold ltW
        rw [n1, n3] at q1 ⊢
        simp at q1 ⊢
        omega
      rw [h] at this
      cases this
  · refine okP_all h1 h2 fun j hj => ?_
    have fin2 : ∀ k, k < n → finB (X (k * 2)) = true ∧ finB (X (k * 2 + 1)) = true := fun k hk => by
      by_cases e : k + 1 < n
      · have := nbB_at h e
        unfold lineB at this
        simp only [Bool.and_eq_true] at this
        exact ⟨(difB_left this.2.1).2, (difB_left this.2.2).2⟩
      · obtain ⟨m, rfl⟩ : ∃ m, k = m + 1 := ⟨k - 1, by omega⟩
        have := nbB_at h hk
        unfold lineB at this
        simp only [Bool.and_eq_true] at this
        exact ⟨(difB_left this.2.1).1, (difB_left this.2.2).1⟩
    obtain ⟨p3, p4⟩ := fin2 j hj
    unfold okPt
    rw [p3, p4]
    rcases j with _ | j
    · rfl
    · obtain ⟨p1, p2⟩ := fin2 j (by omega)
      have := nbB_at h hj
      unfold lineB at this
      rw [difB_fin p3 p1, difB_fin p4 p2] at this
      simp only [Bool.and_eq_true] at this
      obtain ⟨q1, q2, q3⟩ := this
      unfold isAB
      rw [show j + 1 - 1 = j from rfl, q2, q3]
      simp only [Bool.true_and, Bool.and_true, Bool.or_eq_true]
      right
      unfold gtB at q1
      unfold leB
      rw [gt32] at q1
      rw [lt32, eq32]
      have n1 := fin_num p1
      have n3 := fin_num p3
      unfold ltW at q1
      unfold ltW eqW
      rw [n1, n3] at q1 ⊢
      simp at q1 ⊢
      omega
theorem run_enter {P : Program} {f : FuncId} (h : ∃ fn c, P.funcs[f]? = some fn ∧ (fn.name == "runtime.NumGoroutine") = false ∧ fn.body = some c) (args : Array Value) (w : World) : (callFunc f args).run P w = .ok (.enter f args) w := by
  obtain ⟨fn, c, hf, hname, hb⟩ := h
  have h1 : fn.name ≠ "runtime.NumGoroutine" := by simpa using hname
  simp [callFunc, hf, h1, hb]
theorem enter_line (args : Array Value) (w : World) : (callFunc 51 args).run Try.prog w = .ok (.enter 51 args) w := run_enter ⟨_, _, Try.func51, by kernel_rfl, rfl⟩ args w
set_option maxHeartbeats 1600000 in
theorem allN (F : FuncId) (g : Nat → Nat → Nat → Nat → Bool) (hcf : ∀ args w, (callFunc F args).run Try.prog w = .ok (.enter F args) w) (hF : ∀ x y x' y' w, Calls Try.prog F #[.agg #[.float .f32 x, .float .f32 y], .agg #[.float .f32 x', .float .f32 y']] w fun e w' => e = .returned (.bool (g x y x' y')) ∧ Below w.heap.size w w')
    (b off len cap : Nat) (X : Nat → Nat) (w : World) (hl : len ≤ 1048576) (hb : b < w.heap.size) (h1 : Cells w b off len X) :
    Calls Try.prog 50 #[.slice (some ⟨b, off, none⟩) len cap, .func (.func F) #[] #[]] w fun e w' => e = .returned (.bool (nbB len X g)) ∧ Below w.heap.size w w' := by
  have H1 := Lib.hid h1
  clear h1
  have Hst := Lib.hid (Below.refl w.heap.size w)
  generalize hB : w.heap.size = B at *
  go_enter Try.func50, Try.ntmps50
  go_wp2_with fail
  go_loopw [5] (fun i wr => ∃ k : Nat, i = .int .i64 ((k + 1 : Nat) : Int) ∧ (k + 1 ≤ len ∨ k = 0) ∧ Below B w wr ∧ ∀ j, j < k → g (X (j * 2)) (X (j * 2 + 1)) (X ((j + 1) * 2)) (X ((j + 1) * 2 + 1)) = true)
    (fun i _ => len + 1 - (intOf i).toNat)
  case atStart => exact ⟨0, rfl, .inr rfl, Hst.out, fun j hj => absurd hj (Nat.not_lt_zero _)⟩
  case round =>
    obtain ⟨k, rfl, hk, hbel, hall⟩ := hrel
    have Hall := Lib.hid hall
    clear hall
    have Hbel := Lib.hid hbel
    by_cases hkl : k + 1 < len
    · have hkl' : ((k + 1 : Nat) : Int) < (len : Int) := by omega
      obtain ⟨a0, a1⟩ := (H1.out.keep hb Hbel.out) k (by omega)
      obtain ⟨b0, b1⟩ := (H1.out.keep hb Hbel.out) (k + 1) hkl
      have hsz : B ≤ wr.heap.size := by rw [← hB]; exact hbel.size
      have hw1 : IntKind.i64.wrap (((k + 1 : Nat) : Int) - 1) = (k : Int) := by rw [IntKind.wrap_i64]; omega
      have hkl2 : k < len := by omega
      obtain ⟨c, hc⟩ : ∃ c, g (X (k * 2)) (X (k * 2 + 1)) (X ((k + 1) * 2)) (X ((k + 1) * 2 + 1)) = c := ⟨_, rfl⟩
      have hcall := fun W => hF (X (k * 2)) (X (k * 2 + 1)) (X ((k + 1) * 2)) (X ((k + 1) * 2 + 1)) W
      rw [hc] at hcall
      have q0 := fun n : Old wr => (old_cell n (p := ⟨b, off + k * 2, none⟩) (Nat.lt_of_lt_of_le hb hsz)).trans a0
      have q1 := fun n : Old wr => (old_cell n (p := ⟨b, off + k * 2 + 1, none⟩) (Nat.lt_of_lt_of_le hb hsz)).trans a1
      have q2 := fun n : Old wr => (old_cell n (p := ⟨b, off + (k + 1) * 2, none⟩) (Nat.lt_of_lt_of_le hb hsz)).trans b0
      have q3 := fun n : Old wr => (old_cell n (p := ⟨b, off + (k + 1) * 2 + 1, none⟩) (Nat.lt_of_lt_of_le hb hsz)).trans b1
      have HO := Lib.hid (show ∀ n : Old wr, Below B w n.x from fun n => Hbel.out.trans (n.h.mono hsz))
      clear hbel
      cases c
      · have Hf := Lib.hid (nbB_fail (g := g) hkl hc)
        go_wp2_with fail
        refine wp_region_old (by kernel_rfl) (by kernel_rfl) ?_
        repeat (go_big_quiet_step ((with_reducible exact old_call (hcall _))))
        refine wpQuiet_nil ?_
        rintro _ ⟨n, rfl⟩
        go_wp2
        go_ret
        exact ⟨ret_bool Hf.out, HO.out n⟩
      · go_wp2_with fail
        refine wp_region_old (by kernel_rfl) (by kernel_rfl) ?_
        repeat (go_big_quiet_step ((with_reducible exact old_call (hcall _))))
        refine wpQuiet_nil ?_
        rintro _ ⟨n, rfl⟩
        go_wp2
        go_roundw
        case rel => exact ⟨k + 1, by go_num, .inl hkl, HO.out n, fun j hj => by
          by_cases e : j = k
          · rw [e]; exact hc
          · exact Hall.out j (by omega)⟩
        case measure => simp [intOf]; omega
    · have hkl' : ¬ ((k + 1 : Nat) : Int) < (len : Int) := by omega
      have Hf := Lib.hid (show true = nbB len X g from nbB_all fun j hj => Hall.out j (by omega))
      clear hbel
      go_wp2_with fail
      go_ret
      exact ⟨ret_bool Hf.out, Hbel.out⟩
set_option maxHeartbeats 800000 in
theorem implTab (a : Option Addr) (len cap : Nat) (X : Nat → Nat) (w : World) (hl : len ≤ 1048576) (h : Lst w a len X) :
    Calls Try.prog 17 #[.slice a len cap] w fun e w' => e = .returned (.bool (okP len X)) ∧ Below w.heap.size w w' := by
  by_cases h1 : 2 ≤ len
  · have g1 : (2 : Int) ≤ (len : Int) := by omega
    by_cases h2 : len ≤ 32
    · have g2 : (len : Int) ≤ 32 := by omega
      obtain ⟨b, off, rfl, hlt, hc⟩ := h.cells (by omega)
      have Hc := Lib.hid hc
      have Hok := Lib.hid (okP_nb (X := X) h1 h2)
      clear hc h
      go_enter Try.func17, Try.ntmps17
      go_wp2_with fail
      refine (allN _ lineB enter_line isLine_any b off len cap X _ hl hlt Hc.out).mono ?_
      rintro e w' ⟨rfl, hb⟩
      rw [Hok.out]
      have Hb := Lib.hid hb
      clear hb
      go_wp2_with fail
      go_ret
      exact ⟨rfl, Hb.out⟩
    · have g2 : ¬ (len : Int) ≤ 32 := by omega
      have Hf := Lib.hid (okP_out (n := len) (X := X) (by omega))
      go_enter Try.func17, Try.ntmps17
      go_wp2_with fail
      go_ret
      exact ⟨ret_bool Hf.out, Below.refl _ _⟩
  · have g1 : ¬ (2 : Int) ≤ (len : Int) := by omega
    have Hf := Lib.hid (okP_out (n := len) (X := X) (by omega))
    go_enter Try.func17, Try.ntmps17
    go_wp2_with fail
    go_ret
    exact ⟨ret_bool Hf.out, Below.refl _ _⟩
end Go.Proofs.Ytbmojogohffhaaa.Pnt
