/- Overload, in the model and in the program. -/
import Derived.Test.YtmnpmbliikalhaaRngStep
import Derived.Test.YtmnpmbliikalhaaFltR
namespace Go.Proofs.Ytmnpmbliikalhaa.Rng
open Go.ChangeShapes Go.WideShapes Go.ChangeAt Go.RowKit Go.Proofs.Ytmnpmbliikalhaa Go.Proofs.Ytmnpmbliikalhaa.Flt Go.Proofs.Ytmnpmbliikalhaa.Mth
set_option linter.unusedVariables false
theorem sv_pos {F : Nat} (h : sgn Ieee.single F = false) : sv Ieee.single F = ((mg Ieee.single (rung Ieee.single F) : Nat) : Int) := by unfold sv; rw [h]; rfl
theorem le32 (x y : Nat) : leB x y = (!isNaN Ieee.single x && !isNaN Ieee.single y && decide (sv Ieee.single x ≤ sv Ieee.single y)) := by
  unfold leB
  rw [lt32, eq32]
  unfold ltW eqW
  cases isNaN Ieee.single x <;> cases isNaN Ieee.single y <;> simp
  rw [Bool.eq_iff_iff]
  simp
  omega
theorem ge32 (x y : Nat) : geB x y = (!isNaN Ieee.single x && !isNaN Ieee.single y && decide (sv Ieee.single y ≤ sv Ieee.single x)) := by
  unfold geB
  rw [gt32, eq32]
  unfold ltW eqW
  cases isNaN Ieee.single x <;> cases isNaN Ieee.single y <;> simp
  rw [Bool.eq_iff_iff]
  simp
  omega
theorem amt_sv {x : Nat} (wx : (Lit.float .f32 x).wf = true) (h : isNaN Ieee.single x = false) : sv Ieee.single (amtS x) = ((mg Ieee.single (rung Ieee.single x) : Nat) : Int) := by
  cases hs : sgn Ieee.single x
  · rw [← (alike_pos h hs).2 h, sv_pos hs]
  · rw [← (alike_neg wx h hs).2 (by rw [← h]; exact isNaN_neg .f32 (lt_single' wx)), show sv Ieee.single (Op.negFloat .f32 x) = _ from sv_neg .f32 (lt_single' wx)]
    show - sv Ieee.single x = _
    unfold sv; rw [hs]; simp
theorem amt_isNaN {x : Nat} (wx : (Lit.float .f32 x).wf = true) : isNaN Ieee.single (amtS x) = isNaN Ieee.single x := by
  cases h : isNaN Ieee.single x
  · cases hs : sgn Ieee.single x
    · rw [← (alike_pos h hs).1, h]
    · rw [← (alike_neg wx h hs).1, ← h]; exact isNaN_neg .f32 (lt_single' wx)
  · rw [amt_nan h, h]
/-- a valid range's Full -/
def Full (F : Nat) : Prop := rung Ieee.single F < Ieee.single.infRung ∧ rung Ieee.single F ≠ 0 ∧ sgn Ieee.single F = false
theorem full_of {F d u : Nat} (h : isRB F d u = true) : Full F := by
  unfold isRB at h
  simp only [Bool.and_eq_true] at h
  obtain ⟨⟨_, h4⟩, h5⟩ := h
  rw [ge32] at h4
  simp only [Bool.and_eq_true, decide_eq_true_eq] at h4
  have hc : sv Ieee.single 228737632 = ((mg Ieee.single 228737632 : Nat) : Int) := by rw [sv_pos (by decide), show rung Ieee.single 228737632 = 228737632 by decide]
  have hp : 0 < mg Ieee.single 228737632 := Nat.pos_of_ne_zero fun e => by have := (mg_eq_zero Ieee.single).1 e; omega
  have hsv := h4.2
  rw [hc] at hsv
  refine ⟨of_decide_eq_true h5, fun e => ?_, ?_⟩
  · rw [(sv_eq_zero Ieee.single).2 e] at hsv; omega
  · cases hs : sgn Ieee.single F
    · rfl
    · unfold sv at hsv; rw [hs] at hsv; simp at hsv; omega
theorem le_full {x F : Nat} (wx : (Lit.float .f32 x).wf = true) (hF : Full F) : leA x F = decide (rung Ieee.single x ≤ rung Ieee.single F) := by
  unfold leA
  rw [le32, amt_isNaN wx]
  have nF : isNaN Ieee.single F = false := by unfold isNaN; exact decide_eq_false (by have := hF.1; omega)
  rw [nF]
  cases h : isNaN Ieee.single x
  · rw [amt_sv wx h, sv_pos hF.2.2]
    simp only [Bool.not_false, Bool.true_and]
    apply decide_eq_decide.2
    rw [Int.ofNat_le]
    exact mg_le_iff _
  · have h1 : Ieee.single.infRung < rung Ieee.single x := of_decide_eq_true h
    have h2 := hF.1
    rw [show decide (rung Ieee.single x ≤ rung Ieee.single F) = false from decide_eq_false (by omega)]; rfl
theorem full_at {len : Nat} {X : Nat → Nat} {m : Nat} (h : okB len X = true) (hm : m < len) : Full (X (m * 3)) := by
  have := okB_at h hm
  unfold okAt at this
  rw [Bool.and_eq_true] at this
  exact full_of this.1
def overB (len : Nat) (X : Nat → Nat) (k : Int) (x : Nat) : Bool := hasB len X k && !leA x (X (k.toNat * 3))
theorem under25 : (Try.prog.underlying 25).isSome = true := by rw [Try.underlying25]; rfl
theorem under3 : (Try.prog.underlying 3).isSome = true := by rw [Try.underlying3]; rfl
theorem specOver_no (a : Option Addr) (len cap : Nat) (X : Nat → Nat) (k : Int) (x : Nat) (w : World) (hl : len ≤ 1048576) (h : Lst w a len X) (hc : hasB len X k = false) :
    Calls Try.prog 40 #[.slice a len cap, .int .i64 k, .float .f32 x] w fun e w' => e = .returned (.bool false) ∧ Below w.heap.size w w' := by
  have H := Lib.hid h
  clear h
  obtain ⟨c, hok⟩ : ∃ c, okB len X = c := ⟨_, rfl⟩
  unfold hasB at hc
  cases c
  · clear hc
    go_enter Try.func40, Try.ntmps40
    go_wp2_with fail
    refine (specOk _ _ _ X _ hl H.out).mono ?_
    rintro e w1 ⟨rfl, hb⟩
    have Hb := Lib.hid hb
    clear hb
    rw [hok]
    go_wp2_with fail
    go_ret
    exact ⟨rfl, Hb.out⟩
  · rw [hok, Bool.true_and, ← in_dec] at hc
    go_enter Try.func40, Try.ntmps40
    go_wp2_with fail
    refine (specOk _ _ _ X _ hl H.out).mono ?_
    rintro e w1 ⟨rfl, hb⟩
    have Hb := Lib.hid hb
    clear hb
    rw [hok]
    go_wp2_with fail
    refine (in_any _ _ _ _).mono ?_
    rintro e w1 ⟨rfl, rfl⟩
    rw [hc]
    go_wp2_with fail
    go_ret
    exact ⟨rfl, Hb.out⟩
theorem specOver_yes (b off len cap : Nat) (X : Nat → Nat) (k x : Nat) (w : World) (hk : k < len) (hb : b < w.heap.size) (h : Cells w b off len X) (hL : Lst w (some ⟨b, off, none⟩) len X) (hok : okB len X = true) :
    Calls Try.prog 40 #[.slice (some ⟨b, off, none⟩) len cap, .int .i64 (k : Int), .float .f32 x] w fun e w' => e = .returned (.bool (!leA x (X (k * 3)))) ∧ Below w.heap.size w w' := by
  have H := Lib.hid h
  have HL := Lib.hid hL
  have hl := (okB_bounds hok).2
  clear h hL
  obtain ⟨c1, h1⟩ : ∃ c, leA x (X (k * 3)) = c := ⟨_, rfl⟩
  have Hf := Lib.hid (show (!c1) = !leA x (X (k * 3)) by rw [h1])
  have hin : decide ((0 : Int) ≤ (k : Int) ∧ (k : Int) ≤ (len : Int) - 1) = true := decide_eq_true (by omega)
  go_enter Try.func40, Try.ntmps40
  go_wp2_with fail
  refine (specOk _ _ _ X _ (by omega) HL.out).mono ?_
  rintro e w1 ⟨rfl, hb1⟩
  obtain ⟨q0, q1, q2⟩ := (H.out.keep hb hb1) k hk
  have Hb := Lib.hid hb1
  clear hb1
  rw [hok]
  unfold leA leB at h1
  go_wp2_with fail
  refine (in_any _ _ _ _).mono ?_
  rintro e w1 ⟨rfl, rfl⟩
  rw [hin]
  go_wp2_with fail
  go_quiet ((go_at_call 56; exact Calls.quiet_of_same (amtS_any _ _)))
  go_wp2_with fail
  go_ret
  exact ⟨ret_bool Hf.out, by repeat (first | exact Hb.out | refine below_drewN ?_ _)⟩
theorem specOver (a : Option Addr) (len cap : Nat) (X : Nat → Nat) (k : Int) (x : Nat) (w : World) (hl : len ≤ 1048576) (h : Lst w a len X) :
    Calls Try.prog 40 #[.slice a len cap, .int .i64 k, .float .f32 x] w fun e w' => e = .returned (.bool (overB len X k x)) ∧ Below w.heap.size w w' := by
  unfold overB
  cases hc : hasB len X k
  · exact specOver_no a len cap X k x w hl h hc
  · obtain ⟨ho, m, rfl, hm⟩ := hasB_at hc
    obtain ⟨b, off, rfl, hlt, hcells⟩ := h.cells (by omega)
    exact specOver_yes b off len cap X m x w hm hlt hcells h ho
theorem implOver (a : Option Addr) (len cap : Nat) (X : Nat → Nat) (k : Int) (x : Nat) (wx : (Lit.float .f32 x).wf = true) (w : World) (hl : len ≤ 1048576) (h : Lst w a len X) :
    Calls Try.prog 21 #[.slice a len cap, .int .i64 k, .float .f32 x] w fun e w' => e = .returned (.bool (overB len X k x)) ∧ Below w.heap.size w w' := by
  have H := Lib.hid h
  clear h
  obtain ⟨c, hc⟩ : ∃ c, hasB len X k = c := ⟨_, rfl⟩
  cases c
  · have Hf := Lib.hid (show false = overB len X k x by unfold overB; rw [hc]; rfl)
    go_enter Try.func21, Try.ntmps21
    go_wp2_with fail
    refine (has_any _ _ _ X _ _ hl H.out).mono ?_
    rintro e w1 ⟨rfl, hb⟩
    have Hb := Lib.hid hb
    clear hb
    rw [hc]
    go_wp2_with fail
    go_ret
    exact ⟨ret_bool Hf.out, Hb.out⟩
  · obtain ⟨ho, m, rfl, hm⟩ := hasB_at hc
    have hb12 := okB_bounds ho
    have Hf := Lib.hid (show (!leA x (X (m * 3))) = overB len X (m : Int) x by unfold overB; rw [hc]; rfl)
    obtain ⟨b, off, rfl, hlt, hcells⟩ := H.out.cells (by omega)
    have Hc := Lib.hid hcells
    clear hcells ho
    go_enter Try.func21, Try.ntmps21
    go_wp2_with fail
    refine (has_any _ _ _ X _ _ hl H.out).mono ?_
    rintro e w1 ⟨rfl, hb⟩
    obtain ⟨q0, q1, q2⟩ := (Hc.out.keep hlt hb) m hm
    have Hb := Lib.hid hb
    clear hb
    rw [hc]
    go_wp2_with fail
    refine (shows_any _ _ _ x wx _).mono ?_
    rintro e w2 ⟨rfl, hb⟩
    have Hb2 := Lib.hid (Hb.out.trans (hb.mono Hb.out.size))
    clear hb
    go_wp2_with fail
    go_ret
    exact ⟨ret_bool Hf.out, Hb2.out⟩
end Go.Proofs.Ytmnpmbliikalhaa.Rng
