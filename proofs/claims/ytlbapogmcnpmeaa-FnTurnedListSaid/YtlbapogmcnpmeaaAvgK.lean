/- The program's spread: outermost, spreadOf, SpreadOf. -/
import Derived.Test.YtlbapogmcnpmeaaAvgJ
import Derived.Test.YtlbapogmcnpmeaaAvgU
namespace Go.Proofs.Ytlbapogmcnpmeaa.Avg
open Go.ChangeShapes Go.WideShapes Go.ChangeAt Go.RowKit Go.Deep Go.Proofs.Ytlbapogmcnpmeaa Go.Proofs.Ytlbapogmcnpmeaa.Flt Go.Proofs.Ytlbapogmcnpmeaa.Mth Go.Proofs.Ytlbapogmcnpmeaa.Sgl
open Ieee (single double)
set_option linter.unusedVariables false
set_option linter.unusedSimpArgs false
/-- the element that is left when each next one that lies farther out takes the place of the one found before -/
def outF (P : Nat → Nat → Bool) (X : Nat → Nat) : Nat → Nat
  | 0 => 0
  | k + 1 => if (decide (k = 0) || P (X k) (outF P X k)) = true then X k else outF P X k
theorem lt_sv {x y : Nat} (hx : finB x = true) (hy : finB y = true) : ltB x y = decide (sv single x < sv single y) := by
  have h := gt_sv hy hx
  rw [← h]
  unfold ltB gtB
  rw [lt32, gt32]
theorem ge32 (x y : Nat) : geB x y = (!isNaN single x && !isNaN single y && decide (sv single y ≤ sv single x)) := by
  unfold geB
  rw [gt32, eq32]
  unfold ltW eqW
  cases isNaN single x <;> cases isNaN single y <;> simp
  rw [Bool.eq_iff_iff]
  simp
  omega
theorem ge_sv {x y : Nat} (hx : finB x = true) (hy : finB y = true) : geB x y = decide (sv single y ≤ sv single x) := by
  rw [ge32, fin_num hx, fin_num hy]; rfl
theorem out_great {X : Nat → Nat} : ∀ n, 1 ≤ n → (∀ j, j < n → finB (X j) = true) → outF geB X n = srt X n (n - 1)
  | 0, h, _ => absurd h (by omega)
  | n + 1, _, hf => by
    have hp := posn_le (srt X n) (X n) n
    have hR : srt X (n + 1) n = if n = posn (srt X n) (X n) n then X n else srt X n (n - 1) := by
      show insF (srt X n) (posn (srt X n) (X n) n) (X n) n = _
      unfold insF
      rw [if_neg (by omega)]
    have hL : outF geB X (n + 1) = if (decide (n = 0) || geB (X n) (outF geB X n)) = true then X n else outF geB X n := rfl
    show outF geB X (n + 1) = srt X (n + 1) n
    by_cases h0 : n = 0
    · rw [hL, hR, decide_eq_true h0, Bool.true_or, if_pos rfl, if_pos (by omega)]
    · obtain ⟨m, rfl⟩ : ∃ m, n = m + 1 := ⟨n - 1, by omega⟩
      have ih := out_great (m + 1) (by omega) (fun j hj => hf j (by omega))
      rw [Nat.add_sub_cancel] at ih hR
      rw [hL, ih, decide_eq_false h0, Bool.false_or, hR]
      have hz := srt_fin (X := X) (n := m + 1) (fun j hj => hf j (by omega)) m (by omega)
      have hx := hf (m + 1) (by omega)
      rw [ge_sv hx hz]
      have hg := gt_sv hz hx
      have hpm := posn_le (srt X (m + 1)) (X (m + 1)) m
      have hP : posn (srt X (m + 1)) (X (m + 1)) (m + 1) = if gtB (srt X (m + 1) m) (X (m + 1)) = true then posn (srt X (m + 1)) (X (m + 1)) m else m + 1 := rfl
      by_cases hlt : sv single (X (m + 1)) < sv single (srt X (m + 1) m)
      · rw [hg, decide_eq_true hlt, if_pos rfl] at hP
        rw [decide_eq_false (by omega), if_neg (by simp), if_neg (by omega)]
      · rw [hg, decide_eq_false hlt, if_neg (by simp)] at hP
        rw [decide_eq_true (by omega), if_pos rfl, if_pos hP.symm]
theorem out_least {X : Nat → Nat} : ∀ n, 1 ≤ n → (∀ j, j < n → finB (X j) = true) → outF ltB X n = srt X n 0
  | 0, h, _ => absurd h (by omega)
  | n + 1, _, hf => by
    show (if (decide (n = 0) || ltB (X n) (outF ltB X n)) = true then X n else outF ltB X n) = insF (srt X n) (posn (srt X n) (X n) n) (X n) 0
    unfold insF
    by_cases h0 : n = 0
    · subst h0
      rw [if_pos (by simp), if_neg (by unfold posn; omega), if_pos (by unfold posn; rfl)]
    · have hf' : ∀ j, j < n → finB (X j) = true := fun j hj => hf j (by omega)
      have ih := out_least n (by omega) hf'
      rw [ih, decide_eq_false h0, Bool.false_or]
      have hz := srt_fin hf' 0 (by omega)
      have hx := hf n (by omega)
      rw [lt_sv hx hz]
      obtain ⟨h1, h2⟩ := posn_spec hx n (srt_fin hf') (srt_rises n hf')
      by_cases hp : posn (srt X n) (X n) n = 0
      · have := h2 0 (by omega) (by omega)
        rw [decide_eq_true this, if_pos rfl, if_neg (by omega), if_pos hp.symm]
      · have := h1 0 (by omega)
        rw [decide_eq_false (by omega), if_neg (by simp), if_pos (by omega)]
theorem ge_any (x y : Nat) (w : World) : Calls Try.prog 65 #[.float .f32 x, .float .f32 y] w fun e w' => e = .returned (.bool (geB x y)) ∧ w' = w := by
  have hb : geB x y = (FloatKind.f32.format.order x y == some .gt || FloatKind.f32.format.order x y == some .eq) := rfl
  have Hb := Lib.hid hb
  clear hb
  go_enter Try.func65, Try.ntmps65
  go_wp2
  go_ret
  exact ⟨ret_bool (by rw [Hb.out]), rfl⟩
theorem lt_any (x y : Nat) (w : World) : Calls Try.prog 66 #[.float .f32 x, .float .f32 y] w fun e w' => e = .returned (.bool (ltB x y)) ∧ w' = w := by
  have hb : ltB x y = (FloatKind.f32.format.order x y == some .lt) := rfl
  have Hb := Lib.hid hb
  clear hb
  go_enter Try.func66, Try.ntmps66
  go_wp2
  go_ret
  exact ⟨ret_bool (by rw [Hb.out]), rfl⟩
theorem ent_ge : ∀ args w, (callFunc 65 args).run Try.prog w = .ok (.enter 65 args) w := ent _ _ _ Try.func65 (by kernel_rfl) rfl
theorem ent_lt : ∀ args w, (callFunc 66 args).run Try.prog w = .ok (.enter 66 args) w := ent _ _ _ Try.func66 (by kernel_rfl) rfl
set_option maxHeartbeats 400000 in
theorem outer_any (P : Nat → Nat → Bool) (g : FuncId) (hcf : ∀ args w, (callFunc g args).run Try.prog w = .ok (.enter g args) w) (hcall : ∀ x y w, Calls Try.prog g #[.float .f32 x, .float .f32 y] w fun e w' => e = .returned (.bool (P x y)) ∧ w' = w)
    (a : Option Addr) (len cap : Nat) (X : Nat → Nat) (w : World) (hl : len ≤ 1048576) (h : LstF w a len X) :
    Calls Try.prog 64 #[.slice a len cap, .func (.func g) #[] #[]] w fun e w' => e = .returned (.float .f32 (outF P X len)) ∧ w' = w := by
  have H := Lib.hid h
  have Hcall := Lib.hid hcall
  clear h hcall
  go_enter Try.func64, Try.ntmps64
  go_wp2_with fail
  go_loopw [5, 10] (fun s i wr => ∃ k : Nat, i = .int .i64 k ∧ s = .float .f32 (outF P X k) ∧ k ≤ len ∧ wr = w)
    (fun _ i _ => len - (intOf i).toNat)
  case atStart => exact ⟨0, rfl, rfl, Nat.zero_le _, by first | rfl | trivial⟩
  case round =>
    obtain ⟨k, rfl, rfl, hk, hwr⟩ := hrel
    subst hwr
    by_cases hkl : k < len
    · obtain ⟨b, off, ha, hlt, hc⟩ := LstF.cells H.out (by omega)
      subst ha
      have a0 := hc k hkl
      have Hstep := Lib.hid (show outF P X (k + 1) = if (decide (k = 0) || P (X k) (outF P X k)) = true then X k else outF P X k from rfl)
      clear hc
      generalize outF P X k = s0 at *
      obtain ⟨s1, hs1⟩ : ∃ s1, outF P X (k + 1) = s1 := ⟨_, rfl⟩
      rw [hs1] at Hstep
      have Hs1 := Lib.hid hs1
      clear hs1
      by_cases h0 : (k : Int) = 0
      · have E1 := Lib.hid (show s1 = X k by rw [Hstep.out, decide_eq_true (by omega), Bool.true_or, if_pos rfl])
        have a00 : wr.cell? ⟨b, off, none⟩ = some (.float .f32 (X k)) := by have := a0; rwa [show off + k = off by omega] at this
        have h01 : k = 0 := by omega
        go_wp2_with fail
        go_roundw
        case rel => exact ⟨k + 1, by first | go_num | (simp; omega) | (rw [h01]; rfl), by rw [Hs1.out, E1.out]; first | rfl | rw [h01], by omega, by first | rfl | trivial⟩
        case measure => simp [intOf]; omega
      · have e1 : s1 = if P (X k) s0 = true then X k else s0 := by rw [Hstep.out, decide_eq_false (by omega), Bool.false_or]
        have E1 := Lib.hid e1
        clear e1
        go_wp2_with fail
        refine (Hcall.out _ _ _).mono ?_
        rintro e w9 ⟨rfl, hw9⟩
        subst w9
        cases hb : P (X k) s0
        · rw [hb] at E1
          clear hb
          go_wp2_with fail
          go_roundw
          case rel => exact ⟨k + 1, by go_num, by rw [Hs1.out, E1.out]; rfl, by omega, by first | rfl | trivial⟩
          case measure => simp [intOf]; omega
        · rw [hb] at E1
          clear hb
          go_wp2_with fail
          go_roundw
          case rel => exact ⟨k + 1, by go_num, by rw [Hs1.out, E1.out]; rfl, by omega, by first | rfl | trivial⟩
          case measure => simp [intOf]; omega
    · obtain rfl : k = len := by omega
      go_wp2_with fail
      go_ret
      exact ⟨rfl, rfl⟩
set_option maxHeartbeats 400000 in
theorem spreadOf_any (a : Option Addr) (len cap : Nat) (X : Nat → Nat) (w : World) (hg : meanB len X = true) (h : LstF w a len X) :
    Calls Try.prog 50 #[.slice a len cap] w fun e w' => Below w.heap.size w w' ∧ ((e = .returned (.float .f32 (sprD len X)) ∧ finB (sprD len X) = true) ∨ (e = .panicked left ∧ finB (sprD len X) = false)) := by
  have H := Lib.hid h
  have Hst := Lib.hid (fun q : Nat => below_drewN (Below.refl w.heap.size w) q)
  clear h
  obtain ⟨hq, h1⟩ := meanB_iff.1 hg
  obtain ⟨h64, hfin⟩ := good_iff.1 hq
  obtain ⟨i0, hi0, m0⟩ := srt_mem X len 0 (by omega)
  obtain ⟨i1, hi1, m1⟩ := srt_mem X len (len - 1) (by omega)
  have f0 : finB (srt X len 0) = true := by rw [m0]; exact hfin i0 hi0
  have f1 : finB (srt X len (len - 1)) = true := by rw [m1]; exact hfin i1 hi1
  have ks := fun w => run_float_arith (P := Try.prog) w .sub 30 .f32 _ _ _ (sub_fin f1 f0)
  have hd : subB (srt X len (len - 1)) (srt X len 0) = sprD len X := rfl
  rw [hd] at ks
  have C1 := Lib.hid (outer_any geB _ ent_ge ge_any a len cap X w (by omega) H.out)
  have C2 := Lib.hid (outer_any ltB _ ent_lt lt_any a len cap X w (by omega) H.out)
  rw [out_great len h1 hfin] at C1
  rw [out_least len h1 hfin] at C2
  clear m0 m1 f0 f1 hfin hd hq hg
  obtain ⟨d, hd⟩ : ∃ d, sprD len X = d := ⟨_, rfl⟩
  rw [hd] at ks
  have Hdd := Lib.hid hd
  clear hd
  have kw := fun w => run_widX (P := Try.prog) 30 23 d (by rw [Try.underlying30]; rfl) Try.underlying23 w
  generalize srt X len (len - 1) = y at *
  generalize srt X len 0 = z at *
  rw [Hdd.out]
  go_enter Try.func50, Try.ntmps50
  go_wp2_with fail
  refine C1.out.mono ?_
  rintro e w9 ⟨rfl, hw9⟩
  subst w9
  go_wp2_with fail
  refine C2.out.mono ?_
  rintro e w9 ⟨rfl, hw9⟩
  subst w9
  go_wp2_with fail
  refine (fin_any _ _ (widX_wid d _).1).mono ?_
  rintro e w9 ⟨rfl, hw9⟩
  subst w9
  rw [isFin_wid (widX_wid d _)]
  cases hf : finB d
  · go_wp2_with fail
    refine (leave_no _).mono ?_
    rintro e w9 ⟨rfl, hw9⟩
    subst w9
    go_wp2_with fail
    exact ⟨rfl, Hst.out _, .inr ⟨rfl, by first | rfl | exact hf⟩⟩
  · go_wp2_with fail
    refine (leave_yes _).mono ?_
    rintro e w9 ⟨rfl, hw9⟩
    subst w9
    go_wp2_with fail
    go_ret
    exact ⟨Hst.out _, .inl ⟨rfl, by first | rfl | exact hf⟩⟩
theorem ent_spread : ∀ args w, (callFunc 50 args).run Try.prog w = .ok (.enter 50 args) w := ent _ _ _ Try.func50 (by kernel_rfl) rfl
theorem reck_spread (a : Option Addr) (len cap : Nat) (X : Nat → Nat) (w : World) (hl : len ≤ 1048576) (h : LstF w a len X) :
    Calls Try.prog 46 #[.slice a len cap, .int .i64 1, .func (.func 50) #[] #[]] w fun e w' => e = .returned (.tuple #[.float .f32 (sprN len X), .bool (sprB len X)]) ∧ Below w.heap.size w w' := by
  have hno : sprB len X = false → sprN len X = 0 := fun hb => by unfold sprN; rw [if_neg (by rw [hb]; exact Bool.false_ne_true)]
  by_cases h1 : len < 1 ∨ 64 < len
  · have hk : sprB len X = false := by
      unfold sprB meanB
      rcases h1 with h1 | h1
      · rw [decide_eq_false (by omega), Bool.and_false, Bool.false_and]
      · rw [← good_out h1, Bool.false_and, Bool.false_and]
    rw [hno hk, hk]
    exact reck_few_F a len cap 1 _ w hl (by omega) h1
  · have hle : 1 ≤ len := by omega
    have h64 : len ≤ 64 := by omega
    cases hq : goodB len X
    · have hk : sprB len X = false := by unfold sprB meanB; rw [hq, Bool.false_and, Bool.false_and]
      rw [hno hk, hk]
      exact reck_bad_F a len cap 1 _ X w hle h64 h hq
    · have hm : meanB len X = true := meanB_iff.2 ⟨hq, hle⟩
      refine (reck_go_F (fun v _ => v = .float .f32 (sprD len X) ∧ finB (sprD len X) = true) (finB (sprD len X) = false) _ #[] ent_spread a len cap 1 X w hle h64 h hq (fun w1 hL _ _ => ?_)).mono ?_
      · refine (spreadOf_any a len cap X w1 hm hL).mono ?_
        rintro e wX ⟨hb, hr⟩
        refine ⟨hb, ?_⟩
        rcases hr with ⟨rfl, hf⟩ | ⟨rfl, hf⟩
        · exact .inl ⟨_, rfl, rfl, hf⟩
        · exact .inr ⟨rfl, hf⟩
      · rintro e w' ⟨hb, hr⟩
        refine ⟨?_, hb⟩
        rcases hr with ⟨v, wX, rfl, ⟨rfl, hf⟩, _⟩ | ⟨rfl, hf⟩
        · have hk : sprB len X = true := by unfold sprB; rw [hm, hf]; rfl
          unfold sprN
          rw [hk, if_pos rfl]
        · have hk : sprB len X = false := by unfold sprB; rw [hm, hf]; rfl
          rw [hno hk, hk]
theorem impl_spread (a : Option Addr) (len cap : Nat) (X : Nat → Nat) (w : World) (hl : len ≤ 1048576) (h : LstF w a len X) :
    Calls Try.prog 26 #[.slice a len cap] w fun e w' => e = .returned (.tuple #[.float .f32 (sprN len X), .bool (sprB len X)]) ∧ Below w.heap.size w w' := by
  have HR := Lib.hid (reck_spread a len cap X w hl h)
  clear h
  go_enter Try.func26, Try.ntmps26
  go_wp2_with fail
  refine HR.out.mono ?_
  rintro e w' ⟨rfl, hb⟩
  have Hb := Lib.hid hb
  clear hb
  go_wp2_with fail
  go_ret2
  exact ⟨rfl, Hb.out⟩
theorem sprN_fin (n : Nat) (X : Nat → Nat) : finB (sprN n X) = true := by
  unfold sprN
  split
  · rename_i h
    unfold sprB at h
    rw [Bool.and_eq_true] at h
    exact h.2
  · decide
theorem sprN_wf (n : Nat) (X : Nat → Nat) : (Lit.float .f32 (sprN n X)).wf = true := by
  unfold sprN
  split
  · rename_i h
    unfold sprB at h
    rw [Bool.and_eq_true] at h
    obtain ⟨hq, h1⟩ := meanB_iff.1 h.1
    have hf := srt_fin (good_iff.1 hq).2
    exact subB_wf (hf _ (by omega)) (hf 0 (by omega))
  · rfl
end Go.Proofs.Ytlbapogmcnpmeaa.Avg
