/- The walk of FnCodeClose: it returns true. -/
import Derived.Test.YtmnpmbliikalhaaRows
import Derived.Test.YtmnpmbliikalhaaRngNear
import Derived.Test.YtmnpmbliikalhaaRngCode
import Derived.Test.YtmnpmbliikalhaaRngVal
import Derived.Test.YtmnpmbliikalhaaFltU
namespace Go.Proofs.Ytmnpmbliikalhaa.fnCodeClose
open Go.ChangeShapes Go.WideShapes Go.ChangeAt Go.RowKit Go.Proofs.Ytmnpmbliikalhaa Go.Proofs.Ytmnpmbliikalhaa.Flt Go.Proofs.Ytmnpmbliikalhaa.Mth Go.Proofs.Ytmnpmbliikalhaa.Rng
set_option linter.unusedVariables false
theorem codeV_bounds {n : Nat} {X : Nat → Nat} {k x : Nat} (ho : okB n X = true) (hk : k < n) (wx : (Lit.float .f32 x).wf = true) : -32767 ≤ codeV n X (k : Int) x ∧ codeV n X (k : Int) x ≤ 32767 := by
  unfold codeV
  split
  · rename_i h
    unfold codeB at h
    have hF := full_at ho hk
    rw [Int.toNat_natCast, le_full wx hF, Bool.and_eq_true] at h
    exact codeI_bounds hF.2.1 (of_decide_eq_true h.2)
  · omega
theorem over_code {n : Nat} {X : Nat → Nat} {k x : Nat} (hh : hasB n X (k : Int) = true) : overB n X (k : Int) x = !codeB n X (k : Int) x := by
  unfold overB codeB
  rw [hh]; rfl
theorem valF_eq {n : Int} {F : Nat} (hn : n.natAbs ≤ 32767) (hF : Full F) : valF n F = Ieee.single.word (decide (n < 0)) (valN n.natAbs (rung Ieee.single F)) := by
  have h1 := (natRung_mg hn).2
  have hs : natRung n.natAbs < Ieee.single.signWeight := by rw [sw_single]; omega
  have e0 : floatOfInt .f32 n = Ieee.single.word (decide (n < 0)) (natRung n.natAbs) := ofInt32 n
  have hr : rung Ieee.single (floatOfInt .f32 n) = natRung n.natAbs := by rw [e0, rung_word Ieee.single _ hs]
  have hsg : sgn Ieee.single (floatOfInt .f32 n) = decide (n < 0) := by rw [e0, sgn_word Ieee.single _ hs]
  have e1 := div_rr Ieee.single least_le (x := floatOfInt .f32 n) (y := 1191181824) (by rw [hr, inf_single]; omega) (by rw [rung_max, inf_single]; decide) (by rw [rung_max]; decide)
  rw [hr, hsg, rung_max, sgn_max, Bool.xor_false] at e1
  have hq := quo_le_one (r := natRung n.natAbs) (s := 1191181824) (by omega) h1
  have hqs : quoRung Ieee.single (natRung n.natAbs) 1191181824 < Ieee.single.signWeight := by rw [sw_single]; omega
  have e2 := mul_rr Ieee.single least_le (x := Ieee.single.word (decide (n < 0)) (quoRung Ieee.single (natRung n.natAbs) 1191181824)) (y := F) (by rw [rung_word Ieee.single _ hqs, inf_single]; omega) hF.1
  rw [rung_word Ieee.single _ hqs, sgn_word Ieee.single _ hqs, hF.2.2, Bool.xor_false] at e2
  unfold valF
  rw [show floatBits .quo .f32 (floatOfInt .f32 n) 1191181824 = _ from e1, Option.getD_some, show floatBits .mul .f32 (Ieee.single.word (decide (n < 0)) (quoRung Ieee.single (natRung n.natAbs) 1191181824)) F = _ from e2, Option.getD_some]
  rfl
theorem valN_zero (F : Nat) : valN 0 F = 0 := by
  have z0 : natRung 0 = 0 := by
    apply (mg_eq_zero Ieee.single).1
    rw [(natRung_mg (c := 0) (by omega)).1, Nat.zero_mul]
  have z1 : quoRung Ieee.single 0 1191181824 = 0 := Nat.le_zero.1 (quo_le_of (fun e => by cases e) (by rw [mg_zero, Nat.zero_mul]; exact Nat.zero_le _))
  unfold valN
  rw [z0, z1]
  exact Nat.le_zero.1 (mul_le_of (by rw [mg_zero, Nat.zero_mul]; exact Nat.zero_le _))
theorem full_ge {F d u : Nat} (h : isRB F d u = true) : 228737632 ≤ rung Ieee.single F := by
  have hF := full_of h
  unfold isRB at h
  simp only [Bool.and_eq_true] at h
  have h4 := h.1.2
  rw [ge32] at h4
  simp only [Bool.and_eq_true, decide_eq_true_eq] at h4
  have h5 := h4.2
  rw [sv_pos hF.2.2, sv_pos (show sgn Ieee.single 228737632 = false by decide), show rung Ieee.single 228737632 = 228737632 by decide, Int.ofNat_le] at h5
  exact (mg_le_iff Ieee.single).1 h5
/-- the value of a code: it is there, it is in the range, and not far from the reading -/
theorem value_facts {n : Nat} {X : Nat → Nat} {k x : Nat} (ho : okB n X = true) (hk : k < n) (hh : hasB n X (k : Int) = true) (wx : (Lit.float .f32 x).wf = true) :
    valB n X (k : Int) (codeV n X (k : Int) x) = true ∧ rung Ieee.single (valV n X (k : Int) (codeV n X (k : Int) x)) < Ieee.single.infRung ∧ overB n X (k : Int) (valV n X (k : Int) (codeV n X (k : Int) x)) = false ∧
    (codeB n X (k : Int) x = true → rung Ieee.single x < Ieee.single.infRung ∧ 16000 * (sv Ieee.single (valV n X (k : Int) (codeV n X (k : Int) x)) - sv Ieee.single x).natAbs ≤ mg Ieee.single (rung Ieee.single (X (k * 3)))) := by
  have hb := codeV_bounds ho hk wx
  have hF := full_at ho hk
  have hge : 228737632 ≤ rung Ieee.single (X (k * 3)) := by
    have := okB_at ho hk
    unfold okAt at this
    rw [Bool.and_eq_true] at this
    exact full_ge this.1
  obtain ⟨c, hcv⟩ : ∃ c, codeV n X (k : Int) x = c := ⟨_, rfl⟩
  rw [hcv] at hb
  have hvb : valB n X (k : Int) c = true := by unfold valB; rw [hh, Bool.true_and]; exact decide_eq_true hb
  have hvv : valV n X (k : Int) c = Ieee.single.word (decide (c < 0)) (valN c.natAbs (rung Ieee.single (X (k * 3)))) := by
    unfold valV
    rw [if_pos hvb, Int.toNat_natCast]
    exact valF_eq (by omega) hF
  have hle : valN c.natAbs (rung Ieee.single (X (k * 3))) ≤ rung Ieee.single (X (k * 3)) := val_le (by omega)
  have hlt : valN c.natAbs (rung Ieee.single (X (k * 3))) < Ieee.single.signWeight := Nat.lt_of_le_of_lt hle (rung_lt Ieee.single _)
  have hrv : rung Ieee.single (valV n X (k : Int) c) = valN c.natAbs (rung Ieee.single (X (k * 3))) := by rw [hvv, rung_word Ieee.single _ hlt]
  rw [hcv]
  refine ⟨hvb, by rw [hrv]; exact Nat.lt_of_le_of_lt hle hF.1, ?_, fun hcb => ?_⟩
  · unfold overB
    rw [hh, Int.toNat_natCast, le_full (valV_wf n X (k : Int) c) hF, hrv, decide_eq_true hle]; rfl
  · have hcb' := hcb
    unfold codeB at hcb'
    rw [Int.toNat_natCast, le_full wx hF, Bool.and_eq_true] at hcb'
    have hxl : rung Ieee.single x ≤ rung Ieee.single (X (k * 3)) := of_decide_eq_true hcb'.2
    refine ⟨Nat.lt_of_le_of_lt hxl hF.1, ?_⟩
    have hci : c = if sgn Ieee.single x = true then -(codeN (rung Ieee.single x) (rung Ieee.single (X (k * 3))) : Int) else (codeN (rung Ieee.single x) (rung Ieee.single (X (k * 3))) : Int) := by
      rw [← hcv]
      unfold codeV codeI
      rw [hcb, if_pos rfl, Int.toNat_natCast, hF.2.2, Bool.xor_false]
    have hcn : c.natAbs = codeN (rung Ieee.single x) (rung Ieee.single (X (k * 3))) := by
      rw [hci]
      generalize codeN (rung Ieee.single x) (rung Ieee.single (X (k * 3))) = N
      split
      · rw [Int.natAbs_neg, Int.natAbs_natCast]
      · rw [Int.natAbs_natCast]
    have hcl := close_units hxl hge hF.1
    have hw := word_sv Ieee.single (decide (c < 0)) (r := valN c.natAbs (rung Ieee.single (X (k * 3)))) (Nat.le_of_lt (Nat.lt_of_le_of_lt hle hF.1))
    rw [hvv, hw]
    have hz : c = 0 → valN c.natAbs (rung Ieee.single (X (k * 3))) = 0 := by
      intro e
      rw [show c.natAbs = 0 by omega]
      exact valN_zero _
    rw [hcn] at hz ⊢
    have hsv : sv Ieee.single x = if sgn Ieee.single x = true then -((mg Ieee.single (rung Ieee.single x) : Nat) : Int) else ((mg Ieee.single (rung Ieee.single x) : Nat) : Int) := rfl
    rw [hsv]
    have hm0 := mg_zero Ieee.single
    generalize valN (codeN (rung Ieee.single x) (rung Ieee.single (X (k * 3)))) (rung Ieee.single (X (k * 3))) = V at *
    generalize codeN (rung Ieee.single x) (rung Ieee.single (X (k * 3))) = N at *
    have hVz : c = 0 → mg Ieee.single V = 0 := fun e => by rw [hz e, hm0]
    generalize mg Ieee.single V = mV at *
    generalize mg Ieee.single (rung Ieee.single x) = mX at *
    generalize mg Ieee.single (rung Ieee.single (X (k * 3))) = mF at *
    cases hsx : sgn Ieee.single x
    · rw [hsx, if_neg Bool.false_ne_true] at hci
      rw [show decide (c < 0) = false from decide_eq_false (by omega), if_neg Bool.false_ne_true, if_neg Bool.false_ne_true]
      omega
    · rw [hsx, if_pos rfl] at hci
      rw [if_pos (rfl : true = true)]
      by_cases h0 : c < 0
      · rw [decide_eq_true h0, if_pos rfl]; omega
      · have := hVz (by omega)
        rw [decide_eq_false h0, if_neg Bool.false_ne_true]; omega
set_option maxHeartbeats 1600000 in
theorem walk (a : Option Addr) (len cap : Nat) (zs : List Int) (w : World) (hr : IsRow .u8 w a len cap zs) :
    Calls Try.prog 5 #[.slice a len cap] w fun x w' => x = .returned (.bool true) ∧ Below w.heap.size w w' := by
  by_cases hl : (len : Int) ≤ 1048576
  · go_enter Try.func5, Try.ntmps5
    go_wp2_with fail
    refine (Drw.big_no _ _ _ _ hl).mono ?_
    rintro e w ⟨rfl, rfl⟩
    go_wp2_with fail
    refine (draw_ranges a len cap zs _ hr).mono ?_
    rintro e w1 ⟨g, n, cp, X, x, rfl, n1, n5, hok, hwf, hg, hc, wx, hb⟩
    have HL := Lib.hid (show Lst w1 (some ⟨g, 0, none⟩) n X from ⟨hwf, .inr ⟨g, 0, rfl, hg, hc⟩⟩)
    have Hb := Lib.hid hb
    have HO := Lib.hid hok
    have hn20 : n ≤ 1048576 := by omega
    have hh : ∀ k : Nat, k < n → hasB n X (k : Int) = true := fun k hk => by unfold hasB; rw [hok, Bool.true_and]; exact decide_eq_true (by omega)
    have HH := Lib.hid hh
    have HCells := Lib.hid hc
    clear hr hl hwf hc hb hh
    have H0 := Lib.hid (Below.refl w1.heap.size w1)
    go_wp2_with fail
    go_loopw [5] (fun i wr => ∃ k : Nat, i = .int .i64 k ∧ k ≤ n ∧ Below w1.heap.size w1 wr)
      (fun i _ => n - (intOf i).toNat)
    case atStart => exact ⟨0, rfl, Nat.zero_le _, H0.out⟩
    case round =>
      obtain ⟨k, rfl, hk, hbel⟩ := hrel
      have Hr := Lib.hid hbel
      have hsz := hbel.size
      clear hbel
      by_cases hkl : k < n
      · obtain ⟨f1, f2, f3, f4⟩ := value_facts (x := x) HO.out hkl (HH.out k hkl) wx
        obtain ⟨b, hcb⟩ : ∃ b, codeB n X (k : Int) x = b := ⟨_, rfl⟩
        obtain ⟨c, hcv⟩ : ∃ c, codeV n X (k : Int) x = c := ⟨_, rfl⟩
        have Hc := Lib.hid (And.intro hcv hcb)
        rw [hcv] at f1 f2 f3 f4
        rw [hcb] at f4
        have wv := valV_wf n X (k : Int) c
        obtain ⟨v, hv⟩ : ∃ v, valV n X (k : Int) c = v := ⟨_, rfl⟩
        have Hv := Lib.hid (And.intro hv f1)
        rw [hv] at f2 f3 f4 wv
        have Ho := Lib.hid f3
        have nv : isNaN Ieee.single v = false := by unfold isNaN; exact decide_eq_false (by omega)
        have kv := fun w => run_widen (P := Try.prog) 25 35 v under25 Try.underlying35 nv w
        have F4 := Lib.hid f4
        have F2 := Lib.hid f2
        clear f1 f2 f3 f4 hcv hcb hv nv
        cases b
        · have kx := fun w => run_widX (P := Try.prog) 25 35 x under25 Try.underlying35 w
          go_wp2_with fail
          refine (implCode _ _ _ X _ x wx _ hn20 (HL.out.keep Hr.out)).mono ?_
          rintro e w3 ⟨rfl, hb3⟩
          have H3 := Lib.hid (Hr.out.trans (hb3.mono hsz))
          clear hb3
          rw [Hc.out.1, Hc.out.2]
          go_wp2_with fail
          refine (implVal _ _ _ X _ c _ hn20 (HL.out.keep H3.out)).mono ?_
          rintro e w4 ⟨rfl, hb4⟩
          have H4 := Lib.hid (H3.out.trans (hb4.mono H3.out.size))
          clear hb4
          rw [Hv.out.1, Hv.out.2]
          go_wp2_with fail
          refine (implOver _ _ _ X _ v wv _ hn20 (HL.out.keep H4.out)).mono ?_
          rintro e w5 ⟨rfl, hb5⟩
          have H5 := Lib.hid (H4.out.trans (hb5.mono H4.out.size))
          clear hb5
          rw [Ho.out]
          obtain ⟨d, nd, _, _, kd⟩ := run_float_any (P := Try.prog) .sub (.inr (.inl rfl)) 35 .f64 (widen v) (widX x w5) (w5.drewN (ndr x))
          go_wp2_with fail
          go_roundw
          case rel => exact ⟨k + 1, by go_num, by omega, by repeat (first | exact H5.out | refine below_drewN ?_ _)⟩
          case measure => simp [intOf]; omega
        · obtain ⟨fx, fd⟩ := F4.out rfl
          have hF := full_at HO.out hkl
          obtain ⟨d, q, hd, hq, hl1, hl2⟩ := close64 F2.out fx hF.1 hF.2.2 fd
          have nx : isNaN Ieee.single x = false := by unfold isNaN; exact decide_eq_false (by omega)
          have nF : isNaN Ieee.single (X (k * 3)) = false := by have := hF.1; unfold isNaN; exact decide_eq_false (by omega)
          have kx := fun w => run_widen (P := Try.prog) 25 35 x under25 Try.underlying35 nx w
          have kF := fun w => run_widen (P := Try.prog) 25 35 (X (k * 3)) under25 Try.underlying35 nF w
          have kd := fun w => run_float_arith (P := Try.prog) w .sub 35 _ _ _ _ hd
          have kq := fun w => run_float_arith (P := Try.prog) w .quo 35 _ _ _ _ hq
          unfold leD at hl1 hl2
          clear hd hq nx nF fd hF
          go_wp2_with fail
          refine (implCode _ _ _ X _ x wx _ hn20 (HL.out.keep Hr.out)).mono ?_
          rintro e w3 ⟨rfl, hb3⟩
          have H3 := Lib.hid (Hr.out.trans (hb3.mono hsz))
          clear hb3
          rw [Hc.out.1, Hc.out.2]
          go_wp2_with fail
          refine (implVal _ _ _ X _ c _ hn20 (HL.out.keep H3.out)).mono ?_
          rintro e w4 ⟨rfl, hb4⟩
          have H4 := Lib.hid (H3.out.trans (hb4.mono H3.out.size))
          clear hb4
          rw [Hv.out.1, Hv.out.2]
          go_wp2_with fail
          refine (implOver _ _ _ X _ v wv _ hn20 (HL.out.keep H4.out)).mono ?_
          rintro e w5 ⟨rfl, hb5⟩
          have H5 := Lib.hid (H4.out.trans (hb5.mono H4.out.size))
          clear hb5
          rw [Ho.out]
          obtain ⟨q0, q1, q2⟩ := (HCells.out.keep hg H5.out) k hkl
          rw [Nat.zero_add] at q0 q1 q2
          go_wp2_with fail
          go_roundw
          case rel => exact ⟨k + 1, by go_num, by omega, by repeat (first | exact H5.out | refine below_drewN ?_ _)⟩
          case measure => simp [intOf]; omega
      · obtain rfl : k = n := by omega
        go_wp2_with fail
        go_ret
        exact ⟨rfl, Hb.out.trans (Hr.out.mono Hb.out.size)⟩
  · go_enter Try.func5, Try.ntmps5
    go_wp2_with fail
    refine (Drw.big_yes _ _ _ _ (by omega)).mono ?_
    rintro e w ⟨rfl, rfl⟩
    go_wp2_with fail
    go_ret
    exact ⟨rfl, Below.refl _ _⟩
end Go.Proofs.Ytmnpmbliikalhaa.fnCodeClose
