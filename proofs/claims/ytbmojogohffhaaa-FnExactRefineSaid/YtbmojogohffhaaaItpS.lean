/- Interpolate in the model. -/
import Derived.Test.YtbmojogohffhaaaItp
namespace Go.Proofs.Ytbmojogohffhaaa.Pnt
open Go.ChangeShapes Go.WideShapes Go.ChangeAt Go.RowKit Go.Proofs.Ytbmojogohffhaaa Go.Proofs.Ytbmojogohffhaaa.Flt Go.Proofs.Ytbmojogohffhaaa.Mth
open Ieee (single double)
set_option linter.unusedVariables false
theorem conv_self (r : Nat) (w : World) : (convert 25 25 (.float .f32 r)).run Try.prog w = .ok (.float .f32 r) w := by
  have hu : Try.prog.underlying 25 = some (.float .f32) := Try.underlying25
  simp [convert, run_underlying hu, Conv.floatToFloat]
set_option maxRecDepth 100000 in
set_option maxHeartbeats 1600000 in
theorem specItp (a : Option Addr) (len cap : Nat) (X : Nat → Nat) (x : Nat) (w : World) (hl : len ≤ 1048576) (h : Lst w a len X) :
    Calls Try.prog 30 #[.slice a len cap, .float .f32 x] w fun e w' => e = .returned (.tuple #[.float .f32 (ipV len X x), .bool (segIn len X x)]) ∧ Below w.heap.size w w' := by
  have H := Lib.hid h
  clear h
  cases hin : segIn len X x
  · have Hs := Lib.hid (show segV len X x = -1 from segV_out hin)
    have Hf := Lib.hid (show 0 = ipV len X x by unfold ipV; rw [if_neg (by rw [hin]; exact Bool.false_ne_true)])
    clear hin
    go_enter Try.func30, Try.ntmps30
    go_wp2_with fail
    refine (specSeg _ _ _ X x _ hl H.out).mono ?_
    rintro e w1 ⟨rfl, n, rfl⟩
    rw [Hs.out]
    go_wp2_with fail
    go_ret2
    exact ⟨by rw [← Hf.out]; rfl, below_drewN (Below.refl _ _) n⟩
  · have hok := (segIn_ok hin).1
    have hb12 := okP_bounds hok
    have hk := segN_is (X := X) (x := x) hb12.1
    have hbt := seg_betw hin hk
    obtain ⟨b, off, rfl, hlt, hcells⟩ := H.out.cells (by omega)
    have Hc := Lib.hid hcells
    have Hs := Lib.hid (segV_in hin)
    have Hat := Lib.hid (fun j (hj : j < len) he => itV_at hin hj he)
    have Hno := Lib.hid (itV_no hin)
    have Hip := Lib.hid (show ipV len X x = itV len X x by unfold ipV; rw [if_pos hin])
    obtain ⟨k, hkk⟩ : ∃ k, segN len X x = k := ⟨_, rfl⟩
    rw [hkk] at hk hbt Hs Hno
    have hk1 := hk.1
    clear hcells hin hok hkk hk
    go_enter Try.func30, Try.ntmps30
    go_wp2_with fail
    refine (specSeg _ _ _ X x _ hl H.out).mono ?_
    rintro e w1 ⟨rfl, n, hw1⟩
    rw [Hs.out]
    have hbel := hw1 ▸ below_drewN (Below.refl w.heap.size w) n
    have Hb1 := Lib.hid hbel
    have Hc1 := Lib.hid (Hc.out.keep hlt hbel)
    have hsz1 : w.heap.size ≤ w1.heap.size := hbel.size
    have hlt1 : b < w1.heap.size := Nat.lt_of_lt_of_le hlt hsz1
    clear hw1 hbel
    have hk0 : ¬ ((k : Int) < 0) := by omega
    go_wp2_with fail
    go_loopw [7] (fun i wr => ∃ j : Nat, i = .int .i64 j ∧ j ≤ len ∧ Hid (∀ q, q < j → eqB (X (q * 2)) x = false) ∧ wr = w1)
      (fun i _ => len - (intOf i).toNat)
    case atStart => exact ⟨0, rfl, Nat.zero_le _, Lib.hid (fun q hq => absurd hq (Nat.not_lt_zero _)), by first | rfl | trivial⟩
    case round =>
      obtain ⟨j, rfl, hj, hall, rfl⟩ := hrel
      by_cases hjl : j < len
      · have hjl' : (j : Int) < len := by omega
        obtain ⟨r0, r1⟩ := Hc1.out j hjl
        obtain ⟨c, hc⟩ : ∃ c, eqB (X (j * 2)) x = c := ⟨_, rfl⟩
        have HC := Lib.hid hc
        unfold eqB at hc
        cases c
        · clear r1
          go_wp2_with fail
          go_roundw
          case rel => exact ⟨j + 1, by go_num, hjl, Lib.hid (fun q hq => by
            by_cases e : q = j
            · rw [e]; exact HC.out
            · exact hall.out q (by omega)), by first | rfl | trivial⟩
          case measure => simp [intOf]; omega
        · have Hv := Lib.hid (Hat.out j hjl HC.out : itV len X x = X (j * 2 + 1))
          go_wp2_with fail
          go_ret2
          exact ⟨by rw [Hip.out, Hv.out]; rfl, Hb1.out⟩
      · obtain rfl : j = len := by omega
        have hjl' : ¬ (j : Int) < (j : Int) := by omega
        have Hv := Lib.hid (Hno.out hall.out)
        obtain ⟨a0, a1⟩ := Hc1.out k (by omega)
        obtain ⟨b0, b1⟩ := Hc1.out (k + 1) hk1
        have ks := fun W => run_float_arith (P := Try.prog) W .sub 25 .f32 _ _ _ (sub_fin hbt.fx hbt.fx0)
        have kd := fun W => run_float_arith (P := Try.prog) W .sub 25 .f32 _ _ _ (sub_fin hbt.fx1 hbt.fx0)
        have ky := fun W => run_float_arith (P := Try.prog) W .sub 25 .f32 _ _ _ (sub_fin hbt.fy1 hbt.fy0)
        have kq := fun W => run_float_arith (P := Try.prog) W .quo 25 .f32 _ _ _ hbt.t_some
        have km := fun W => run_float_arith (P := Try.prog) W .mul 25 .f32 _ _ _ hbt.p_some
        have ka := fun W => run_float_arith (P := Try.prog) W .add 25 .f32 _ _ _ hbt.r_some
        have kc := fun r W => conv_self r W
        have hw1 : IntKind.i64.wrap ((k : Int) + 1) = ((k + 1 : Nat) : Int) := by rw [IntKind.wrap_i64]; omega
        have Hb2 := Lib.hid (show Below w.heap.size w ((wr.alloc (.cells #[.float .f32 (X (k * 2)), .float .f32 (X (k * 2 + 1))] 32)).alloc (.cells #[.float .f32 (X ((k + 1) * 2)), .float .f32 (X ((k + 1) * 2 + 1))] 32)) from (Hb1.out.alloc hsz1 _).alloc (by rw [sz_alloc]; omega) _)
        clear hall hbt
        go_wp2_with fail
        go_ret2
        exact ⟨by rw [Hip.out, Hv.out]; rfl, Hb2.out⟩
end Go.Proofs.Ytbmojogohffhaaa.Pnt
