/- TableRises in the model and in the program. -/
import Derived.Test.YtbmojogohffhaaaItp
import Derived.Test.YtbmojogohffhaaaTabI
namespace Go.Proofs.Ytbmojogohffhaaa.Pnt
open Go.ChangeShapes Go.WideShapes Go.ChangeAt Go.RowKit Go.Proofs.Ytbmojogohffhaaa Go.Proofs.Ytbmojogohffhaaa.Flt Go.Proofs.Ytbmojogohffhaaa.Mth
open Ieee (single double)
set_option linter.unusedVariables false
/-- the later point lies higher -/
def upB (x y x' y' : Nat) : Bool := gtB y' y
def risB (n : Nat) (X : Nat → Nat) : Bool := okP n X && nbB n X upB
theorem enter_up (args : Array Value) (w : World) : (callFunc 63 args).run Try.prog w = .ok (.enter 63 args) w := run_enter ⟨_, _, Try.func63, by kernel_rfl, rfl⟩ args w
theorem up_any (x y x' y' : Nat) (w : World) :
    Calls Try.prog 63 #[.agg #[.float .f32 x, .float .f32 y], .agg #[.float .f32 x', .float .f32 y']] w fun e w' => e = .returned (.bool (upB x y x' y')) ∧ Below w.heap.size w w' := by
  have HB := Lib.hid (((Below.refl w.heap.size w).alloc (Nat.le_refl _) (.cells #[.float .f32 x, .float .f32 y] 32)).alloc (by rw [sz_alloc]; omega) (.cells #[.float .f32 x', .float .f32 y'] 32))
  obtain ⟨c, h1⟩ : ∃ c, upB x y x' y' = c := ⟨_, rfl⟩
  rw [h1]
  unfold upB gtB at h1
  go_enter Try.func63, Try.ntmps63
  go_wp2
  go_ret
  exact ⟨rfl, HB.out⟩
set_option maxHeartbeats 800000 in
theorem implRis (a : Option Addr) (len cap : Nat) (X : Nat → Nat) (w : World) (hl : len ≤ 1048576) (h : Lst w a len X) :
    Calls Try.prog 33 #[.slice a len cap] w fun e w' => e = .returned (.bool (risB len X)) ∧ Below w.heap.size w w' := by
  have H := Lib.hid h
  clear h
  cases hok : okP len X
  · have Hf := Lib.hid (show false = risB len X by unfold risB; rw [hok]; rfl)
    go_enter Try.func33, Try.ntmps33
    go_wp2_with fail
    refine (implTab _ _ _ X _ hl H.out).mono ?_
    rintro e w1 ⟨rfl, hb1⟩
    rw [hok]
    have Hb1 := Lib.hid hb1
    clear hb1
    go_wp2_with fail
    go_ret
    exact ⟨ret_bool Hf.out, Hb1.out⟩
  · have Hf := Lib.hid (show nbB len X upB = risB len X by unfold risB; rw [hok]; rfl)
    obtain ⟨b, off, rfl, hlt, hcells⟩ := H.out.cells (by have := okP_bounds hok; omega)
    have Hc := Lib.hid hcells
    clear hcells
    go_enter Try.func33, Try.ntmps33
    go_wp2_with fail
    refine (implTab _ _ _ X _ hl H.out).mono ?_
    rintro e w1 ⟨rfl, hb1⟩
    rw [hok]
    have Hb1 := Lib.hid hb1
    have Hc1 := Lib.hid (Hc.out.keep hlt hb1)
    have hlt1 : b < w1.heap.size := Nat.lt_of_lt_of_le hlt hb1.size
    have hsz1 : w.heap.size ≤ w1.heap.size := hb1.size
    clear hb1
    go_wp2_with fail
    refine (allN _ upB enter_up up_any b off len cap X _ hl hlt1 Hc1.out).mono ?_
    rintro e w2 ⟨rfl, hb2⟩
    rw [Hf.out]
    have Hb2 := Lib.hid (Hb1.out.trans (hb2.mono hsz1))
    clear hb2
    go_wp2_with fail
    go_ret
    exact ⟨rfl, Hb2.out⟩
theorem up_flip {n : Nat} {X : Nat → Nat} (h : okP n X = true) {k : Nat} (hk : k + 1 < n) : upB (X (k * 2)) (X (k * 2 + 1)) (X ((k + 1) * 2)) (X ((k + 1) * 2 + 1)) = !leB (X ((k + 1) * 2 + 1)) (X (k * 2 + 1)) := by
  have a1 := fin_num (okPt_fin (okP_at h (j := k) (by omega))).2
  have a2 := fin_num (okPt_fin (okP_at h (j := k + 1) hk)).2
  rw [leB_sv a2 a1]
  unfold upB gtB
  rw [gt32]
  unfold ltW
  rw [a1, a2, Bool.eq_iff_iff]
  simp
set_option maxHeartbeats 800000 in
theorem specRis (a : Option Addr) (len cap : Nat) (X : Nat → Nat) (w : World) (hl : len ≤ 1048576) (h : Lst w a len X) :
    Calls Try.prog 32 #[.slice a len cap] w fun e w' => e = .returned (.bool (risB len X)) ∧ ∃ n, w' = w.drewN n := by
  have H := Lib.hid h
  clear h
  cases hok : okP len X
  · have Hf := Lib.hid (show false = risB len X by unfold risB; rw [hok]; rfl)
    go_enter Try.func32, Try.ntmps32
    go_wp2_with fail
    refine (specTab _ _ _ X _ hl H.out).mono ?_
    rintro e w1 ⟨rfl, n, rfl⟩
    rw [hok]
    go_wp2_with fail
    go_ret
    exact ⟨ret_bool Hf.out, n, rfl⟩
  · have Hf := Lib.hid (show nbB len X upB = risB len X by unfold risB; rw [hok]; rfl)
    have Hflip := Lib.hid (fun k (hk : k + 1 < len) => up_flip hok hk)
    have hb12 := okP_bounds hok
    obtain ⟨b, off, rfl, hlt, hcells⟩ := H.out.cells (by omega)
    have Hc := Lib.hid hcells
    clear hcells
    go_enter Try.func32, Try.ntmps32
    go_wp2_with fail
    refine (specTab _ _ _ X _ hl H.out).mono ?_
    rintro e w1 ⟨rfl, n, rfl⟩
    rw [hok]
    clear hok
    go_wp2_with fail
    go_loopw [3] (fun i wr => ∃ k m : Nat, i = .int .i64 ((k + 1 : Nat) : Int) ∧ k + 1 ≤ len ∧ wr = w.drewN m ∧ Hid (∀ j, j < k → upB (X (j * 2)) (X (j * 2 + 1)) (X ((j + 1) * 2)) (X ((j + 1) * 2 + 1)) = true))
      (fun i _ => len + 1 - (intOf i).toNat)
    case atStart => exact ⟨0, n, rfl, by omega, rfl, Lib.hid (fun j hj => absurd hj (Nat.not_lt_zero _))⟩
    case round =>
      obtain ⟨k, m0, rfl, hk, rfl, hall⟩ := hrel
      by_cases hkl : k + 1 < len
      · have hkl' : ((k + 1 : Nat) : Int) < (len : Int) := by omega
        obtain ⟨_, a1⟩ := Hc.out k (by omega)
        obtain ⟨_, b1⟩ := Hc.out (k + 1) hkl
        have hw1 : IntKind.i64.wrap (((k + 1 : Nat) : Int) - 1) = (k : Int) := by rw [IntKind.wrap_i64]; omega
        have hkl2 : k < len := by omega
        obtain ⟨c, hc⟩ : ∃ c, leB (X ((k + 1) * 2 + 1)) (X (k * 2 + 1)) = c := ⟨_, rfl⟩
        have HC := Lib.hid (show upB (X (k * 2)) (X (k * 2 + 1)) (X ((k + 1) * 2)) (X ((k + 1) * 2 + 1)) = !c by rw [Hflip.out k hkl, hc])
        unfold leB at hc
        cases c
        · go_wp2_with fail
          go_quiet (fail)
          go_wp2_with fail
          go_roundw
          case rel => exact ⟨k + 1, _, by go_num, hkl, by first | rfl | (simp only [World.drewN_drewN]; rfl), Lib.hid (fun j hj => by
            by_cases e : j = k
            · rw [e]; exact HC.out
            · exact hall.out j (by omega))⟩
          case measure => simp [intOf]; omega
        · have Hno := Lib.hid (nbB_fail (g := upB) hkl HC.out)
          go_wp2_with fail
          go_quiet (fail)
          go_wp2_with fail
          go_ret
          exact ⟨ret_bool (Hno.out.trans Hf.out), _, by first | rfl | (simp only [World.drewN_drewN]; rfl)⟩
      · have hkl' : ¬ ((k + 1 : Nat) : Int) < (len : Int) := by omega
        have Hyes := Lib.hid (show true = nbB len X upB from nbB_all fun j hj => hall.out j (by omega))
        go_wp2_with fail
        go_ret
        exact ⟨ret_bool (Hyes.out.trans Hf.out), _, rfl⟩
end Go.Proofs.Ytbmojogohffhaaa.Pnt
