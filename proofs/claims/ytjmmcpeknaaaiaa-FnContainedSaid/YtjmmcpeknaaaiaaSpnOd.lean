/- The program's outermost element of a list of doubles. -/
import Derived.Test.YtjmmcpeknaaaiaaSpnO
namespace Go.Proofs.Ytjmmcpeknaaaiaa.Spn
open Go.ChangeShapes Go.WideShapes Go.ChangeAt Go.RowKit Go.Deep Go.Proofs.Ytjmmcpeknaaaiaa Go.Proofs.Ytjmmcpeknaaaiaa.Flt Go.Proofs.Ytjmmcpeknaaaiaa.Mth
open Ieee (single double)
set_option linter.unusedVariables false
set_option linter.unusedSimpArgs false
def ltD (x y : Nat) : Bool := FloatKind.f64.format.order x y == some .lt
def gtD (x y : Nat) : Bool := FloatKind.f64.format.order x y == some .gt
def LstD (w : World) (a : Option Addr) (len : Nat) (X : Nat → Nat) : Prop := len = 0 ∨ ∃ b off, a = some ⟨b, off, none⟩ ∧ b < w.heap.size ∧ ∀ i, i < len → w.cell? ⟨b, off + i, none⟩ = some (.float .f64 (X i))
theorem LstD.cells {w : World} {a : Option Addr} {len : Nat} {X : Nat → Nat} (h : LstD w a len X) (h0 : 0 < len) : ∃ b off, a = some ⟨b, off, none⟩ ∧ b < w.heap.size ∧ ∀ i, i < len → w.cell? ⟨b, off + i, none⟩ = some (.float .f64 (X i)) := by
  rcases h with e | e
  · omega
  · exact e
theorem lt_callD (x y : Nat) (w : World) : Calls Try.prog 115 #[.float .f64 x, .float .f64 y] w fun e w' => e = .returned (.bool (ltD x y)) ∧ w' = w := by
  have hb : ltD x y = (FloatKind.f64.format.order x y == some .lt) := rfl
  have Hb := Lib.hid hb
  clear hb
  go_enter Try.func115, Try.ntmps115
  go_wp2
  go_ret
  exact ⟨ret_bool (by rw [Hb.out]), rfl⟩
theorem gt_callD (x y : Nat) (w : World) : Calls Try.prog 116 #[.float .f64 x, .float .f64 y] w fun e w' => e = .returned (.bool (gtD x y)) ∧ w' = w := by
  have hb : gtD x y = (FloatKind.f64.format.order x y == some .gt) := rfl
  have Hb := Lib.hid hb
  clear hb
  go_enter Try.func116, Try.ntmps116
  go_wp2
  go_ret
  exact ⟨ret_bool (by rw [Hb.out]), rfl⟩
theorem ent_ltD : ∀ args w, (callFunc 115 args).run Try.prog w = .ok (.enter 115 args) w := ent _ _ _ Try.func115 (by kernel_rfl) rfl
theorem ent_gtD : ∀ args w, (callFunc 116 args).run Try.prog w = .ok (.enter 116 args) w := ent _ _ _ Try.func116 (by kernel_rfl) rfl
set_option maxHeartbeats 400000 in
theorem outer_anyD (P : Nat → Nat → Bool) (g : FuncId) (hcf : ∀ args w, (callFunc g args).run Try.prog w = .ok (.enter g args) w) (hcall : ∀ x y w, Calls Try.prog g #[.float .f64 x, .float .f64 y] w fun e w' => e = .returned (.bool (P x y)) ∧ w' = w)
    (a : Option Addr) (len cap : Nat) (X : Nat → Nat) (w : World) (hl : len ≤ 1048576) (h : LstD w a len X) :
    Calls Try.prog 114 #[.slice a len cap, .func (.func g) #[] #[]] w fun e w' => e = .returned (.float .f64 (outF P X len)) ∧ w' = w := by
  have H := Lib.hid h
  have Hcall := Lib.hid hcall
  clear h hcall
  go_enter Try.func114, Try.ntmps114
  go_wp2_with fail
  go_loopw [5, 10] (fun s i wr => ∃ k : Nat, i = .int .i64 k ∧ s = .float .f64 (outF P X k) ∧ k ≤ len ∧ wr = w)
    (fun _ i _ => len - (intOf i).toNat)
  case atStart => exact ⟨0, rfl, rfl, Nat.zero_le _, by first | rfl | trivial⟩
  case round =>
    obtain ⟨k, rfl, rfl, hk, hwr⟩ := hrel
    subst hwr
    by_cases hkl : k < len
    · obtain ⟨b, off, ha, hlt, hc⟩ := LstD.cells H.out (by omega)
      subst ha
      have a0 := hc k hkl
      have Hstep := Lib.hid (show outF P X (k + 1) = if (decide (k = 0) || P (X k) (outF P X k)) = true then X k else outF P X k from rfl)
      clear hc
      generalize outF P X k = s0 at *
      obtain ⟨s1, hs1⟩ : ∃ s1, outF P X (k + 1) = s1 := ⟨_, rfl⟩
      rw [hs1] at Hstep
      have Hs1 := Lib.hid hs1
      clear hs1
      by_cases h0 : (k : Int) = 0
      · have E1 := Lib.hid (show s1 = X k by rw [Hstep.out, decide_eq_true (by omega), Bool.true_or, if_pos rfl])
        have a00 : wr.cell? ⟨b, off, none⟩ = some (.float .f64 (X k)) := by have := a0; rwa [show off + k = off by omega] at this
        have h01 : k = 0 := by omega
        go_wp2_with fail
        go_roundw
        case rel => exact ⟨k + 1, by first | go_num | (simp; omega) | (rw [h01]; rfl), by rw [Hs1.out, E1.out]; first | rfl | rw [h01], by omega, by first | rfl | trivial⟩
        case measure => simp [intOf]; omega
      · have e1 : s1 = if P (X k) s0 = true then X k else s0 := by rw [Hstep.out, decide_eq_false (by omega), Bool.false_or]
        have E1 := Lib.hid e1
        clear e1
        go_wp2_with fail
        refine (Hcall.out _ _ _).mono ?_
        rintro e w9 ⟨rfl, hw9⟩
        subst w9
        cases hb : P (X k) s0
        · rw [hb] at E1
          clear hb
          go_wp2_with fail
          go_roundw
          case rel => exact ⟨k + 1, by go_num, by rw [Hs1.out, E1.out]; rfl, by omega, by first | rfl | trivial⟩
          case measure => simp [intOf]; omega
        · rw [hb] at E1
          clear hb
          go_wp2_with fail
          go_roundw
          case rel => exact ⟨k + 1, by go_num, by rw [Hs1.out, E1.out]; rfl, by omega, by first | rfl | trivial⟩
          case measure => simp [intOf]; omega
    · obtain rfl : k = len := by omega
      go_wp2_with fail
      go_ret
      exact ⟨rfl, rfl⟩
theorem least_anyD (a : Option Addr) (len cap : Nat) (X : Nat → Nat) (w : World) (hl : len ≤ 1048576) (h : LstD w a len X) :
    Calls Try.prog 102 #[.slice a len cap] w fun e w' => e = .returned (.float .f64 (outF ltD X len)) ∧ w' = w := by
  have C := Lib.hid (outer_anyD ltD _ ent_ltD lt_callD a len cap X w hl h)
  clear h
  generalize outF ltD X len = z at *
  go_enter Try.func102, Try.ntmps102
  go_wp2_with fail
  refine C.out.mono ?_
  rintro e w9 ⟨rfl, hw9⟩
  subst w9
  go_wp2_with fail
  go_ret
  exact ⟨rfl, rfl⟩
theorem greatest_anyD (a : Option Addr) (len cap : Nat) (X : Nat → Nat) (w : World) (hl : len ≤ 1048576) (h : LstD w a len X) :
    Calls Try.prog 103 #[.slice a len cap] w fun e w' => e = .returned (.float .f64 (outF gtD X len)) ∧ w' = w := by
  have C := Lib.hid (outer_anyD gtD _ ent_gtD gt_callD a len cap X w hl h)
  clear h
  generalize outF gtD X len = z at *
  go_enter Try.func103, Try.ntmps103
  go_wp2_with fail
  refine C.out.mono ?_
  rintro e w9 ⟨rfl, hw9⟩
  subst w9
  go_wp2_with fail
  go_ret
  exact ⟨rfl, rfl⟩
end Go.Proofs.Ytjmmcpeknaaaiaa.Spn
