/- The program's outermost element of a list of singles, and its search for NaN. -/
import Derived.Test.YtjmmcpeknaaaiaaFlsN
import Derived.Test.YtjmmcpeknaaaiaaSpnI
namespace Go.Proofs.Ytjmmcpeknaaaiaa.Spn
open Go.ChangeShapes Go.WideShapes Go.ChangeAt Go.RowKit Go.Deep Go.Proofs.Ytjmmcpeknaaaiaa Go.Proofs.Ytjmmcpeknaaaiaa.Flt Go.Proofs.Ytjmmcpeknaaaiaa.Mth
open Go.Proofs.Ytjmmcpeknaaaiaa.Sgl (LstF CellsF)
open Ieee (single double)
set_option linter.unusedVariables false
set_option linter.unusedSimpArgs false
theorem LstF.cells {w : World} {a : Option Addr} {len : Nat} {X : Nat → Nat} (h : LstF w a len X) (h0 : 0 < len) : ∃ b off, a = some ⟨b, off, none⟩ ∧ b < w.heap.size ∧ CellsF w b off len X := by
  rcases h.2 with e | e
  · omega
  · exact e
theorem LstF.drew {w : World} {a : Option Addr} {len : Nat} {X : Nat → Nat} (h : LstF w a len X) (n : Nat) : LstF (w.drewN n) a len X := h.keep (below_drewN (Below.refl _ _) n)
theorem run_enter {P : Program} {f : FuncId} (h : ∃ fn c, P.funcs[f]? = some fn ∧ (fn.name == "runtime.NumGoroutine") = false ∧ fn.body = some c) (args : Array Value) (w : World) : (callFunc f args).run P w = .ok (.enter f args) w := by
  obtain ⟨fn, c, h1, h2, h3⟩ := h
  simp only [beq_eq_false_iff_ne, ne_eq] at h2
  simp [callFunc, go_sem, h1, h2, h3]
theorem ent (f : FuncId) (fn : Func) (c : Code) (h1 : Try.prog.funcs[f]? = some fn) (h2 : (fn.name == "runtime.NumGoroutine") = false) (h3 : fn.body = some c) : ∀ args w, (callFunc f args).run Try.prog w = .ok (.enter f args) w :=
  fun args w => run_enter ⟨fn, c, h1, h2, h3⟩ args w
/-- the element that is left when each next one that lies farther out takes the place of the one found before -/
def outF (P : Nat → Nat → Bool) (X : Nat → Nat) : Nat → Nat
  | 0 => 0
  | k + 1 => if (decide (k = 0) || P (X k) (outF P X k)) = true then X k else outF P X k
theorem lt_call (x y : Nat) (w : World) : Calls Try.prog 108 #[.float .f32 x, .float .f32 y] w fun e w' => e = .returned (.bool (ltB x y)) ∧ w' = w := by
  have hb : ltB x y = (FloatKind.f32.format.order x y == some .lt) := rfl
  have Hb := Lib.hid hb
  clear hb
  go_enter Try.func108, Try.ntmps108
  go_wp2
  go_ret
  exact ⟨ret_bool (by rw [Hb.out]), rfl⟩
theorem gt_call (x y : Nat) (w : World) : Calls Try.prog 109 #[.float .f32 x, .float .f32 y] w fun e w' => e = .returned (.bool (gtB x y)) ∧ w' = w := by
  have hb : gtB x y = (FloatKind.f32.format.order x y == some .gt) := rfl
  have Hb := Lib.hid hb
  clear hb
  go_enter Try.func109, Try.ntmps109
  go_wp2
  go_ret
  exact ⟨ret_bool (by rw [Hb.out]), rfl⟩
theorem ent_lt : ∀ args w, (callFunc 108 args).run Try.prog w = .ok (.enter 108 args) w := ent _ _ _ Try.func108 (by kernel_rfl) rfl
theorem ent_gt : ∀ args w, (callFunc 109 args).run Try.prog w = .ok (.enter 109 args) w := ent _ _ _ Try.func109 (by kernel_rfl) rfl
theorem ent_nan : ∀ args w, (callFunc 85 args).run Try.prog w = .ok (.enter 85 args) w := ent _ _ _ Try.func85 (by kernel_rfl) rfl
set_option maxHeartbeats 400000 in
theorem outer_any (P : Nat → Nat → Bool) (g : FuncId) (hcf : ∀ args w, (callFunc g args).run Try.prog w = .ok (.enter g args) w) (hcall : ∀ x y w, Calls Try.prog g #[.float .f32 x, .float .f32 y] w fun e w' => e = .returned (.bool (P x y)) ∧ w' = w)
    (a : Option Addr) (len cap : Nat) (X : Nat → Nat) (w : World) (hl : len ≤ 1048576) (h : LstF w a len X) :
    Calls Try.prog 107 #[.slice a len cap, .func (.func g) #[] #[]] w fun e w' => e = .returned (.float .f32 (outF P X len)) ∧ w' = w := by
  have H := Lib.hid h
  have Hcall := Lib.hid hcall
  clear h hcall
  go_enter Try.func107, Try.ntmps107
  go_wp2_with fail
  go_loopw [5, 10] (fun s i wr => ∃ k : Nat, i = .int .i64 k ∧ s = .float .f32 (outF P X k) ∧ k ≤ len ∧ wr = w)
    (fun _ i _ => len - (intOf i).toNat)
  case atStart => exact ⟨0, rfl, rfl, Nat.zero_le _, by first | rfl | trivial⟩
  case round =>
    obtain ⟨k, rfl, rfl, hk, hwr⟩ := hrel
    subst hwr
    by_cases hkl : k < len
    · obtain ⟨b, off, ha, hlt, hc⟩ := LstF.cells H.out (by omega)
      subst ha
      have a0 := hc k hkl
      have Hstep := Lib.hid (show outF P X (k + 1) = if (decide (k = 0) || P (X k) (outF P X k)) = true then X k else outF P X k from rfl)
      clear hc
      generalize outF P X k = s0 at *
      obtain ⟨s1, hs1⟩ : ∃ s1, outF P X (k + 1) = s1 := ⟨_, rfl⟩
      rw [hs1] at Hstep
      have Hs1 := Lib.hid hs1
      clear hs1
      by_cases h0 : (k : Int) = 0
      · have E1 := Lib.hid (show s1 = X k by rw [Hstep.out, decide_eq_true (by omega), Bool.true_or, if_pos rfl])
        have a00 : wr.cell? ⟨b, off, none⟩ = some (.float .f32 (X k)) := by have := a0; rwa [show off + k = off by omega] at this
        have h01 : k = 0 := by omega
        go_wp2_with fail
        go_roundw
        case rel => exact ⟨k + 1, by first | go_num | (simp; omega) | (rw [h01]; rfl), by rw [Hs1.out, E1.out]; first | rfl | rw [h01], by omega, by first | rfl | trivial⟩
        case measure => simp [intOf]; omega
      · have e1 : s1 = if P (X k) s0 = true then X k else s0 := by rw [Hstep.out, decide_eq_false (by omega), Bool.false_or]
        have E1 := Lib.hid e1
        clear e1
        go_wp2_with fail
        refine (Hcall.out _ _ _).mono ?_
        rintro e w9 ⟨rfl, hw9⟩
        subst w9
        cases hb : P (X k) s0
        · rw [hb] at E1
          clear hb
          go_wp2_with fail
          go_roundw
          case rel => exact ⟨k + 1, by go_num, by rw [Hs1.out, E1.out]; rfl, by omega, by first | rfl | trivial⟩
          case measure => simp [intOf]; omega
        · rw [hb] at E1
          clear hb
          go_wp2_with fail
          go_roundw
          case rel => exact ⟨k + 1, by go_num, by rw [Hs1.out, E1.out]; rfl, by omega, by first | rfl | trivial⟩
          case measure => simp [intOf]; omega
    · obtain rfl : k = len := by omega
      go_wp2_with fail
      go_ret
      exact ⟨rfl, rfl⟩
theorem least_any (a : Option Addr) (len cap : Nat) (X : Nat → Nat) (w : World) (hl : len ≤ 1048576) (h : LstF w a len X) :
    Calls Try.prog 86 #[.slice a len cap] w fun e w' => e = .returned (.float .f32 (outF ltB X len)) ∧ w' = w := by
  have C := Lib.hid (outer_any ltB _ ent_lt lt_call a len cap X w hl h)
  clear h
  generalize outF ltB X len = z at *
  go_enter Try.func86, Try.ntmps86
  go_wp2_with fail
  refine C.out.mono ?_
  rintro e w9 ⟨rfl, hw9⟩
  subst w9
  go_wp2_with fail
  go_ret
  exact ⟨rfl, rfl⟩
theorem greatest_any (a : Option Addr) (len cap : Nat) (X : Nat → Nat) (w : World) (hl : len ≤ 1048576) (h : LstF w a len X) :
    Calls Try.prog 87 #[.slice a len cap] w fun e w' => e = .returned (.float .f32 (outF gtB X len)) ∧ w' = w := by
  have C := Lib.hid (outer_any gtB _ ent_gt gt_call a len cap X w hl h)
  clear h
  generalize outF gtB X len = z at *
  go_enter Try.func87, Try.ntmps87
  go_wp2_with fail
  refine C.out.mono ?_
  rintro e w9 ⟨rfl, hw9⟩
  subst w9
  go_wp2_with fail
  go_ret
  exact ⟨rfl, rfl⟩
theorem notnum_any (x : Nat) (w : World) : Calls Try.prog 85 #[.float .f32 x] w fun e w' => e = .returned (.bool (isNaN single x)) ∧ ∃ n, w' = w.drewN n := by
  obtain ⟨r, n, hr, kr⟩ := run_widen_any (P := Try.prog) 24 28 x (by rw [Try.underlying24]; rfl) Try.underlying28 w
  have hi := fun w => isNaN_any r w
  rw [hr.2.1] at hi
  clear hr
  go_enter Try.func85, Try.ntmps85
  go_wp2_with fail
  refine (hi _).mono ?_
  rintro e w9 ⟨rfl, hw9⟩
  subst w9
  go_wp2_with fail
  go_ret
  exact ⟨rfl, n, rfl⟩
/-- no element is NaN -/
def numB (n : Nat) (X : Nat → Nat) : Bool := (List.range n).all fun i => !isNaN single (X i)
theorem num_iff {n : Nat} {X : Nat → Nat} : numB n X = true ↔ ∀ i, i < n → isNaN single (X i) = false := by
  unfold numB
  rw [List.all_eq_true]
  simp
theorem num_no {n k : Nat} {X : Nat → Nat} (hk : k < n) (h : isNaN single (X k) = true) : numB n X = false := by
  cases e : numB n X
  · rfl
  · rw [num_iff.1 e k hk] at h; cases h
set_option maxHeartbeats 400000 in
theorem index_any (a : Option Addr) (len cap : Nat) (X : Nat → Nat) (w : World) (hl : len ≤ 1048576) (h : LstF w a len X) :
    Calls Try.prog 106 #[.slice a len cap, .func (.func 85) #[] #[]] w fun e w' => (∃ j : Int, e = .returned (.int .i64 j) ∧ decide (0 ≤ j) = !numB len X) ∧ ∃ n, w' = w.drewN n := by
  have H := Lib.hid h
  have hcf := ent_nan
  clear h
  go_enter Try.func106, Try.ntmps106
  go_wp2_with fail
  go_loopw [8] (fun i wr => ∃ k : Nat, i = .int .i64 k ∧ k ≤ len ∧ (∀ j, j < k → isNaN single (X j) = false) ∧ ∃ n, wr = w.drewN n)
    (fun i _ => len - (intOf i).toNat)
  case atStart => exact ⟨0, rfl, Nat.zero_le _, fun j hj => absurd hj (Nat.not_lt_zero _), 0, rfl⟩
  case round =>
    obtain ⟨k, rfl, hk, hall, n, rfl⟩ := hrel
    have Hall := Lib.hid hall
    clear hall
    by_cases hkl : k < len
    · obtain ⟨b, off, ha, hlt, hc⟩ := LstF.cells H.out (by omega)
      subst ha
      have a0 := hc k hkl
      clear hc
      go_wp2_with fail
      refine (notnum_any _ _).mono ?_
      rintro e w9 ⟨rfl, m, hw9⟩
      subst w9
      cases hb : isNaN single (X k)
      · have Hb := Lib.hid hb
        clear hb
        go_wp2_with fail
        go_roundw
        case rel => exact ⟨k + 1, by go_num, by omega, fun j hj => by
          by_cases hjk : j = k
          · rw [hjk]; exact Hb.out
          · exact Hall.out j (by omega), _, rfl⟩
        case measure => simp [intOf]; omega
      · have Hn := Lib.hid (num_no (X := X) hkl hb)
        clear hb
        go_wp2_with fail
        go_ret
        exact ⟨⟨_, rfl, by rw [Hn.out]; simp⟩, _, rfl⟩
    · obtain rfl : k = len := by omega
      have Hn := Lib.hid (num_iff.2 Hall.out)
      go_wp2_with fail
      go_ret
      exact ⟨⟨_, rfl, by rw [Hn.out]; simp⟩, _, rfl⟩
theorem contains_any (a : Option Addr) (len cap : Nat) (X : Nat → Nat) (w : World) (hl : len ≤ 1048576) (h : LstF w a len X) :
    Calls Try.prog 84 #[.slice a len cap, .func (.func 85) #[] #[]] w fun e w' => e = .returned (.bool (!numB len X)) ∧ ∃ n, w' = w.drewN n := by
  have C := Lib.hid (index_any a len cap X w hl h)
  clear h
  generalize numB len X = z at *
  go_enter Try.func84, Try.ntmps84
  go_wp2_with fail
  refine C.out.mono ?_
  rintro e w9 ⟨⟨j, rfl, hj⟩, n, hw9⟩
  subst w9
  have Hj := Lib.hid hj
  clear hj
  go_wp2_with fail
  all_goals
    go_ret
    exact ⟨ret_bool (by first | (rw [← Hj.out]; done) | (rw [← Hj.out]; simp [*])), n, rfl⟩
end Go.Proofs.Ytjmmcpeknaaaiaa.Spn
