/- The model's draw of a number's value. -/
import Derived.Test.YtlngplohnknhjaaGreatDoorPkA
import Derived.Test.YtlngplohnknhjaaGreatDoorKExpD
namespace Go.Proofs.YtlngplohnknhjaaGreatDoor.Ex
open Go.ChangeShapes Go.WideShapes Go.ChangeAt Go.RowKit Go.Proofs.YtlngplohnknhjaaGreatDoor Go.Proofs.YtlngplohnknhjaaGreatDoor.Flt Go.Proofs.YtlngplohnknhjaaGreatDoor.Mth Go.Proofs.YtlngplohnknhjaaGreatDoor.Drw
open Ieee (single double)
set_option linter.unusedVariables false
def ms : List Int := [0, 1, 3, 5, 7, 1000, 16777215]
def es : List Int := [0, 1, -1, -2, -10, 100, -149]
/-- a single without sign that is finite -/
def sgl (m e : Int) : Nat := (Mks.out ⟨#[43]⟩ m e).1
def good (x : Nat) : Bool := decide (x < 2139095040) && (floatBits .sub .f32 x x == some 0)
theorem all_good : (ms.all fun m => es.all fun e => good (sgl m e)) = true := by decide +kernel
theorem sgl_good {m e : Int} (hm : m ∈ ms) (he : e ∈ es) : sgl m e < 2139095040 ∧ floatBits .sub .f32 (sgl m e) (sgl m e) = some 0 := by
  have h := List.all_eq_true.1 (List.all_eq_true.1 all_good m hm) e he
  unfold good at h
  rw [Bool.and_eq_true] at h
  exact ⟨of_decide_eq_true h.1, by simpa using h.2⟩
theorem eight_m : ∀ j, j < 8 → ∃ v : Int, (#[Value.int .i64 0, .int .i64 1, .int .i64 1, .int .i64 3, .int .i64 5, .int .i64 7, .int .i64 1000, .int .i64 16777215])[j]? = some (.int .i64 v) ∧ v ∈ ms
  | 0, _ => ⟨_, rfl, by decide⟩ | 1, _ => ⟨_, rfl, by decide⟩ | 2, _ => ⟨_, rfl, by decide⟩ | 3, _ => ⟨_, rfl, by decide⟩ | 4, _ => ⟨_, rfl, by decide⟩ | 5, _ => ⟨_, rfl, by decide⟩ | 6, _ => ⟨_, rfl, by decide⟩ | 7, _ => ⟨_, rfl, by decide⟩
  | n + 8, h => by omega
theorem nine_e : ∀ j, j < 9 → ∃ v : Int, (#[Value.int .i64 0, .int .i64 0, .int .i64 0, .int .i64 1, .int .i64 (-1), .int .i64 (-2), .int .i64 (-10), .int .i64 100, .int .i64 (-149)])[j]? = some (.int .i64 v) ∧ v ∈ es
  | 0, _ => ⟨_, rfl, by decide⟩ | 1, _ => ⟨_, rfl, by decide⟩ | 2, _ => ⟨_, rfl, by decide⟩ | 3, _ => ⟨_, rfl, by decide⟩ | 4, _ => ⟨_, rfl, by decide⟩ | 5, _ => ⟨_, rfl, by decide⟩ | 6, _ => ⟨_, rfl, by decide⟩ | 7, _ => ⟨_, rfl, by decide⟩ | 8, _ => ⟨_, rfl, by decide⟩
  | n + 9, h => by omega
theorem low_single {x : Nat} (h : x < 2139095040) : isNaN single x = false ∧ rung single x = x ∧ sgn single x = false := by
  have hr : rung single x = x := by unfold rung; rw [show single.signWeight = 2147483648 from rfl]; exact Nat.mod_eq_of_lt (by omega)
  refine ⟨?_, hr, ?_⟩
  · unfold isNaN; rw [hr]; exact decide_eq_false (by rw [show single.infRung = 2139095040 from rfl]; omega)
  · unfold sgn; rw [show single.signWeight = 2147483648 from rfl, Nat.div_eq_of_lt (by omega)]; rfl
/-- a number's value has been drawn -/
def ValOut (base B : Nat) (w : World) (e : Ending) (w' : World) : Prop := ∃ x y : Nat, NV x y ∧ e = .returned (.complex .f64 x y) ∧ Cur base w' B ∧ Only B w w'
theorem ne_zero {x : Nat} (h : x < 2139095040) : (FloatKind.f32.format.order x 0 != some .eq) = !decide (x = 0) := by
  rw [show (FloatKind.f32.format.order x 0 != some .eq) = !(FloatKind.f32.format.order x 0 == some .eq) from rfl, eq32]
  obtain ⟨h1, h2, _⟩ := low_single h
  rw [eqW_zero single h1, h2]
set_option maxHeartbeats 1600000 in
theorem value_any (base B : Nat) (w : World) (hc : Cur base w B) :
    Calls Tryz.prog 30 #[.pointer (some ⟨B, 0, none⟩)] w (ValOut base B w) := by
  have us := us32
  go_enter Tryz.func30, Tryz.ntmps30
  have hlt := hc.lt
  go_wp2_with fail
  refine (pick_q (· ∈ ms) base B w.heap.size 8 _ _ _ (hc.alloc _) (by omega) (by omega) (block_new _ _) (by omega) eight_m).mono ?_
  rintro e w1 ⟨m, hm, rfl, hc1, ho1⟩
  have H1 := Lib.hid (And.intro hc1 (((Only.refl B w).alloc _).trans ho1))
  have hlt1 := hc1.lt
  clear hc1 ho1 hc
  go_wp2_with fail
  refine (pick_q (· ∈ es) base B w1.heap.size 9 _ _ _ (H1.out.1.alloc _) (by omega) (by omega) (block_new _ _) (by omega) nine_e).mono ?_
  rintro e w2 ⟨k, hk, rfl, hc2, ho2⟩
  have H2 := Lib.hid (And.intro hc2 ((H1.out.2.alloc _).trans ho2))
  clear hc2 ho2
  go_wp2_with fail
  refine (Mks.spec_any ⟨#[43]⟩ m k _).mono ?_
  rintro e w3 ⟨rfl, n, rfl⟩
  obtain ⟨hx, hs⟩ := sgl_good hm hk
  have hb : ∃ o, (Mks.out ⟨#[43]⟩ m k).2 = o := ⟨_, rfl⟩
  obtain ⟨o, ho⟩ := hb
  rw [ho, show (Mks.out ⟨#[43]⟩ m k).1 = sgl m k from rfl]
  generalize sgl m k = x at *
  clear ho hm hk
  obtain ⟨h1, h2, h3⟩ := low_single hx
  have e0 : (FloatKind.f32.format.order 0 0 != some .eq) = false := by decide
  have ex := ne_zero hx
  have kq := fun W => run_float_arith (P := Tryz.prog) W .sub 92 .f32 x x 0 hs
  clear hs
  by_cases hx0 : x = 0
  · subst hx0
    go_wp2_with fail
    refine (once_any' base B 3 _ (H2.out.1.drewN n) (by omega)).mono ?_
    rintro e w4 ⟨b, rfl, hc4, ho4⟩
    have H4 := Lib.hid (And.intro hc4 ((H2.out.2.drewN n).trans ho4))
    clear hc4 ho4
    have kw := fun W => run_widen (P := Tryz.prog) 92 60 0 us Tryz.underlying60 h1 W
    cases b
    · go_wp2_with fail
      go_ret
      exact ⟨_, _, ⟨0, by decide, .inl ⟨rfl, rfl⟩⟩, rfl, H4.out.1, H4.out.2⟩
    · go_wp2_with fail
      go_ret
      exact ⟨_, _, ⟨0, by decide, .inl ⟨rfl, rfl⟩⟩, rfl, H4.out.1, H4.out.2⟩
  · rw [decide_eq_false hx0, Bool.not_false] at ex
    go_wp2_with fail
    refine (once_any' base B 3 _ (H2.out.1.drewN n) (by omega)).mono ?_
    rintro e w4 ⟨b, rfl, hc4, ho4⟩
    have H4 := Lib.hid (And.intro hc4 ((H2.out.2.drewN n).trans ho4))
    clear hc4 ho4
    have kw := fun W => run_widen (P := Tryz.prog) 92 60 x us Tryz.underlying60 h1 W
    cases b
    · go_wp2_with fail
      go_ret
      exact ⟨_, _, ⟨x, hx, .inl ⟨rfl, rfl⟩⟩, rfl, H4.out.1, H4.out.2⟩
    · go_wp2_with fail
      go_ret
      exact ⟨_, _, ⟨x, hx, .inr ⟨rfl, rfl, hx0⟩⟩, rfl, H4.out.1, H4.out.2⟩
end Go.Proofs.YtlngplohnknhjaaGreatDoor.Ex
