/- Steps that only turn signs and places: what they do, how they are undone. -/
import Derived.Test.YtpemmmnohlimmaaCorM
import Derived.Test.YtpemmmnohlimmaaStpG
namespace Go.Proofs.Ytpemmmnohlimmaa.Stp
open Go.ChangeShapes Go.WideShapes Go.ChangeAt Go.RowKit Go.Proofs.Ytpemmmnohlimmaa Go.Proofs.Ytpemmmnohlimmaa.Flt Go.Proofs.Ytpemmmnohlimmaa.Mth Go.Proofs.Ytpemmmnohlimmaa.Cpx Go.Proofs.Ytpemmmnohlimmaa.Trn Go.Proofs.Ytpemmmnohlimmaa.Drw
set_option linter.unusedVariables false
theorem mul_one_num {x : Nat} (hx : x < 18446744073709551616) (hn : isNaN Ieee.double x = false) : floatBits .mul .f64 x 4607182418800017408 = some x := by
  have hx' : x < 2 ^ Ieee.double.width := by rw [width_double]; exact hx
  show Ieee.double.mul x _ = some x
  cases hf : isFinD x
  · have h1 := of_decide_eq_false hf
    have h2 := of_decide_eq_false hn
    have hr : rung Ieee.double x = Ieee.double.infRung := by omega
    have hd2 : Ieee.double.read x = .infinity (sgn Ieee.double x) := by
      rcases reads Ieee.double hd x with ⟨m, e, hr', _, _⟩ | ⟨_, h'⟩ | ⟨t, hr', _⟩
      · omega
      · exact h'
      · omega
    unfold Ieee.Format.mul
    rw [hd2, read_one]
    show some (Ieee.double.word (sgn Ieee.double x ^^ false) Ieee.double.infRung) = some x
    rw [Bool.xor_false, ← hr, ← word_eq Ieee.double hx']
  · have h1 := of_decide_eq_true hf
    rw [mul_rr Ieee.double (by decide) h1 (by rw [rung_one, inf_double]; decide), rung_one, sgn_one, Bool.xor_false]
    unfold mulRung
    rw [rr_exact Ieee.double (rung Ieee.double x) (Nat.two_pow_pos _) (by rw [mg_oneD, lam_double]), Nat.min_eq_left (Nat.le_of_lt h1), ← word_eq Ieee.double hx']
/-- the step that undoes one -/
def unS (s : Stp) : Stp := if s.k = 7 then ⟨7, 0, 0, -s.q % 4, 0⟩ else s
theorem unS_ex {s : Stp} (h : exS s) : exS (unS s) := by
  rcases h with rfl | rfl | ⟨q, hq, rfl⟩
  · exact .inl rfl
  · exact .inr (.inl rfl)
  · exact .inr (.inr ⟨-q % 4, by omega, rfl⟩)
theorem ex_ok {s : Stp} (h : exS s) : s.ok = true := by
  have hz : isZ 0 0 = true := by decide +kernel
  rcases h with rfl | rfl | ⟨q, hq, rfl⟩
  · unfold Stp.ok
    simp only
    rw [if_neg (by omega), if_neg (by omega), if_pos (by simp), hz]; rfl
  · unfold Stp.ok
    simp only
    rw [if_neg (by omega), if_neg (by omega), if_pos (by simp), hz]; rfl
  · exact ok7 (okT_iff.2 (by omega))
/-- what such a step does -/
def act (s : Stp) (z : Nat × Nat) : Nat × Nat := if s.k = 5 then (z.1, ng z.2) else if s.k = 6 then (ng z.1, ng z.2) else tq s.q z.1 z.2
/-- finite words -/
def Fz (z : Nat × Nat) : Prop := (isFinD z.1 = true ∧ isFinD z.2 = true) ∧ (z.1 < 18446744073709551616 ∧ z.2 < 18446744073709551616)
theorem ng_Fz {x : Nat} (h : isFinD x = true ∧ x < 18446744073709551616) : isFinD (ng x) = true ∧ ng x < 18446744073709551616 := ⟨by rw [ng_fin h.2]; exact h.1, ng_lt h.2⟩
theorem tq_Fz {q : Int} {x y : Nat} (h : Fz (x, y)) : Fz (tq q x y) := by
  obtain ⟨⟨fx, fy⟩, wx, wy⟩ := h
  have hx := ng_Fz ⟨fx, wx⟩
  have hy := ng_Fz ⟨fy, wy⟩
  unfold tq
  split
  · exact ⟨⟨fx, fy⟩, wx, wy⟩
  · split
    · exact ⟨⟨hy.1, fx⟩, hy.2, wx⟩
    · split
      · exact ⟨⟨hx.1, hy.1⟩, hx.2, hy.2⟩
      · exact ⟨⟨fy, hx.1⟩, wy, hx.2⟩
theorem act_Fz {s : Stp} {z : Nat × Nat} (h : Fz z) : Fz (act s z) := by
  obtain ⟨x, y⟩ := z
  have h' := h
  obtain ⟨⟨fx, fy⟩, wx, wy⟩ := h
  have hx := ng_Fz ⟨fx, wx⟩
  have hy := ng_Fz ⟨fy, wy⟩
  unfold act
  split
  · exact ⟨⟨fx, hy.1⟩, wx, hy.2⟩
  · split
    · exact ⟨⟨hx.1, hy.1⟩, hx.2, hy.2⟩
    · exact tq_Fz h'
theorem pw_zero : pw 0 = 4607182418800017408 := by decide
theorem mul_one_can {x : Nat} (fx : isFinD x = true) (wx : x < 18446744073709551616) : fo .mul .f64 (can .f64 x) (can .f64 (pw 0)) = some x := by
  rw [fo_can hMul, pw_zero]
  exact mul_one_num wx (fin_nan fx)
theorem cor_ex {s : Stp} {z : Nat × Nat} (h : exS s) (hz : Fz z) : corO s z = some (act s z) := by
  obtain ⟨x, y⟩ := z
  have hok := ex_ok h
  have hf := hz
  obtain ⟨⟨fx, fy⟩, wx, wy⟩ := hf
  have fx : isFinD x = true := fx
  have fy : isFinD y = true := fy
  have ha : Fz (act s (x, y)) := act_Fz hz
  have e : stepO s x y = (some (act s (x, y)).1, some (act s (x, y)).2) := by
    rcases h with rfl | rfl | ⟨q, hq, rfl⟩
    · rw [stepO_5 rfl, fin_can fx, fin_can (ng_Fz ⟨fy, wy⟩).1]; rfl
    · rw [stepO_6 rfl, fin_can (ng_Fz ⟨fx, wx⟩).1, fin_can (ng_Fz ⟨fy, wy⟩).1]; rfl
    · have ht := tq_Fz (q := q) (x := x) (y := y) hz
      rw [stepO_7 rfl]
      rw [show act ⟨7, 0, 0, q, 0⟩ (x, y) = tq q x y from rfl, mul_one_can ht.1.1 ht.2.1, mul_one_can ht.1.2 ht.2.2]
  unfold corO
  rw [hok, show stepO s (x, y).1 (x, y).2 = _ from e, show (isFinD (x, y).1 && isFinD (x, y).2) = true by rw [show isFinD (x, y).1 = true from fx, show isFinD (x, y).2 = true from fy]; rfl]
  rw [show (finO (some (act s (x, y)).1, some (act s (x, y)).2).1 && finO (some (act s (x, y)).1, some (act s (x, y)).2).2) = true by
    rw [show finO (some (act s (x, y)).1, some (act s (x, y)).2).1 = true from ha.1.1, show finO (some (act s (x, y)).1, some (act s (x, y)).2).2 = true from ha.1.2]; rfl]
  rfl
theorem ng_ng {x : Nat} (h : x < 18446744073709551616) : ng (ng x) = x := neg_neg .f64 (lt_w h)
theorem act_un {s : Stp} {z : Nat × Nat} (h : exS s) (hz : Fz z) : act (unS s) (act s z) = z := by
  obtain ⟨x, y⟩ := z
  have nx := ng_ng hz.2.1
  have ny := ng_ng hz.2.2
  have nx : ng (ng x) = x := nx
  have ny : ng (ng y) = y := ny
  rcases h with rfl | rfl | ⟨q, hq, rfl⟩
  · show (x, ng (ng y)) = (x, y)
    rw [ny]
  · show (ng (ng x), ng (ng y)) = (x, y)
    rw [nx, ny]
  · obtain rfl | rfl | rfl | rfl : q = 0 ∨ q = 1 ∨ q = 2 ∨ q = 3 := by omega
    · rfl
    · show (x, ng (ng y)) = (x, y)
      rw [ny]
    · show (ng (ng x), ng (ng y)) = (x, y)
      rw [nx, ny]
    · show (ng (ng x), y) = (x, y)
      rw [nx]
theorem fld_append' : ∀ (xs ys : List Stp) (z u : Nat × Nat), fld xs z = some u → fld (xs ++ ys) z = fld ys u
  | [], ys, z, u, h => by cases h; rfl
  | s :: r, ys, z, u, h => by
    show (match corO s z with | none => none | some y => fld (r ++ ys) y) = fld ys u
    have h : (match corO s z with | none => none | some y => fld r y) = some u := h
    cases hc : corO s z with
    | none => rw [hc] at h; cases h
    | some y => rw [hc] at h; exact fld_append' r ys y u h
/-- there and back -/
theorem fld_un : ∀ (xs : List Stp) (z : Nat × Nat), (∀ s ∈ xs, exS s) → Fz z → ∃ u, fld xs z = some u ∧ Fz u ∧ fld (xs.map unS).reverse u = some z
  | [], z, _, hz => ⟨z, rfl, hz, rfl⟩
  | s :: r, z, h, hz => by
    have hs := h s (by simp)
    have h1 := cor_ex hs hz
    obtain ⟨u, e1, e2, e3⟩ := fld_un r (act s z) (fun t ht => h t (by simp [ht])) (act_Fz hz)
    refine ⟨u, ?_, e2, ?_⟩
    · unfold fld; rw [h1]; exact e1
    · rw [List.map_cons, List.reverse_cons, fld_append' _ _ _ _ e3]
      unfold fld
      rw [cor_ex (unS_ex hs) (act_Fz hz), act_un hs hz]
      rfl
theorem mem_un {xs : List Stp} (h : ∀ s ∈ xs, exS s) : ∀ s ∈ (xs.map unS).reverse, exS s := fun s hs => by
  rw [List.mem_reverse] at hs
  obtain ⟨t, ht, rfl⟩ := List.mem_map.1 hs
  exact unS_ex (h t ht)
theorem ex_wf {xs : List Stp} (h : ∀ s ∈ xs, exS s) : wfS xs := fun s hs => by
  rcases h s hs with rfl | rfl | ⟨q, _, rfl⟩
  · exact zeroW
  · exact zeroW
  · exact zeroW
/-! the methods -/
theorem undo_f (s : Stp) (w : World) : Calls Try.prog 83 #[.agg #[], .agg s.c] w fun e w' => e = .returned (.agg s.c) ∧ Below w.heap.size w w' := by
  unfold Stp.c
  go_enter Try.func83, Try.ntmps83
  go_wp2_with fail
  go_returns
  exact ⟨rfl, by go_grown⟩
theorem undo_t (q p : Int) (k : Int) (x y : Nat) (w : World) : Calls Try.prog 86 #[.agg #[], .agg #[.int .i64 k, .complex .f64 x y, .int .i64 q, .int .i64 p]] w fun e w' => e = .returned (.agg #[.int .i64 k, .complex .f64 x y, .int .i64 (inv q p).1.1, .int .i64 (inv q p).1.2]) ∧ Below w.heap.size w w' := by
  have cI := fun W => implInv q p W
  generalize (inv q p).1.1 = u at *
  generalize (inv q p).1.2 = v at *
  generalize (inv q p).2 = b at *
  go_enter Try.func86, Try.ntmps86
  go_wp2_with fail
  refine (cI _).mono ?_
  rintro e w1 ⟨rfl, rfl⟩
  unfold al
  go_wp2_with fail
  go_returns
  exact ⟨rfl, by go_grown⟩
theorem exact_f (s : Stp) (w : World) : Calls Try.prog 81 #[.agg #[], .agg s.c] w fun e w' => e = .returned (.bool true) ∧ Below w.heap.size w w' := by
  unfold Stp.c
  go_enter Try.func81, Try.ntmps81
  go_wp2_with fail
  go_ret
  exact ⟨rfl, by go_grown⟩
theorem exact_t (k : Int) (x y : Nat) (q : Int) (w : World) : Calls Try.prog 84 #[.agg #[], .agg #[.int .i64 k, .complex .f64 x y, .int .i64 q, .int .i64 0]] w fun e w' => e = .returned (.bool true) ∧ Below w.heap.size w w' := by
  go_enter Try.func84, Try.ntmps84
  go_wp2_with fail
  go_ret
  exact ⟨rfl, by go_grown⟩
end Go.Proofs.Ytpemmmnohlimmaa.Stp
