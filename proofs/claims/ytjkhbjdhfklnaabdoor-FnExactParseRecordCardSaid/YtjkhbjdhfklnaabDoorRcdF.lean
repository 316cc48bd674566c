/- FormatRecord, of the model and of the program. -/
import Derived.Test.YtjkhbjdhfklnaabDoorRcd
import Derived.Test.YtjkhbjdhfklnaabDoorDoor
import Derived.Test.YtjkhbjdhfklnaabDoorOld
namespace Go.Proofs.YtjkhbjdhfklnaabDoor.Rcd
open Go.ChangeShapes Go.WideShapes Go.ChangeAt Go.RowKit Go.Proofs.YtjkhbjdhfklnaabDoor Go.Proofs.YtjkhbjdhfklnaabDoor.Fld
set_option linter.unusedVariables false
set_option linter.unusedSimpArgs false
theorem tx_app (a b : List UInt8) : (⟨a.toArray⟩ : ByteArray) ++ ⟨b.toArray⟩ = ⟨(a ++ b).toArray⟩ := by
  apply ByteArray.ext
  apply Array.toList_inj.1
  simp
theorem size_tx (l : List UInt8) : (⟨l.toArray⟩ : ByteArray).size = l.length := by simp [ByteArray.size]
/-- what FormatRecord tells -/
def Out (a b c d : Int) (w : World) (e : Ending) (w' : World) : Prop := e = .returned (.string ⟨(fmt a b c d).toArray⟩) ∧ Below w.heap.size w w'
theorem place_any (n c : Int) (w : World) : Calls Tryd.prog 14 #[.int .i64 n, .int .i64 c] w fun e w' => e = .returned (.bool (decide (0 ≤ n ∧ n < c))) ∧ w' = w := by
  by_cases h0 : 0 ≤ n
  · by_cases h1 : n < c
    · rw [decide_eq_true (show 0 ≤ n ∧ n < c from ⟨h0, h1⟩)]
      go_enter Tryd.func14, Tryd.ntmps14
      go_wp2_with fail
      go_ret
      exact ⟨rfl, rfl⟩
    · rw [decide_eq_false (show ¬ (0 ≤ n ∧ n < c) from fun h => h1 h.2)]
      go_enter Tryd.func14, Tryd.ntmps14
      go_wp2_with fail
      go_ret
      exact ⟨rfl, rfl⟩
  · rw [decide_eq_false (show ¬ (0 ≤ n ∧ n < c) from fun h => h0 h.1)]
    go_enter Tryd.func14, Tryd.ntmps14
    go_wp2_with fail
    go_ret
    exact ⟨rfl, rfl⟩
theorem in_any (n a b : Int) (w : World) : Calls Tryd.prog 11 #[.int .i64 n, .int .i64 a, .int .i64 b] w fun e w' => e = .returned (.bool (decide (a ≤ n ∧ n ≤ b))) ∧ w' = w := by
  by_cases h0 : a ≤ n
  · by_cases h1 : n ≤ b
    · rw [decide_eq_true (show a ≤ n ∧ n ≤ b from ⟨h0, h1⟩)]
      go_enter Tryd.func11, Tryd.ntmps11
      go_wp2_with fail
      go_ret
      exact ⟨rfl, rfl⟩
    · rw [decide_eq_false (show ¬ (a ≤ n ∧ n ≤ b) from fun h => h1 h.2)]
      go_enter Tryd.func11, Tryd.ntmps11
      go_wp2_with fail
      go_ret
      exact ⟨rfl, rfl⟩
  · rw [decide_eq_false (show ¬ (a ≤ n ∧ n ≤ b) from fun h => h0 h.1)]
    go_enter Tryd.func11, Tryd.ntmps11
    go_wp2_with fail
    go_ret
    exact ⟨rfl, rfl⟩
theorem code_any (n : Int) (w : World) : Calls Tryd.prog 15 #[.int .i64 n] w fun e w' => e = .returned (.bool (decide (-32767 ≤ n ∧ n ≤ 32767))) ∧ w' = w := by
  by_cases h0 : -32767 ≤ n
  · by_cases h1 : n ≤ 32767
    · rw [decide_eq_true (show -32767 ≤ n ∧ n ≤ 32767 from ⟨h0, h1⟩)]
      go_enter Tryd.func15, Tryd.ntmps15
      go_wp2_with fail
      go_ret
      exact ⟨rfl, rfl⟩
    · rw [decide_eq_false (show ¬ (-32767 ≤ n ∧ n ≤ 32767) from fun h => h1 h.2)]
      go_enter Tryd.func15, Tryd.ntmps15
      go_wp2_with fail
      go_ret
      exact ⟨rfl, rfl⟩
  · rw [decide_eq_false (show ¬ (-32767 ≤ n ∧ n ≤ 32767) from fun h => h0 h.1)]
    go_enter Tryd.func15, Tryd.ntmps15
    go_wp2_with fail
    go_ret
    exact ⟨rfl, rfl⟩
theorem code_spec (n : Int) (w : World) : Calls Tryd.prog 12 #[.int .i64 n] w fun e w' => e = .returned (.bool (decide (-32767 ≤ n ∧ n ≤ 32767))) ∧ w' = w := by
  have c := fun W => in_any n (-32767) 32767 W
  generalize decide (-32767 ≤ n ∧ n ≤ 32767) = r at *
  go_enter Tryd.func12, Tryd.ntmps12
  go_wp2_with fail
  refine (c _).mono ?_
  rintro e w1 ⟨rfl, rfl⟩
  go_wp2_with fail
  go_ret
  exact ⟨rfl, rfl⟩
theorem itoa_out {n : Int} {w w' : World} {e : Ending} {x : ByteArray} (hx : ⟨(Lib.itoa n).toArray⟩ = x) (h : Fmi.Out n w e w') : e = .returned (.string x) ∧ Below w.heap.size w w' := by
  unfold Fmi.Out at h
  rw [hx] at h; exact h
set_option maxRecDepth 20000 in
set_option maxHeartbeats 3200000 in
theorem spec_fmt (a b c d : Int) (w : World) : Calls Tryd.prog 5 #[.agg #[.int .i64 a, .int .i64 b, .int .i64 c, .int .i64 d]] w (Out a b c d w) := by
  have c1 := fun W => in_any a 0 5 W
  have c2 := fun W => in_any b 0 11 W
  have c3 := fun W => code_spec c W
  have c4 := fun W => code_spec d W
  have hb0 : Below w.heap.size w (w.alloc (.cells #[.int .i64 a, .int .i64 b, .int .i64 c, .int .i64 d] 25)) := by go_grown
  by_cases ha : 0 ≤ a ∧ a ≤ 5
  · rw [decide_eq_true ha] at c1
    by_cases hb : 0 ≤ b ∧ b ≤ 11
    · rw [decide_eq_true hb] at c2
      by_cases hc : -32767 ≤ c ∧ c ≤ 32767
      · rw [decide_eq_true hc] at c3
        by_cases hd : -32767 ≤ d ∧ d ≤ 32767
        · rw [decide_eq_true hd] at c4
          have hg : Gd a b c d := by unfold Gd; omega
          obtain ⟨g1, g2, g3, g4⟩ := hg.all
          unfold Out
          rw [fmt_good hg]
          unfold txt
          have za := size_tx (Lib.itoa a)
          have la := itoa_len g1
          have zb := size_tx (Lib.itoa b)
          have lb := itoa_len g2
          have zc := size_tx (Lib.itoa c)
          have lc := itoa_len g3
          have zd := size_tx (Lib.itoa d)
          have ld := itoa_len g4
          obtain ⟨p, hp⟩ : ∃ p, Lib.itoa a = p := ⟨_, rfl⟩
          obtain ⟨q, hq⟩ : ∃ p, Lib.itoa b = p := ⟨_, rfl⟩
          obtain ⟨r, hr⟩ : ∃ p, Lib.itoa c = p := ⟨_, rfl⟩
          obtain ⟨s, hs⟩ : ∃ p, Lib.itoa d = p := ⟨_, rfl⟩
          rw [hp] at la za ⊢
          rw [hq] at lb zb ⊢
          rw [hr] at lc zc ⊢
          rw [hs] at ld zd ⊢
          have e1 : (⟨p.toArray⟩ : ByteArray) ++ ⟨#[32]⟩ = ⟨(p ++ [32]).toArray⟩ := tx_app p [32]
          have e2 : (⟨(p ++ [32]).toArray⟩ : ByteArray) ++ ⟨q.toArray⟩ = ⟨(p ++ 32 :: q).toArray⟩ := by rw [tx_app]; simp
          have e3 : (⟨(p ++ 32 :: q).toArray⟩ : ByteArray) ++ ⟨#[32]⟩ = ⟨(p ++ 32 :: (q ++ [32])).toArray⟩ := by rw [show (⟨#[32]⟩ : ByteArray) = ⟨([32] : List UInt8).toArray⟩ from rfl, tx_app]; simp
          have e4 : (⟨(p ++ 32 :: (q ++ [32])).toArray⟩ : ByteArray) ++ ⟨r.toArray⟩ = ⟨(p ++ 32 :: (q ++ 32 :: r)).toArray⟩ := by rw [tx_app]; simp
          have e5 : (⟨(p ++ 32 :: (q ++ 32 :: r)).toArray⟩ : ByteArray) ++ ⟨#[32]⟩ = ⟨(p ++ 32 :: (q ++ 32 :: (r ++ [32]))).toArray⟩ := by rw [show (⟨#[32]⟩ : ByteArray) = ⟨([32] : List UInt8).toArray⟩ from rfl, tx_app]; simp
          have e6 : (⟨(p ++ 32 :: (q ++ 32 :: (r ++ [32]))).toArray⟩ : ByteArray) ++ ⟨s.toArray⟩ = ⟨(p ++ 32 :: (q ++ 32 :: (r ++ 32 :: s))).toArray⟩ := by rw [tx_app]; simp
          have y1 := size_tx (p ++ [32])
          have y2 := size_tx (p ++ 32 :: q)
          have y3 := size_tx (p ++ 32 :: (q ++ [32]))
          have y4 := size_tx (p ++ 32 :: (q ++ 32 :: r))
          have y5 := size_tx (p ++ 32 :: (q ++ 32 :: (r ++ [32])))
          simp only [List.length_append, List.length_cons, List.length_nil] at y1 y2 y3 y4 y5
          have i1 := fun W => (Door.spec_any a (by omega) (by omega) W).mono (fun e w' he => itoa_out (congrArg (fun l : List UInt8 => (⟨l.toArray⟩ : ByteArray)) hp) he)
          have i2 := fun W => (Door.spec_any b (by omega) (by omega) W).mono (fun e w' he => itoa_out (congrArg (fun l : List UInt8 => (⟨l.toArray⟩ : ByteArray)) hq) he)
          have i3 := fun W => (Door.spec_any c (by omega) (by omega) W).mono (fun e w' he => itoa_out (congrArg (fun l : List UInt8 => (⟨l.toArray⟩ : ByteArray)) hr) he)
          have i4 := fun W => (Door.spec_any d (by omega) (by omega) W).mono (fun e w' he => itoa_out (congrArg (fun l : List UInt8 => (⟨l.toArray⟩ : ByteArray)) hs) he)
          obtain ⟨P, hP⟩ : ∃ P, (⟨p.toArray⟩ : ByteArray) = P := ⟨_, rfl⟩
          obtain ⟨Q, hQ⟩ : ∃ P, (⟨q.toArray⟩ : ByteArray) = P := ⟨_, rfl⟩
          obtain ⟨R, hR⟩ : ∃ P, (⟨r.toArray⟩ : ByteArray) = P := ⟨_, rfl⟩
          obtain ⟨S, hS⟩ : ∃ P, (⟨s.toArray⟩ : ByteArray) = P := ⟨_, rfl⟩
          obtain ⟨D1, hD1⟩ : ∃ P, (⟨(p ++ [32]).toArray⟩ : ByteArray) = P := ⟨_, rfl⟩
          obtain ⟨D2, hD2⟩ : ∃ P, (⟨(p ++ 32 :: q).toArray⟩ : ByteArray) = P := ⟨_, rfl⟩
          obtain ⟨D3, hD3⟩ : ∃ P, (⟨(p ++ 32 :: (q ++ [32])).toArray⟩ : ByteArray) = P := ⟨_, rfl⟩
          obtain ⟨D4, hD4⟩ : ∃ P, (⟨(p ++ 32 :: (q ++ 32 :: r)).toArray⟩ : ByteArray) = P := ⟨_, rfl⟩
          obtain ⟨D5, hD5⟩ : ∃ P, (⟨(p ++ 32 :: (q ++ 32 :: (r ++ [32]))).toArray⟩ : ByteArray) = P := ⟨_, rfl⟩
          obtain ⟨D6, hD6⟩ : ∃ P, (⟨(p ++ 32 :: (q ++ 32 :: (r ++ 32 :: s))).toArray⟩ : ByteArray) = P := ⟨_, rfl⟩
          rw [hP] at za e1 i1
          rw [hQ] at zb e2 i2
          rw [hR] at zc e4 i3
          rw [hS] at zd e6 i4
          rw [hD1] at y1 e1 e2
          rw [hD2] at y2 e2 e3
          rw [hD3] at y3 e3 e4
          rw [hD4] at y4 e4 e5
          rw [hD5] at y5 e5 e6
          rw [hD6] at e6 ⊢
          clear hp hq hr hs hP hQ hR hS hD1 hD2 hD3 hD4 hD5 hD6
          go_enter Tryd.func5, Tryd.ntmps5
          go_wp2_with fail
          refine (c1 _).mono ?_
          rintro e w1 ⟨rfl, rfl⟩
          go_wp2_with fail
          refine (c2 _).mono ?_
          rintro e w1 ⟨rfl, rfl⟩
          go_wp2_with fail
          refine (c3 _).mono ?_
          rintro e w1 ⟨rfl, rfl⟩
          go_wp2_with fail
          refine (c4 _).mono ?_
          rintro e w1 ⟨rfl, rfl⟩
          go_wp2_with fail
          obtain ⟨W, hW⟩ : ∃ W, (w.alloc (.cells #[.int .i64 a, .int .i64 b, .int .i64 c, .int .i64 d] 25)) = W := ⟨_, rfl⟩
          have m0 : ∀ n : Old W, n.x.cell? ⟨w.heap.size, 0, none⟩ = some (.int .i64 a) := fun n => (old_cell n (by rw [← hW]; show w.heap.size < _; rw [World.size_alloc]; omega)).trans (by rw [← hW]; simp [go_sem])
          have m1 : ∀ n : Old W, n.x.cell? ⟨w.heap.size, 1, none⟩ = some (.int .i64 b) := fun n => (old_cell n (by rw [← hW]; show w.heap.size < _; rw [World.size_alloc]; omega)).trans (by rw [← hW]; simp [go_sem])
          have m2 : ∀ n : Old W, n.x.cell? ⟨w.heap.size, 2, none⟩ = some (.int .i64 c) := fun n => (old_cell n (by rw [← hW]; show w.heap.size < _; rw [World.size_alloc]; omega)).trans (by rw [← hW]; simp [go_sem])
          have m3 : ∀ n : Old W, n.x.cell? ⟨w.heap.size, 3, none⟩ = some (.int .i64 d) := fun n => (old_cell n (by rw [← hW]; show w.heap.size < _; rw [World.size_alloc]; omega)).trans (by rw [← hW]; simp [go_sem])
          have K1 := Lib.hid (show ∀ n : Old W, Calls Tryd.prog 13 #[.int .i64 a] n.x fun e w'' => e = .returned (.string P) ∧ ∃ m : Old W, w'' = m.x from fun n => old_call (i1 n.x))
          have K2 := Lib.hid (show ∀ n : Old W, Calls Tryd.prog 13 #[.int .i64 b] n.x fun e w'' => e = .returned (.string Q) ∧ ∃ m : Old W, w'' = m.x from fun n => old_call (i2 n.x))
          have K3 := Lib.hid (show ∀ n : Old W, Calls Tryd.prog 13 #[.int .i64 c] n.x fun e w'' => e = .returned (.string R) ∧ ∃ m : Old W, w'' = m.x from fun n => old_call (i3 n.x))
          have K4 := Lib.hid (show ∀ n : Old W, Calls Tryd.prog 13 #[.int .i64 d] n.x fun e w'' => e = .returned (.string S) ∧ ∃ m : Old W, w'' = m.x from fun n => old_call (i4 n.x))
          have Hb := Lib.hid (show Below w.heap.size w W from hW ▸ hb0)
          clear i1 i2 i3 i4 hb0 g1 g2 g3 g4 hg
          rw [hW]
          clear hW
          refine wp_region_old (by kernel_rfl) (by kernel_rfl) ?_
          iterate 4 (go_big_quiet_step ((go_at_call 13; exact K1.out _)))
          iterate 5 (go_big_quiet_step ((go_at_call 13; exact K2.out _)))
          iterate 5 (go_big_quiet_step ((go_at_call 13; exact K3.out _)))
          repeat (go_big_quiet_step ((go_at_call 13; exact K4.out _)))
          refine wpQuiet_nil ?_
          rintro _ ⟨n, rfl⟩
          go_wp2_with fail
          go_ret
          exact ⟨rfl, Hb.out.trans (n.h.mono Hb.out.size)⟩
        · rw [decide_eq_false hd] at c4
          have hg : ¬ Gd a b c d := by unfold Gd; omega
          unfold Out
          rw [fmt_bad hg]
          clear hg
          have Hb := Lib.hid hb0
          clear hb0
          go_enter Tryd.func5, Tryd.ntmps5
          go_wp2_with fail
          refine (c1 _).mono ?_
          rintro e w1 ⟨rfl, rfl⟩
          go_wp2_with fail
          refine (c2 _).mono ?_
          rintro e w1 ⟨rfl, rfl⟩
          go_wp2_with fail
          refine (c3 _).mono ?_
          rintro e w1 ⟨rfl, rfl⟩
          go_wp2_with fail
          refine (c4 _).mono ?_
          rintro e w1 ⟨rfl, rfl⟩
          go_wp2_with fail
          go_ret
          exact ⟨rfl, Hb.out⟩
      · rw [decide_eq_false hc] at c3
        have hg : ¬ Gd a b c d := by unfold Gd; omega
        unfold Out
        rw [fmt_bad hg]
        clear hg
        have Hb := Lib.hid hb0
        clear hb0
        go_enter Tryd.func5, Tryd.ntmps5
        go_wp2_with fail
        refine (c1 _).mono ?_
        rintro e w1 ⟨rfl, rfl⟩
        go_wp2_with fail
        refine (c2 _).mono ?_
        rintro e w1 ⟨rfl, rfl⟩
        go_wp2_with fail
        refine (c3 _).mono ?_
        rintro e w1 ⟨rfl, rfl⟩
        go_wp2_with fail
        go_ret
        exact ⟨rfl, Hb.out⟩
    · rw [decide_eq_false hb] at c2
      have hg : ¬ Gd a b c d := by unfold Gd; omega
      unfold Out
      rw [fmt_bad hg]
      clear hg
      have Hb := Lib.hid hb0
      clear hb0
      go_enter Tryd.func5, Tryd.ntmps5
      go_wp2_with fail
      refine (c1 _).mono ?_
      rintro e w1 ⟨rfl, rfl⟩
      go_wp2_with fail
      refine (c2 _).mono ?_
      rintro e w1 ⟨rfl, rfl⟩
      go_wp2_with fail
      go_ret
      exact ⟨rfl, Hb.out⟩
  · rw [decide_eq_false ha] at c1
    have hg : ¬ Gd a b c d := by unfold Gd; omega
    unfold Out
    rw [fmt_bad hg]
    clear hg
    have Hb := Lib.hid hb0
    clear hb0
    go_enter Tryd.func5, Tryd.ntmps5
    go_wp2_with fail
    refine (c1 _).mono ?_
    rintro e w1 ⟨rfl, rfl⟩
    go_wp2_with fail
    go_ret
    exact ⟨rfl, Hb.out⟩
set_option maxRecDepth 20000 in
set_option maxHeartbeats 3200000 in
theorem impl_fmt (a b c d : Int) (w : World) (hT : Door.Tab w) : Calls Tryd.prog 7 #[.agg #[.int .i64 a, .int .i64 b, .int .i64 c, .int .i64 d]] w (Out a b c d w) := by
  have c1 := fun W => place_any a 6 W
  have c2 := fun W => place_any b 12 W
  have c3 := fun W => code_any c W
  have c4 := fun W => code_any d W
  have hb0 : Below w.heap.size w (w.alloc (.cells #[.int .i64 a, .int .i64 b, .int .i64 c, .int .i64 d] 25)) := by go_grown
  by_cases ha : 0 ≤ a ∧ a < 6
  · rw [decide_eq_true ha] at c1
    by_cases hb : 0 ≤ b ∧ b < 12
    · rw [decide_eq_true hb] at c2
      by_cases hc : -32767 ≤ c ∧ c ≤ 32767
      · rw [decide_eq_true hc] at c3
        by_cases hd : -32767 ≤ d ∧ d ≤ 32767
        · rw [decide_eq_true hd] at c4
          have hg : Gd a b c d := by unfold Gd; omega
          obtain ⟨g1, g2, g3, g4⟩ := hg.all
          unfold Out
          rw [fmt_good hg]
          unfold txt
          have za := size_tx (Lib.itoa a)
          have la := itoa_len g1
          have zb := size_tx (Lib.itoa b)
          have lb := itoa_len g2
          have zc := size_tx (Lib.itoa c)
          have lc := itoa_len g3
          have zd := size_tx (Lib.itoa d)
          have ld := itoa_len g4
          obtain ⟨p, hp⟩ : ∃ p, Lib.itoa a = p := ⟨_, rfl⟩
          obtain ⟨q, hq⟩ : ∃ p, Lib.itoa b = p := ⟨_, rfl⟩
          obtain ⟨r, hr⟩ : ∃ p, Lib.itoa c = p := ⟨_, rfl⟩
          obtain ⟨s, hs⟩ : ∃ p, Lib.itoa d = p := ⟨_, rfl⟩
          rw [hp] at la za ⊢
          rw [hq] at lb zb ⊢
          rw [hr] at lc zc ⊢
          rw [hs] at ld zd ⊢
          have e1 : (⟨p.toArray⟩ : ByteArray) ++ ⟨#[32]⟩ = ⟨(p ++ [32]).toArray⟩ := tx_app p [32]
          have e2 : (⟨(p ++ [32]).toArray⟩ : ByteArray) ++ ⟨q.toArray⟩ = ⟨(p ++ 32 :: q).toArray⟩ := by rw [tx_app]; simp
          have e3 : (⟨(p ++ 32 :: q).toArray⟩ : ByteArray) ++ ⟨#[32]⟩ = ⟨(p ++ 32 :: (q ++ [32])).toArray⟩ := by rw [show (⟨#[32]⟩ : ByteArray) = ⟨([32] : List UInt8).toArray⟩ from rfl, tx_app]; simp
          have e4 : (⟨(p ++ 32 :: (q ++ [32])).toArray⟩ : ByteArray) ++ ⟨r.toArray⟩ = ⟨(p ++ 32 :: (q ++ 32 :: r)).toArray⟩ := by rw [tx_app]; simp
          have e5 : (⟨(p ++ 32 :: (q ++ 32 :: r)).toArray⟩ : ByteArray) ++ ⟨#[32]⟩ = ⟨(p ++ 32 :: (q ++ 32 :: (r ++ [32]))).toArray⟩ := by rw [show (⟨#[32]⟩ : ByteArray) = ⟨([32] : List UInt8).toArray⟩ from rfl, tx_app]; simp
          have e6 : (⟨(p ++ 32 :: (q ++ 32 :: (r ++ [32]))).toArray⟩ : ByteArray) ++ ⟨s.toArray⟩ = ⟨(p ++ 32 :: (q ++ 32 :: (r ++ 32 :: s))).toArray⟩ := by rw [tx_app]; simp
          have y1 := size_tx (p ++ [32])
          have y2 := size_tx (p ++ 32 :: q)
          have y3 := size_tx (p ++ 32 :: (q ++ [32]))
          have y4 := size_tx (p ++ 32 :: (q ++ 32 :: r))
          have y5 := size_tx (p ++ 32 :: (q ++ 32 :: (r ++ [32])))
          simp only [List.length_append, List.length_cons, List.length_nil] at y1 y2 y3 y4 y5
          have i1 := fun W hW => (Door.impl_any a (by omega) (by omega) W hW).mono (fun e w' he => itoa_out (congrArg (fun l : List UInt8 => (⟨l.toArray⟩ : ByteArray)) hp) he)
          have i2 := fun W hW => (Door.impl_any b (by omega) (by omega) W hW).mono (fun e w' he => itoa_out (congrArg (fun l : List UInt8 => (⟨l.toArray⟩ : ByteArray)) hq) he)
          have i3 := fun W hW => (Door.impl_any c (by omega) (by omega) W hW).mono (fun e w' he => itoa_out (congrArg (fun l : List UInt8 => (⟨l.toArray⟩ : ByteArray)) hr) he)
          have i4 := fun W hW => (Door.impl_any d (by omega) (by omega) W hW).mono (fun e w' he => itoa_out (congrArg (fun l : List UInt8 => (⟨l.toArray⟩ : ByteArray)) hs) he)
          obtain ⟨P, hP⟩ : ∃ P, (⟨p.toArray⟩ : ByteArray) = P := ⟨_, rfl⟩
          obtain ⟨Q, hQ⟩ : ∃ P, (⟨q.toArray⟩ : ByteArray) = P := ⟨_, rfl⟩
          obtain ⟨R, hR⟩ : ∃ P, (⟨r.toArray⟩ : ByteArray) = P := ⟨_, rfl⟩
          obtain ⟨S, hS⟩ : ∃ P, (⟨s.toArray⟩ : ByteArray) = P := ⟨_, rfl⟩
          obtain ⟨D1, hD1⟩ : ∃ P, (⟨(p ++ [32]).toArray⟩ : ByteArray) = P := ⟨_, rfl⟩
          obtain ⟨D2, hD2⟩ : ∃ P, (⟨(p ++ 32 :: q).toArray⟩ : ByteArray) = P := ⟨_, rfl⟩
          obtain ⟨D3, hD3⟩ : ∃ P, (⟨(p ++ 32 :: (q ++ [32])).toArray⟩ : ByteArray) = P := ⟨_, rfl⟩
          obtain ⟨D4, hD4⟩ : ∃ P, (⟨(p ++ 32 :: (q ++ 32 :: r)).toArray⟩ : ByteArray) = P := ⟨_, rfl⟩
          obtain ⟨D5, hD5⟩ : ∃ P, (⟨(p ++ 32 :: (q ++ 32 :: (r ++ [32]))).toArray⟩ : ByteArray) = P := ⟨_, rfl⟩
          obtain ⟨D6, hD6⟩ : ∃ P, (⟨(p ++ 32 :: (q ++ 32 :: (r ++ 32 :: s))).toArray⟩ : ByteArray) = P := ⟨_, rfl⟩
          rw [hP] at za e1 i1
          rw [hQ] at zb e2 i2
          rw [hR] at zc e4 i3
          rw [hS] at zd e6 i4
          rw [hD1] at y1 e1 e2
          rw [hD2] at y2 e2 e3
          rw [hD3] at y3 e3 e4
          rw [hD4] at y4 e4 e5
          rw [hD5] at y5 e5 e6
          rw [hD6] at e6 ⊢
          clear hp hq hr hs hP hQ hR hS hD1 hD2 hD3 hD4 hD5 hD6
          go_enter Tryd.func7, Tryd.ntmps7
          go_wp2_with fail
          refine (c1 _).mono ?_
          rintro e w1 ⟨rfl, rfl⟩
          go_wp2_with fail
          refine (c2 _).mono ?_
          rintro e w1 ⟨rfl, rfl⟩
          go_wp2_with fail
          refine (c3 _).mono ?_
          rintro e w1 ⟨rfl, rfl⟩
          go_wp2_with fail
          refine (c4 _).mono ?_
          rintro e w1 ⟨rfl, rfl⟩
          go_wp2_with fail
          obtain ⟨W, hW⟩ : ∃ W, (w.alloc (.cells #[.int .i64 a, .int .i64 b, .int .i64 c, .int .i64 d] 25)) = W := ⟨_, rfl⟩
          have m0 : ∀ n : Old W, n.x.cell? ⟨w.heap.size, 0, none⟩ = some (.int .i64 a) := fun n => (old_cell n (by rw [← hW]; show w.heap.size < _; rw [World.size_alloc]; omega)).trans (by rw [← hW]; simp [go_sem])
          have m1 : ∀ n : Old W, n.x.cell? ⟨w.heap.size, 1, none⟩ = some (.int .i64 b) := fun n => (old_cell n (by rw [← hW]; show w.heap.size < _; rw [World.size_alloc]; omega)).trans (by rw [← hW]; simp [go_sem])
          have m2 : ∀ n : Old W, n.x.cell? ⟨w.heap.size, 2, none⟩ = some (.int .i64 c) := fun n => (old_cell n (by rw [← hW]; show w.heap.size < _; rw [World.size_alloc]; omega)).trans (by rw [← hW]; simp [go_sem])
          have m3 : ∀ n : Old W, n.x.cell? ⟨w.heap.size, 3, none⟩ = some (.int .i64 d) := fun n => (old_cell n (by rw [← hW]; show w.heap.size < _; rw [World.size_alloc]; omega)).trans (by rw [← hW]; simp [go_sem])
          have hTW : Door.Tab W := Door.tab_below hT (hW ▸ hb0)
          have K1 := Lib.hid (show ∀ n : Old W, Calls Tryd.prog 16 #[.int .i64 a] n.x fun e w'' => e = .returned (.string P) ∧ ∃ m : Old W, w'' = m.x from fun n => old_call (i1 n.x (Door.tab_below hTW n.h)))
          have K2 := Lib.hid (show ∀ n : Old W, Calls Tryd.prog 16 #[.int .i64 b] n.x fun e w'' => e = .returned (.string Q) ∧ ∃ m : Old W, w'' = m.x from fun n => old_call (i2 n.x (Door.tab_below hTW n.h)))
          have K3 := Lib.hid (show ∀ n : Old W, Calls Tryd.prog 16 #[.int .i64 c] n.x fun e w'' => e = .returned (.string R) ∧ ∃ m : Old W, w'' = m.x from fun n => old_call (i3 n.x (Door.tab_below hTW n.h)))
          have K4 := Lib.hid (show ∀ n : Old W, Calls Tryd.prog 16 #[.int .i64 d] n.x fun e w'' => e = .returned (.string S) ∧ ∃ m : Old W, w'' = m.x from fun n => old_call (i4 n.x (Door.tab_below hTW n.h)))
          have Hb := Lib.hid (show Below w.heap.size w W from hW ▸ hb0)
          clear i1 i2 i3 i4 hb0 g1 g2 g3 g4 hg hT hTW
          rw [hW]
          clear hW
          refine wp_region_old (by kernel_rfl) (by kernel_rfl) ?_
          iterate 4 (go_big_quiet_step ((go_at_call 16; exact K1.out _)))
          iterate 5 (go_big_quiet_step ((go_at_call 16; exact K2.out _)))
          iterate 5 (go_big_quiet_step ((go_at_call 16; exact K3.out _)))
          repeat (go_big_quiet_step ((go_at_call 16; exact K4.out _)))
          refine wpQuiet_nil ?_
          rintro _ ⟨n, rfl⟩
          go_wp2_with fail
          go_ret
          exact ⟨rfl, Hb.out.trans (n.h.mono Hb.out.size)⟩
        · rw [decide_eq_false hd] at c4
          have hg : ¬ Gd a b c d := by unfold Gd; omega
          unfold Out
          rw [fmt_bad hg]
          clear hg
          have Hb := Lib.hid hb0
          clear hb0
          go_enter Tryd.func7, Tryd.ntmps7
          go_wp2_with fail
          refine (c1 _).mono ?_
          rintro e w1 ⟨rfl, rfl⟩
          go_wp2_with fail
          refine (c2 _).mono ?_
          rintro e w1 ⟨rfl, rfl⟩
          go_wp2_with fail
          refine (c3 _).mono ?_
          rintro e w1 ⟨rfl, rfl⟩
          go_wp2_with fail
          refine (c4 _).mono ?_
          rintro e w1 ⟨rfl, rfl⟩
          go_wp2_with fail
          go_ret
          exact ⟨rfl, Hb.out⟩
      · rw [decide_eq_false hc] at c3
        have hg : ¬ Gd a b c d := by unfold Gd; omega
        unfold Out
        rw [fmt_bad hg]
        clear hg
        have Hb := Lib.hid hb0
        clear hb0
        go_enter Tryd.func7, Tryd.ntmps7
        go_wp2_with fail
        refine (c1 _).mono ?_
        rintro e w1 ⟨rfl, rfl⟩
        go_wp2_with fail
        refine (c2 _).mono ?_
        rintro e w1 ⟨rfl, rfl⟩
        go_wp2_with fail
        refine (c3 _).mono ?_
        rintro e w1 ⟨rfl, rfl⟩
        go_wp2_with fail
        go_ret
        exact ⟨rfl, Hb.out⟩
    · rw [decide_eq_false hb] at c2
      have hg : ¬ Gd a b c d := by unfold Gd; omega
      unfold Out
      rw [fmt_bad hg]
      clear hg
      have Hb := Lib.hid hb0
      clear hb0
      go_enter Tryd.func7, Tryd.ntmps7
      go_wp2_with fail
      refine (c1 _).mono ?_
      rintro e w1 ⟨rfl, rfl⟩
      go_wp2_with fail
      refine (c2 _).mono ?_
      rintro e w1 ⟨rfl, rfl⟩
      go_wp2_with fail
      go_ret
      exact ⟨rfl, Hb.out⟩
  · rw [decide_eq_false ha] at c1
    have hg : ¬ Gd a b c d := by unfold Gd; omega
    unfold Out
    rw [fmt_bad hg]
    clear hg
    have Hb := Lib.hid hb0
    clear hb0
    go_enter Tryd.func7, Tryd.ntmps7
    go_wp2_with fail
    refine (c1 _).mono ?_
    rintro e w1 ⟨rfl, rfl⟩
    go_wp2_with fail
    go_ret
    exact ⟨rfl, Hb.out⟩
end Go.Proofs.YtjkhbjdhfklnaabDoor.Rcd
