/- PairOf and EqualWithin: the pair of a complex number, in the model and in the program. -/
import Derived.Test.YtkjjeccgmeiniaaQtmDr
namespace Go.Proofs.Ytkjjeccgmeiniaa.Qtm
open Go.ChangeShapes Go.WideShapes Go.ChangeAt Go.RowKit Go.Deep Go.Proofs.Ytkjjeccgmeiniaa Go.Proofs.Ytkjjeccgmeiniaa.Flt Go.Proofs.Ytkjjeccgmeiniaa.Mth Go.Proofs.Ytkjjeccgmeiniaa.Drw
open Ieee (single double)
set_option linter.unusedVariables false
set_option linter.unusedSimpArgs false
set_option maxRecDepth 20000
/-- the pair of a complex number -/
def pO (u : Nat × Bool) (x y : Nat) : (Int × Int) × Bool := if (qOut u x).2 = true ∧ (qOut u y).2 = true then (((qOut u x).1, (qOut u y).1), true) else ((0, 0), false)
def pv2 (p : Int × Int) : Value := .agg #[.int .i64 p.1, .int .i64 p.2]
/-- what pairOf gives -/
def PO (u : Nat × Bool) (x y : Nat) (w : World) (e : Ending) (w' : World) : Prop := e = .returned (.tuple #[pv2 (pO u x y).1, .bool (pO u x y).2]) ∧ Below w.heap.size w w'
theorem two_block {W : World} {A : Nat} {x y : Value} {T : TypeId} (h : W.heap[A]? = some (.cells #[x, y] T (0, 0))) (x' y' : Value) :
    ((W.setCell ⟨A, 0, none⟩ x').setCell ⟨A, 1, none⟩ y').heap[A]? = some (.cells #[x', y'] T (0, 0)) := block_setCell (o := 1) (block_setCell (o := 0) h x') y'
set_option maxHeartbeats 1600000 in
theorem pair_any (s : ByteArray) (m e : Int) (x y : Nat) (w : World) :
    Calls Try.prog 38 #[.complex .f32 x y, uv s m e] w (PO (uOut s m e) x y w) := by
  have hq := fun x W => impl_quant s m e x W
  unfold QOut at hq
  unfold PO pO
  generalize uOut s m e = u at *
  have hx := fun W => hq x W
  have hy := fun W => hq y W
  obtain ⟨⟨n, ok⟩, hn⟩ : ∃ p, qOut u x = p := ⟨_, rfl⟩
  obtain ⟨⟨k, is⟩, hk⟩ : ∃ p, qOut u y = p := ⟨_, rfl⟩
  simp only [hn] at hx
  simp only [hk] at hy
  rw [hn, hk]
  dsimp only
  unfold uv at *
  clear hq hn hk
  have H1 := Lib.hid ((UB.new s m e w 25).alloc (.cells #[.int .i64 0, .int .i64 0] 62))
  have HR := Lib.hid (show ((w.alloc (.cells #[.string s, .int .i64 m, .int .i64 e] 25)).alloc (.cells #[.int .i64 0, .int .i64 0] 62)).heap[w.heap.size + 1]? = some (.cells #[.int .i64 0, .int .i64 0] 62 (0, 0)) by
    have h := block_new (w.alloc (.cells #[.string s, .int .i64 m, .int .i64 e] 25)) (.cells #[.int .i64 0, .int .i64 0] 62)
    rw [size_al] at h
    exact h)
  cases ok
  · rw [if_neg (fun h => by cases h.1)]
    go_enter Try.func38, Try.ntmps38
    go_wp2_with fail
    refine (hx _).mono ?_
    rintro z w2 ⟨rfl, hb2⟩
    have H2 := Lib.hid (H1.out.next hb2)
    have HR2 := Lib.hid (below_bk hb2 HR.out)
    clear hb2 H1 HR
    obtain ⟨c0, c1, c2⟩ := H2.out.2
    go_wp2_with fail
    refine (hy _).mono ?_
    rintro z w3 ⟨rfl, hb3⟩
    have H3 := Lib.hid (H2.out.next hb3)
    have HR3 := Lib.hid (below_bk hb3 HR2.out)
    clear hb3 H2 HR2 c0 c1 c2
    have z0 := free_of HR3.out 0
    have z1 := free_of HR3.out 1
    have t0 : w3.cell? ⟨w.heap.size + 1, 0, none⟩ = some (.int .i64 0) := cell_of HR3.out 0 rfl
    have t1 : w3.cell? ⟨w.heap.size + 1, 1, none⟩ = some (.int .i64 0) := cell_of HR3.out 1 rfl
    have fin : ∀ x' y' : Value, Below w.heap.size w ((w3.setCell ⟨w.heap.size + 1, 0, none⟩ x').setCell ⟨w.heap.size + 1, 1, none⟩ y') := fun x' y' => (H3.out.1.setCell (by show w.heap.size ≤ w.heap.size + 1; omega) _).setCell (by show w.heap.size ≤ w.heap.size + 1; omega) _
    have Fin := Lib.hid fin
    clear fin
    have h3 := two_block HR3.out (.int .i64 0) (.int .i64 0)
    have d0 := cell_of h3 0 rfl
    have d1 := cell_of h3 1 rfl
    have HD := Lib.hid (And.intro d0 d1)
    clear d0 d1 h3
    go_wp2_with fail
    obtain ⟨d0, d1⟩ := HD.out
    refine bodyPost_ret (by simp [results, Try.results38, go_sem, d0, d1]; try rfl) rfl ?_
    exact ⟨rfl, Fin.out _ _⟩
  · cases is
    · rw [if_neg (fun h => by cases h.2)]
      go_enter Try.func38, Try.ntmps38
      go_wp2_with fail
      refine (hx _).mono ?_
      rintro z w2 ⟨rfl, hb2⟩
      have H2 := Lib.hid (H1.out.next hb2)
      have HR2 := Lib.hid (below_bk hb2 HR.out)
      clear hb2 H1 HR
      obtain ⟨c0, c1, c2⟩ := H2.out.2
      go_wp2_with fail
      refine (hy _).mono ?_
      rintro z w3 ⟨rfl, hb3⟩
      have H3 := Lib.hid (H2.out.next hb3)
      have HR3 := Lib.hid (below_bk hb3 HR2.out)
      clear hb3 H2 HR2 c0 c1 c2
      have z0 := free_of HR3.out 0
      have z1 := free_of HR3.out 1
      have t0 : w3.cell? ⟨w.heap.size + 1, 0, none⟩ = some (.int .i64 0) := cell_of HR3.out 0 rfl
      have t1 : w3.cell? ⟨w.heap.size + 1, 1, none⟩ = some (.int .i64 0) := cell_of HR3.out 1 rfl
      have fin : ∀ x' y' : Value, Below w.heap.size w ((w3.setCell ⟨w.heap.size + 1, 0, none⟩ x').setCell ⟨w.heap.size + 1, 1, none⟩ y') := fun x' y' => (H3.out.1.setCell (by show w.heap.size ≤ w.heap.size + 1; omega) _).setCell (by show w.heap.size ≤ w.heap.size + 1; omega) _
      have Fin := Lib.hid fin
      clear fin
      have h3 := two_block HR3.out (.int .i64 0) (.int .i64 0)
      have d0 := cell_of h3 0 rfl
      have d1 := cell_of h3 1 rfl
      have HD := Lib.hid (And.intro d0 d1)
      clear d0 d1 h3
      go_wp2_with fail
      obtain ⟨d0, d1⟩ := HD.out
      refine bodyPost_ret (by simp [results, Try.results38, go_sem, d0, d1]; try rfl) rfl ?_
      exact ⟨rfl, Fin.out _ _⟩
    · rw [if_pos ⟨rfl, rfl⟩]
      go_enter Try.func38, Try.ntmps38
      go_wp2_with fail
      refine (hx _).mono ?_
      rintro z w2 ⟨rfl, hb2⟩
      have H2 := Lib.hid (H1.out.next hb2)
      have HR2 := Lib.hid (below_bk hb2 HR.out)
      clear hb2 H1 HR
      obtain ⟨c0, c1, c2⟩ := H2.out.2
      go_wp2_with fail
      refine (hy _).mono ?_
      rintro z w3 ⟨rfl, hb3⟩
      have H3 := Lib.hid (H2.out.next hb3)
      have HR3 := Lib.hid (below_bk hb3 HR2.out)
      clear hb3 H2 HR2 c0 c1 c2
      have z0 := free_of HR3.out 0
      have z1 := free_of HR3.out 1
      have t0 : w3.cell? ⟨w.heap.size + 1, 0, none⟩ = some (.int .i64 0) := cell_of HR3.out 0 rfl
      have t1 : w3.cell? ⟨w.heap.size + 1, 1, none⟩ = some (.int .i64 0) := cell_of HR3.out 1 rfl
      have fin : ∀ x' y' : Value, Below w.heap.size w ((w3.setCell ⟨w.heap.size + 1, 0, none⟩ x').setCell ⟨w.heap.size + 1, 1, none⟩ y') := fun x' y' => (H3.out.1.setCell (by show w.heap.size ≤ w.heap.size + 1; omega) _).setCell (by show w.heap.size ≤ w.heap.size + 1; omega) _
      have Fin := Lib.hid fin
      clear fin
      have h3 := two_block HR3.out (.int .i64 n) (.int .i64 k)
      have d0 := cell_of h3 0 rfl
      have d1 := cell_of h3 1 rfl
      have HD := Lib.hid (And.intro d0 d1)
      clear d0 d1 h3
      go_wp2_with fail
      obtain ⟨d0, d1⟩ := HD.out
      refine bodyPost_ret (by simp [results, Try.results38, go_sem, d0, d1]; try rfl) rfl ?_
      exact ⟨rfl, Fin.out _ _⟩
/-- what PairOf gives -/
def P3 (u : Nat × Bool) (x y : Nat) (w : World) (e : Ending) (w' : World) : Prop := e = .returned (.tuple #[.int .i64 (pO u x y).1.1, .int .i64 (pO u x y).1.2, .bool (pO u x y).2]) ∧ Below w.heap.size w w'
theorem implPair_any (s : ByteArray) (m e : Int) (x y : Nat) (w : World) :
    Calls Try.prog 16 #[.complex .f32 x y, uv s m e] w (P3 (uOut s m e) x y w) := by
  have hp := fun W => pair_any s m e x y W
  unfold PO pv2 at hp
  unfold P3
  generalize uOut s m e = u at *
  obtain ⟨⟨⟨n, k⟩, ok⟩, hn⟩ : ∃ p, pO u x y = p := ⟨_, rfl⟩
  simp only [hn] at hp ⊢
  unfold uv at *
  clear hn
  go_enter Try.func16, Try.ntmps16
  go_wp2_with fail
  refine (hp _).mono ?_
  rintro z w2 ⟨rfl, hb2⟩
  have H2 := Lib.hid (show Below w.heap.size w w2 from ((Below.refl _ _).alloc (Nat.le_refl _) _).trans (hb2.mono (by go_grown)))
  clear hb2
  go_wp2_with fail
  have hlt : w2.heap.size < (w2.alloc (.cells #[.int .i64 n, .int .i64 k] 62)).heap.size := by rw [size_al]; omega
  have c0 : (w2.alloc (.cells #[.int .i64 n, .int .i64 k] 62)).cell? ⟨w2.heap.size, 0, none⟩ = some (.int .i64 n) := cell_of (block_new _ _) 0 rfl
  have c1 : (w2.alloc (.cells #[.int .i64 n, .int .i64 k] 62)).cell? ⟨w2.heap.size, 1, none⟩ = some (.int .i64 k) := cell_of (block_new _ _) 1 rfl
  go_region_held (fun w' => w'.cell? ⟨w2.heap.size, 0, none⟩ = some (.int .i64 n) ∧ w'.cell? ⟨w2.heap.size, 1, none⟩ = some (.int .i64 k)) (exact ⟨c0, c1⟩) (fail)
  all_goals
    go_wp2_with fail
    go_ret3
    exact ⟨rfl, below_drewN (H2.out.alloc H2.out.size _) 1⟩
set_option maxHeartbeats 800000 in
theorem specPair_any (s : ByteArray) (m e : Int) (x y : Nat) (w : World) :
    Calls Try.prog 17 #[.complex .f32 x y, uv s m e] w (P3 (uOut s m e) x y w) := by
  have hq := fun x W => spec_quant s m e x W
  unfold QOut at hq
  unfold P3 pO
  generalize uOut s m e = u at *
  have hx := fun W => hq x W
  have hy := fun W => hq y W
  obtain ⟨⟨n, ok⟩, hn⟩ : ∃ p, qOut u x = p := ⟨_, rfl⟩
  obtain ⟨⟨k, is⟩, hk⟩ : ∃ p, qOut u y = p := ⟨_, rfl⟩
  simp only [hn] at hx
  simp only [hk] at hy
  rw [hn, hk]
  dsimp only
  unfold uv at *
  clear hq hn hk
  have H1 := Lib.hid (UB.new s m e w 25)
  cases ok
  · rw [if_neg (fun h => by cases h.1)]
    go_enter Try.func17, Try.ntmps17
    go_wp2_with fail
    refine (hx _).mono ?_
    rintro z w2 ⟨rfl, hb2⟩
    have H2 := Lib.hid (H1.out.next hb2)
    clear hb2 H1
    obtain ⟨c0, c1, c2⟩ := H2.out.2
    go_wp2_with fail
    refine (hy _).mono ?_
    rintro z w3 ⟨rfl, hb3⟩
    have H3 := Lib.hid (H2.out.next hb3)
    clear hb3 H2 c0 c1 c2
    go_wp2_with fail
    go_ret3
    exact ⟨rfl, H3.out.1⟩
  · cases is
    · rw [if_neg (fun h => by cases h.2)]
      go_enter Try.func17, Try.ntmps17
      go_wp2_with fail
      refine (hx _).mono ?_
      rintro z w2 ⟨rfl, hb2⟩
      have H2 := Lib.hid (H1.out.next hb2)
      clear hb2 H1
      obtain ⟨c0, c1, c2⟩ := H2.out.2
      go_wp2_with fail
      refine (hy _).mono ?_
      rintro z w3 ⟨rfl, hb3⟩
      have H3 := Lib.hid (H2.out.next hb3)
      clear hb3 H2 c0 c1 c2
      go_wp2_with fail
      go_ret3
      exact ⟨rfl, H3.out.1⟩
    · rw [if_pos ⟨rfl, rfl⟩]
      go_enter Try.func17, Try.ntmps17
      go_wp2_with fail
      refine (hx _).mono ?_
      rintro z w2 ⟨rfl, hb2⟩
      have H2 := Lib.hid (H1.out.next hb2)
      clear hb2 H1
      obtain ⟨c0, c1, c2⟩ := H2.out.2
      go_wp2_with fail
      refine (hy _).mono ?_
      rintro z w3 ⟨rfl, hb3⟩
      have H3 := Lib.hid (H2.out.next hb3)
      clear hb3 H2 c0 c1 c2
      go_wp2_with fail
      go_ret3
      exact ⟨rfl, H3.out.1⟩
/-- are two numbers equal within units -/
def eqP (u : Nat × Bool) (x y z t : Nat) : Bool := (pO u x y).2 && (pO u z t).2 && decide ((pO u x y).1 = (pO u z t).1)
theorem equal_any (s : ByteArray) (m e : Int) (x y z t : Nat) (w : World) :
    Calls Try.prog 18 #[.complex .f32 x y, .complex .f32 z t, uv s m e] w fun r w' => r = .returned (.bool (eqP (uOut s m e) x y z t)) ∧ Below w.heap.size w w' := by
  have hp := fun x y W => pair_any s m e x y W
  unfold PO pv2 at hp
  unfold eqP
  generalize uOut s m e = u at *
  have h1 := fun W => hp x y W
  have h2 := fun W => hp z t W
  obtain ⟨⟨⟨n, k⟩, ok⟩, hn⟩ : ∃ p, pO u x y = p := ⟨_, rfl⟩
  obtain ⟨⟨⟨i, j⟩, is⟩, hi⟩ : ∃ p, pO u z t = p := ⟨_, rfl⟩
  simp only [hn] at h1
  simp only [hi] at h2
  rw [hn, hi]
  dsimp only
  unfold uv at *
  clear hn hi hp
  have H1 := Lib.hid (UB.new s m e w 25)
  go_enter Try.func18, Try.ntmps18
  go_wp2_with fail
  refine (h1 _).mono ?_
  rintro r w2 ⟨rfl, hb2⟩
  have H2 := Lib.hid ((H1.out.next hb2).alloc (.cells #[.int .i64 n, .int .i64 k] 62))
  have HP := Lib.hid (block_new w2 (.cells #[.int .i64 n, .int .i64 k] 62))
  clear hb2 H1
  obtain ⟨c0, c1, c2⟩ := H2.out.2
  go_wp2_with fail
  refine (h2 _).mono ?_
  rintro r w3 ⟨rfl, hb3⟩
  have H3 := Lib.hid ((H2.out.next hb3).alloc (.cells #[.int .i64 i, .int .i64 j] 62))
  have HP3 := below_bk hb3 HP.out
  have HP4 := below_bk ((Below.refl w3.heap.size w3).alloc (Nat.le_refl _) (.cells #[.int .i64 i, .int .i64 j] 62)) HP3
  have p0 : (w3.alloc (.cells #[.int .i64 i, .int .i64 j] 62)).cell? ⟨w2.heap.size, 0, none⟩ = some (.int .i64 n) := cell_of HP4 0 rfl
  have p1 : (w3.alloc (.cells #[.int .i64 i, .int .i64 j] 62)).cell? ⟨w2.heap.size, 1, none⟩ = some (.int .i64 k) := cell_of HP4 1 rfl
  have q0 := cell_of HP3 0 (v := .int .i64 n) rfl
  have q1 := cell_of HP3 1 (v := .int .i64 k) rfl
  have hlt := lt_of_block HP3
  clear hb3 H2 HP HP3 HP4 c0 c1 c2
  cases ok
  · go_wp2_with fail
    go_ret
    exact ⟨rfl, H3.out.1⟩
  · cases is
    · go_wp2_with fail
      go_ret
      exact ⟨rfl, H3.out.1⟩
    · clear h1 h2
      go_wp2_with fail
      all_goals
        go_ret
        refine ⟨ret_bool ?_, H3.out.1⟩
        simp_all
end Go.Proofs.Ytkjjeccgmeiniaa.Qtm
