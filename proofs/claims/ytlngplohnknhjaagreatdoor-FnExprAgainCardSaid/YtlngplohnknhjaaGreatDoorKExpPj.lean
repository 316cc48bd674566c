/- The program's text of an operator with two operands. -/
import Derived.Test.YtlngplohnknhjaaGreatDoorKExpPi
import Derived.Test.YtlngplohnknhjaaGreatDoorPkB
namespace Go.Proofs.YtlngplohnknhjaaGreatDoor.Px
open Go.ChangeShapes Go.WideShapes Go.ChangeAt Go.RowKit Go.Proofs.YtlngplohnknhjaaGreatDoor Go.Proofs.YtlngplohnknhjaaGreatDoor.Flt Go.Proofs.YtlngplohnknhjaaGreatDoor.Ex Go.Proofs.YtlngplohnknhjaaGreatDoor.Cpx Go.Proofs.YtlngplohnknhjaaGreatDoor.Sng
set_option linter.unusedVariables false
set_option linter.unusedSimpArgs false
theorem wi_len (s n : Int) (t : Tx) : (wi s n t).length ≤ t.length + 2 := by
  unfold wi
  split
  · simp
  · omega
set_option maxRecDepth 20000 in
set_option maxHeartbeats 3200000 in
theorem with2_any (w0 : World) (B g cap : Nat) (o tu tv : Tx) (sg su sv : Int) (st : List Pc) (hsg : 1 ≤ sg ∧ sg ≤ 3) (ho : o.length ≤ 1000) (htu : tu.length ≤ 100000) (htv : tv.length ≤ 100000) (w : World) (h : Sg w0 B g cap (pc tv sv :: pc tu su :: st) w) :
    Calls Tryz.prog 37 #[.agg #[.string ⟨o.toArray⟩, .int .i64 sg], .pointer (some ⟨B, 0, none⟩)] w fun e w' =>
      e = .returned (.string ⟨(wi su sg tu ++ 32 :: (o ++ 32 :: wi sv (sg + 1) tv)).toArray⟩) ∧ Sg w0 B g cap st w' ∧ Only B w w' := by
  have l1 := wi_len su sg tu
  have l2 := wi_len sv (sg + 1) tv
  have c1 := fun W => within_any tu su sg htu W
  have c2 := fun W => within_any tv sv (sg + 1) htv W
  obtain ⟨s1, hs1⟩ : ∃ s1, sg + 1 = s1 := ⟨_, rfl⟩
  rw [hs1] at l2 c2 ⊢
  have y0 := size_tx o
  obtain ⟨p, hp⟩ : ∃ p, wi su sg tu = p := ⟨_, rfl⟩
  obtain ⟨q, hq⟩ : ∃ q, wi sv s1 tv = q := ⟨_, rfl⟩
  rw [hp] at c1 l1 ⊢
  rw [hq] at c2 l2 ⊢
  have y1 := size_tx p
  have y2 := size_tx q
  have y3 := size_tx (p ++ [32])
  have y4 := size_tx (p ++ 32 :: o)
  have y5 := size_tx (p ++ 32 :: (o ++ [32]))
  simp only [List.length_append, List.length_cons, List.length_nil] at y3 y4 y5
  have e1 : (⟨p.toArray⟩ : ByteArray) ++ ⟨#[32]⟩ = ⟨(p ++ [32]).toArray⟩ := tx_app p [32]
  have e2 : (⟨(p ++ [32]).toArray⟩ : ByteArray) ++ ⟨o.toArray⟩ = ⟨(p ++ 32 :: o).toArray⟩ := by rw [tx_app]; simp
  have e3 : (⟨(p ++ 32 :: o).toArray⟩ : ByteArray) ++ ⟨#[32]⟩ = ⟨(p ++ 32 :: (o ++ [32])).toArray⟩ := by rw [show (⟨#[32]⟩ : ByteArray) = ⟨([32] : Tx).toArray⟩ from rfl, tx_app]; simp
  have e4 : (⟨(p ++ 32 :: (o ++ [32])).toArray⟩ : ByteArray) ++ ⟨q.toArray⟩ = ⟨(p ++ 32 :: (o ++ 32 :: q)).toArray⟩ := by rw [tx_app]; simp
  obtain ⟨a, ha⟩ : ∃ a, (⟨o.toArray⟩ : ByteArray) = a := ⟨_, rfl⟩
  obtain ⟨b1, hb1⟩ : ∃ b, (⟨p.toArray⟩ : ByteArray) = b := ⟨_, rfl⟩
  obtain ⟨b2, hb2⟩ : ∃ b, (⟨q.toArray⟩ : ByteArray) = b := ⟨_, rfl⟩
  obtain ⟨d1, hd1⟩ : ∃ b, (⟨(p ++ [32]).toArray⟩ : ByteArray) = b := ⟨_, rfl⟩
  obtain ⟨d2, hd2⟩ : ∃ b, (⟨(p ++ 32 :: o).toArray⟩ : ByteArray) = b := ⟨_, rfl⟩
  obtain ⟨d3, hd3⟩ : ∃ b, (⟨(p ++ 32 :: (o ++ [32])).toArray⟩ : ByteArray) = b := ⟨_, rfl⟩
  obtain ⟨d4, hd4⟩ : ∃ b, (⟨(p ++ 32 :: (o ++ 32 :: q)).toArray⟩ : ByteArray) = b := ⟨_, rfl⟩
  obtain ⟨u, hu⟩ : ∃ b, (⟨tu.toArray⟩ : ByteArray) = b := ⟨_, rfl⟩
  obtain ⟨v, hv⟩ : ∃ b, (⟨tv.toArray⟩ : ByteArray) = b := ⟨_, rfl⟩
  unfold pc at h
  rw [ha] at y0 e2 ⊢
  rw [hb1] at y1 e1 c1
  rw [hb2] at y2 e4 c2
  rw [hd1] at y3 e1 e2
  rw [hd2] at y4 e2 e3
  rw [hd3] at y5 e3 e4
  rw [hd4] at e4 ⊢
  rw [hu] at c1 h
  rw [hv] at c2 h
  have hBw := lt_of_block h.hB
  have H := Lib.hid (h.alloc (.cells #[.string a, .int .i64 sg] 77))
  have hsz := World.size_alloc w (.cells #[.string a, .int .i64 sg] 77)
  have hc0 : (w.alloc (.cells #[.string a, .int .i64 sg] 77)).cell? ⟨w.heap.size, 0, none⟩ = some (.string a) := by simp [go_sem]
  have hc1 : (w.alloc (.cells #[.string a, .int .i64 sg] 77)).cell? ⟨w.heap.size, 1, none⟩ = some (.int .i64 sg) := by simp [go_sem]
  have hs5 : (sg == 5) = false := beq_eq_false_iff_ne.2 (by omega)
  have hs4 : (sg == 4) = false := beq_eq_false_iff_ne.2 (by omega)
  have hw1 : IntKind.i64.wrap (sg + 1) = s1 := by rw [IntKind.wrap_i64]; omega
  have HC := Lib.hid (And.intro hc0 (And.intro hsz (And.intro hBw hc1)))
  clear ha hb1 hb2 hd1 hd2 hd3 hd4 hu hv hp hq h hc0 hc1 hsz hBw
  go_enter Tryz.func37, Tryz.ntmps37
  go_wp2_with fail
  refine (stwo_any w0 B g cap u v su sv st _ H.out).mono ?_
  rintro e w2 ⟨rfl, h2, o2⟩
  have k0 := (o2.cell (p := ⟨w.heap.size, 0, none⟩) (show w.heap.size < (w.alloc (.cells #[.string a, .int .i64 sg] 77)).heap.size by rw [HC.out.2.1]; omega) (show w.heap.size ≠ B by have := HC.out.2.2.1; omega)).trans HC.out.1
  have k1 := (o2.cell (p := ⟨w.heap.size, 1, none⟩) (show w.heap.size < (w.alloc (.cells #[.string a, .int .i64 sg] 77)).heap.size by rw [HC.out.2.1]; omega) (show w.heap.size ≠ B by have := HC.out.2.2.1; omega)).trans HC.out.2.2.2
  have hlt : w.heap.size < w2.heap.size := Nat.lt_of_lt_of_le (by rw [HC.out.2.1]; omega) o2.size
  have H2 := Lib.hid ((h2.alloc (.cells #[.string u, .int .i64 su] 47)).alloc (.cells #[.string v, .int .i64 sv] 47))
  have O2 := Lib.hid (((((Only.refl B w).alloc (.cells #[.string a, .int .i64 sg] 77)).trans o2).alloc (.cells #[.string u, .int .i64 su] 47)).alloc (.cells #[.string v, .int .i64 sv] 47))
  clear h2 o2
  go_wp2_with fail
  obtain ⟨W, hW⟩ : ∃ W, (w2.alloc (.cells #[.string u, .int .i64 su] 47)).alloc (.cells #[.string v, .int .i64 sv] 47) = W := ⟨_, rfl⟩
  have szW : W.heap.size = w2.heap.size + 1 + 1 := by rw [← hW, World.size_alloc, World.size_alloc]
  have m0 : ∀ n : Old W, n.x.cell? ⟨w.heap.size, 0, none⟩ = some (.string a) := fun n => (old_cell n (by show w.heap.size < _; omega)).trans (hW ▸ cell_alloc _ (cell_alloc _ k0))
  have m1 : ∀ n : Old W, n.x.cell? ⟨w.heap.size, 1, none⟩ = some (.int .i64 sg) := fun n => (old_cell n (by show w.heap.size < _; omega)).trans (hW ▸ cell_alloc _ (cell_alloc _ k1))
  have u0 : ∀ n : Old W, n.x.cell? ⟨w2.heap.size, 0, none⟩ = some (.string u) := fun n => (old_cell n (by show w2.heap.size < _; omega)).trans (by rw [← hW]; simp [go_sem])
  have u1 : ∀ n : Old W, n.x.cell? ⟨w2.heap.size, 1, none⟩ = some (.int .i64 su) := fun n => (old_cell n (by show w2.heap.size < _; omega)).trans (by rw [← hW]; simp [go_sem])
  have v0 : ∀ n : Old W, n.x.cell? ⟨w2.heap.size + 1, 0, none⟩ = some (.string v) := fun n => (old_cell n (by show w2.heap.size + 1 < _; omega)).trans (by rw [← hW]; simp [go_sem])
  have v1 : ∀ n : Old W, n.x.cell? ⟨w2.heap.size + 1, 1, none⟩ = some (.int .i64 sv) := fun n => (old_cell n (by show w2.heap.size + 1 < _; omega)).trans (by rw [← hW]; simp [go_sem])
  have c1b : ∀ n : Old W, Calls Tryz.prog 57 #[.agg #[.string u, .int .i64 su], .int .i64 sg] n.x fun e w'' => e = .returned (.string b1) ∧ ∃ m : Old W, w'' = m.x := fun n => old_call ((c1 n.x).mono (fun e w' he => ⟨he.1, by rw [he.2]; exact (Below.refl _ _).alloc (Nat.le_refl _) _⟩))
  have c2b : ∀ n : Old W, Calls Tryz.prog 57 #[.agg #[.string v, .int .i64 sv], .int .i64 s1] n.x fun e w'' => e = .returned (.string b2) ∧ ∃ m : Old W, w'' = m.x := fun n => old_call ((c2 n.x).mono (fun e w' he => ⟨he.1, by rw [he.2]; exact (Below.refl _ _).alloc (Nat.le_refl _) _⟩))
  rw [hW] at H2 O2 ⊢
  have C1 := Lib.hid c1b
  have C2 := Lib.hid c2b
  clear k0 k1 hW c1 c2 c1b c2b
  refine wp_region_old (by kernel_rfl) (by kernel_rfl) ?_
  iterate 10 (go_big_quiet_step ((go_at_call 57; exact C1.out _)))
  repeat (go_big_quiet_step ((go_at_call 57; exact C2.out _)))
  refine wpQuiet_nil ?_
  rintro _ ⟨n, rfl⟩
  go_wp2_with fail
  go_ret
  exact ⟨rfl, H2.out.below n.h, O2.out.trans (Only.of_below n.h)⟩
end Go.Proofs.YtlngplohnknhjaaGreatDoor.Px
