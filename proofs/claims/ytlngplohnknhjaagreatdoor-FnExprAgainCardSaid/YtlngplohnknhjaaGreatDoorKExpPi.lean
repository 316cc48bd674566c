/- The program's text of an operator with its operands. -/
import Derived.Test.YtlngplohnknhjaaGreatDoorKExpPh
namespace Go.Proofs.YtlngplohnknhjaaGreatDoor.Px
open Go.ChangeShapes Go.WideShapes Go.ChangeAt Go.RowKit Go.Proofs.YtlngplohnknhjaaGreatDoor Go.Proofs.YtlngplohnknhjaaGreatDoor.Flt Go.Proofs.YtlngplohnknhjaaGreatDoor.Ex Go.Proofs.YtlngplohnknhjaaGreatDoor.Cpx Go.Proofs.YtlngplohnknhjaaGreatDoor.Sng
set_option linter.unusedVariables false
set_option linter.unusedSimpArgs false
theorem field_pc (q : ByteArray) (s : Int) (W : World) : (Instr.field 47 (.agg #[.string q, .int .i64 s]) 0).run Tryz.prog W = .ok (.string q) W := by kernel_rfl
theorem Sg.below {w0 : World} {B g cap : Nat} {st : List Pc} {w w' : World} (h : Sg w0 B g cap st w) (hb : Below w.heap.size w w') : Sg w0 B g cap st w' :=
  ⟨h.only.trans (Only.of_below hb), (hb.block B (lt_of_block h.hB)).trans h.hB, own_below h.own (Nat.le_refl _) hb, h.lt, h.len, h.gl.1, Nat.lt_of_lt_of_le h.gl.2 hb.size⟩
/-- a piece -/
def pc (t : Tx) (s : Int) : Pc := (⟨t.toArray⟩, s)
set_option maxRecDepth 20000 in
set_option maxHeartbeats 1600000 in
theorem with5_any (w0 : World) (B g cap : Nat) (o t : Tx) (s : Int) (st : List Pc) (ho : o.length ≤ 1000) (ht : t.length ≤ 100000) (w : World) (h : Sg w0 B g cap (pc t s :: st) w) :
    Calls Tryz.prog 37 #[.agg #[.string ⟨o.toArray⟩, .int .i64 5], .pointer (some ⟨B, 0, none⟩)] w fun e w' =>
      e = .returned (.string ⟨(o ++ 40 :: (t ++ [41])).toArray⟩) ∧ Sg w0 B g cap st w' ∧ Only B w w' := by
  have z0 := size_tx o
  have z1 := size_tx t
  have z2 := size_tx (o ++ [40])
  have z3 := size_tx (o ++ 40 :: t)
  rw [List.length_append] at z2 z3
  simp only [List.length_cons, List.length_nil] at z2 z3
  have e1 : (⟨o.toArray⟩ : ByteArray) ++ ⟨#[40]⟩ = ⟨(o ++ [40]).toArray⟩ := tx_app o [40]
  have e2 : (⟨(o ++ [40]).toArray⟩ : ByteArray) ++ ⟨t.toArray⟩ = ⟨(o ++ 40 :: t).toArray⟩ := by rw [tx_app]; simp
  have e3 : (⟨(o ++ 40 :: t).toArray⟩ : ByteArray) ++ ⟨#[41]⟩ = ⟨(o ++ 40 :: (t ++ [41])).toArray⟩ := by rw [show (⟨#[41]⟩ : ByteArray) = ⟨([41] : Tx).toArray⟩ from rfl, tx_app]; simp
  obtain ⟨a, ha⟩ : ∃ a, (⟨o.toArray⟩ : ByteArray) = a := ⟨_, rfl⟩
  obtain ⟨b, hb⟩ : ∃ b, (⟨(o ++ [40]).toArray⟩ : ByteArray) = b := ⟨_, rfl⟩
  obtain ⟨c, hc⟩ : ∃ c, (⟨(o ++ 40 :: t).toArray⟩ : ByteArray) = c := ⟨_, rfl⟩
  obtain ⟨d, hd⟩ : ∃ d, (⟨(o ++ 40 :: (t ++ [41])).toArray⟩ : ByteArray) = d := ⟨_, rfl⟩
  obtain ⟨q, hq⟩ : ∃ q, (⟨t.toArray⟩ : ByteArray) = q := ⟨_, rfl⟩
  unfold pc at h
  rw [ha] at z0 e1 ⊢
  rw [hb] at z2 e1 e2
  rw [hc] at z3 e2 e3
  rw [hd] at e3 ⊢
  rw [hq] at z1 e2 h
  have hBw := lt_of_block h.hB
  have H := Lib.hid (show Sg w0 B g cap ((q, s) :: st) (w.alloc (.cells #[.string a, .int .i64 5] 77)).drew from (h.alloc (.cells #[.string a, .int .i64 5] 77)).drew)
  have hsz := World.size_alloc w (.cells #[.string a, .int .i64 5] 77)
  have hc0 : (w.alloc (.cells #[.string a, .int .i64 5] 77)).drew.cell? ⟨w.heap.size, 0, none⟩ = some (.string a) := by simp [go_sem]
  have HC := Lib.hid (And.intro hc0 (And.intro hsz hBw))
  clear ha hb hc hd hq h hc0 hsz hBw
  have kf := field_pc q s
  go_enter Tryz.func37, Tryz.ntmps37
  go_wp2_with fail
  go_region_with (go_at_call 20; refine (stake_any w0 B g cap q s st _ H.out).mono ?_; rintro e w2 ⟨rfl, h2, o2⟩; have c2 := (o2.cell (p := ⟨w.heap.size, 0, none⟩) (show w.heap.size < (w.alloc (.cells #[.string a, .int .i64 5] 77)).heap.size by rw [HC.out.2.1]; omega) (show w.heap.size ≠ B by have := HC.out.2.2; omega)).trans HC.out.1; have H2 := Lib.hid h2; have O2 := Lib.hid ((only_drew ((Only.refl B w).alloc (.cells #[.string a, .int .i64 5] 77))).trans o2); clear h2 o2)
  all_goals
    go_wp2_with fail
    go_ret
    exact ⟨rfl, H2.out, O2.out⟩
set_option maxRecDepth 20000 in
set_option maxHeartbeats 3200000 in
theorem with4_any (w0 : World) (B g cap : Nat) (o t : Tx) (s : Int) (st : List Pc) (ho : o.length ≤ 1000) (ht : t.length ≤ 100000) (w : World) (h : Sg w0 B g cap (pc t s :: st) w) :
    Calls Tryz.prog 37 #[.agg #[.string ⟨o.toArray⟩, .int .i64 4], .pointer (some ⟨B, 0, none⟩)] w fun e w' =>
      e = .returned (.string ⟨(o ++ wi s 4 t).toArray⟩) ∧ Sg w0 B g cap st w' ∧ Only B w w' := by
  have z0 := size_tx o
  have z1 := size_tx (wi s 4 t)
  have z2 : (wi s 4 t).length ≤ t.length + 2 := by
    unfold wi
    split
    · simp
    · omega
  have e1 : (⟨o.toArray⟩ : ByteArray) ++ ⟨(wi s 4 t).toArray⟩ = ⟨(o ++ wi s 4 t).toArray⟩ := tx_app _ _
  have cW := fun W => within_any t s 4 ht W
  obtain ⟨a, ha⟩ : ∃ a, (⟨o.toArray⟩ : ByteArray) = a := ⟨_, rfl⟩
  obtain ⟨b, hb⟩ : ∃ b, (⟨(wi s 4 t).toArray⟩ : ByteArray) = b := ⟨_, rfl⟩
  obtain ⟨c, hc⟩ : ∃ c, (⟨(o ++ wi s 4 t).toArray⟩ : ByteArray) = c := ⟨_, rfl⟩
  obtain ⟨q, hq⟩ : ∃ q, (⟨t.toArray⟩ : ByteArray) = q := ⟨_, rfl⟩
  unfold pc at h
  rw [ha] at z0 e1 ⊢
  rw [hb] at z1 e1 cW
  rw [hc] at e1 ⊢
  rw [hq] at cW h
  have hBw := lt_of_block h.hB
  have H := Lib.hid (show Sg w0 B g cap ((q, s) :: st) (w.alloc (.cells #[.string a, .int .i64 4] 77)).drew from (h.alloc (.cells #[.string a, .int .i64 4] 77)).drew)
  have hsz := World.size_alloc w (.cells #[.string a, .int .i64 4] 77)
  have hc0 : (w.alloc (.cells #[.string a, .int .i64 4] 77)).drew.cell? ⟨w.heap.size, 0, none⟩ = some (.string a) := by simp [go_sem]
  have hc1 : (w.alloc (.cells #[.string a, .int .i64 4] 77)).drew.cell? ⟨w.heap.size, 1, none⟩ = some (.int .i64 4) := by simp [go_sem]
  have HC := Lib.hid (And.intro hc0 (And.intro hsz (And.intro hBw hc1)))
  clear ha hb hc hq h hc0 hc1 hsz hBw
  go_enter Tryz.func37, Tryz.ntmps37
  go_wp2_with fail
  go_region_with (first
    | (go_at_call 20; refine (stake_any w0 B g cap q s st _ H.out).mono ?_; rintro e w2 ⟨rfl, h2, o2⟩; have c2 := (o2.cell (p := ⟨w.heap.size, 0, none⟩) (show w.heap.size < (w.alloc (.cells #[.string a, .int .i64 4] 77)).heap.size by rw [HC.out.2.1]; omega) (show w.heap.size ≠ B by have := HC.out.2.2.1; omega)).trans HC.out.1; have d2 := (o2.cell (p := ⟨w.heap.size, 1, none⟩) (show w.heap.size < (w.alloc (.cells #[.string a, .int .i64 4] 77)).heap.size by rw [HC.out.2.1]; omega) (show w.heap.size ≠ B by have := HC.out.2.2.1; omega)).trans HC.out.2.2.2; have H2 := Lib.hid (h2.alloc (.cells #[.string q, .int .i64 s] 47)); have c3 := cell_alloc (.cells #[.string q, .int .i64 s] 47) c2; have O2 := Lib.hid (((only_drew ((Only.refl B w).alloc (.cells #[.string a, .int .i64 4] 77))).trans o2).alloc (.cells #[.string q, .int .i64 s] 47)); clear h2 o2)
    | (go_at_call 57; refine (cW _).mono ?_; rintro e w3 ⟨rfl, rfl⟩))
  all_goals
    go_wp2_with fail
    go_ret
    exact ⟨rfl, H2.out, O2.out⟩
end Go.Proofs.YtlngplohnknhjaaGreatDoor.Px
