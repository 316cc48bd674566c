/- The walk of FnExactFormatRecord: it returns true. -/
import Derived.Test.YtjkhbjdhfklnaabDoorRows
import Derived.Test.YtjkhbjdhfklnaabDoorRcdF
namespace Go.Proofs.YtjkhbjdhfklnaabDoor.fnExactFormatRecord
open Go.ChangeShapes Go.WideShapes Go.ChangeAt Go.RowKit Go.Proofs.YtjkhbjdhfklnaabDoor
set_option linter.unusedVariables false
set_option maxHeartbeats 800000 in
theorem to_any (a b c d : Int) (w : World) : Calls Tryd.prog 6 #[.agg #[.int .i64 a, .int .i64 b, .int .i64 c, .int .i64 d]] w fun e w' => e = .returned (.agg #[.int .i64 a, .int .i64 b, .int .i64 c, .int .i64 d]) ∧ Below w.heap.size w w' := by
  go_enter Tryd.func6, Tryd.ntmps6
  go_wp2_with fail
  refine bodyPost_ret (v := .agg #[.int .i64 a, .int .i64 b, .int .i64 c, .int .i64 d]) (by simp [results, Tryd.results6, go_sem]) rfl ⟨rfl, by go_grown⟩
set_option maxHeartbeats 1600000 in
theorem walk (a b c d : Int) (w : World) (htab : Door.Tab w) :
    Calls Tryd.prog 3 #[.agg #[.int .i64 a, .int .i64 b, .int .i64 c, .int .i64 d]] w fun e w' => e = .returned (.bool true) ∧ Below w.heap.size w w' := by
  have Ht := Lib.hid htab
  clear htab
  have cT := fun W => to_any a b c d W
  have cS := fun W => Rcd.spec_fmt a b c d W
  have cI := fun W h => Rcd.impl_fmt a b c d W h
  unfold Rcd.Out at cS cI
  obtain ⟨s, hs⟩ : ∃ s, (⟨(Rcd.fmt a b c d).toArray⟩ : ByteArray) = s := ⟨_, rfl⟩
  rw [hs] at cS cI
  clear hs
  have hb0 : Below w.heap.size w (w.alloc (.cells #[.int .i64 a, .int .i64 b, .int .i64 c, .int .i64 d] 23)) := by go_grown
  obtain ⟨W, hW⟩ : ∃ W, (w.alloc (.cells #[.int .i64 a, .int .i64 b, .int .i64 c, .int .i64 d] 23)) = W := ⟨_, rfl⟩
  have k0 : W.cell? ⟨w.heap.size, 0, none⟩ = some (.int .i64 a) := by rw [← hW]; simp [go_sem]
  have k1 : W.cell? ⟨w.heap.size, 1, none⟩ = some (.int .i64 b) := by rw [← hW]; simp [go_sem]
  have k2 : W.cell? ⟨w.heap.size, 2, none⟩ = some (.int .i64 c) := by rw [← hW]; simp [go_sem]
  have k3 : W.cell? ⟨w.heap.size, 3, none⟩ = some (.int .i64 d) := by rw [← hW]; simp [go_sem]
  have hlt : w.heap.size < W.heap.size := by rw [← hW, World.size_alloc]; omega
  rw [hW] at hb0
  have Hb := Lib.hid hb0
  clear hb0
  go_enter Tryd.func3, Tryd.ntmps3
  go_wp2_with fail
  refine (cT _).mono ?_
  rintro e w1 ⟨rfl, hb⟩
  have Hb1 := Lib.hid (Hb.out.trans (hb.mono Hb.out.size))
  have C1 := Lib.hid hb
  clear hb
  go_wp2_with fail
  refine (cS _).mono ?_
  rintro e w2 ⟨rfl, hb⟩
  have C2 := Lib.hid (C1.out.trans (hb.mono C1.out.size))
  clear hb
  have q0 := (C2.out.cell (p := ⟨w.heap.size, 0, none⟩) hlt).trans k0
  have q1 := (C2.out.cell (p := ⟨w.heap.size, 1, none⟩) hlt).trans k1
  have q2 := (C2.out.cell (p := ⟨w.heap.size, 2, none⟩) hlt).trans k2
  have q3 := (C2.out.cell (p := ⟨w.heap.size, 3, none⟩) hlt).trans k3
  have Hb2 := Lib.hid (Hb.out.trans (C2.out.mono Hb.out.size))
  go_wp2_with fail
  refine (cT _).mono ?_
  rintro e w3 ⟨rfl, hb⟩
  have Hb3 := Lib.hid (Hb2.out.trans (hb.mono Hb2.out.size))
  clear hb
  go_wp2_with fail
  refine (cI _ (Door.tab_below Ht.out Hb3.out)).mono ?_
  rintro e w4 ⟨rfl, hb⟩
  have Hb4 := Lib.hid (Hb3.out.trans (hb.mono Hb3.out.size))
  clear hb
  go_wp2_with fail
  go_ret
  exact ⟨rfl, Hb4.out⟩
end Go.Proofs.YtjkhbjdhfklnaabDoor.fnExactFormatRecord
