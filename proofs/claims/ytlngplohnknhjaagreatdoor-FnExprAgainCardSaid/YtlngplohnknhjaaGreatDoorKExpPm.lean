/- The program's written: the piece of a slot and of an operator. -/
import Derived.Test.YtlngplohnknhjaaGreatDoorKExpPl
namespace Go.Proofs.YtlngplohnknhjaaGreatDoor.Px
open Go.ChangeShapes Go.WideShapes Go.ChangeAt Go.RowKit Go.Proofs.YtlngplohnknhjaaGreatDoor Go.Proofs.YtlngplohnknhjaaGreatDoor.Flt Go.Proofs.YtlngplohnknhjaaGreatDoor.Ex Go.Proofs.YtlngplohnknhjaaGreatDoor.Cpx Go.Proofs.YtlngplohnknhjaaGreatDoor.Sng
set_option linter.unusedVariables false
set_option linter.unusedSimpArgs false
theorem itoa_len1 {s : Int} (h : 0 ≤ s ∧ s ≤ 9) : (Lib.itoa s).length = 1 := by have := slot_len h; simpa using this
set_option maxRecDepth 20000 in
set_option maxHeartbeats 1600000 in
theorem wri_slot (s : Int) (hs : 0 ≤ s ∧ s ≤ 9) (B : Nat) (w : World) (hT : Door.Tab w) :
    Calls Tryz.prog 19 #[.agg #[.int .i64 2, .int .i64 s, .complex .f64 0 0], .pointer (some ⟨B, 0, none⟩)] w fun e w' =>
      e = .returned (.agg #[.string ⟨(115 :: Lib.itoa s).toArray⟩, .int .i64 5]) ∧ Below w.heap.size w w' := by
  have cP := fun W => part_slot s 0 0 W
  unfold slotVal at cP
  have t1 := ta_sn
  have t2 := ta_ss
  have cN := fun W hW => Door.impl_any s (by omega) (by omega) W hW
  unfold Fmi.Out at cN
  have e1 : (⟨#[115]⟩ : ByteArray) ++ ⟨(Lib.itoa s).toArray⟩ = ⟨(115 :: Lib.itoa s).toArray⟩ := tx_app [115] (Lib.itoa s)
  have z1 := size_tx (Lib.itoa s)
  rw [itoa_len1 hs] at z1
  obtain ⟨b, hb⟩ : ∃ b, (⟨(115 :: Lib.itoa s).toArray⟩ : ByteArray) = b := ⟨_, rfl⟩
  rw [hb] at e1 ⊢
  obtain ⟨c, hc⟩ : ∃ c, (⟨(Lib.itoa s).toArray⟩ : ByteArray) = c := ⟨_, rfl⟩
  rw [hc] at cN e1 z1
  have Ht := Lib.hid hT
  clear hb hc hT hs
  go_enter Tryz.func19, Tryz.ntmps19
  go_wp2_with fail
  refine (cP _).mono ?_
  rintro e w1 ⟨rfl, rfl⟩
  go_wp2_with fail
  have hb4 : Below w.heap.size w ((((w.alloc (.cells #[.int .i64 2, .int .i64 s, .complex .f64 0 0] 44)).alloc (.cells #[.string ⟨#[]⟩, .int .i64 0] 47)).alloc (.cells #[.int .i64 2, .int .i64 s, .complex .f64 0 0] 44)).alloc (.cells #[.int .i64 s] 75)) := by go_grown
  have k0 : ((((w.alloc (.cells #[.int .i64 2, .int .i64 s, .complex .f64 0 0] 44)).alloc (.cells #[.string ⟨#[]⟩, .int .i64 0] 47)).alloc (.cells #[.int .i64 2, .int .i64 s, .complex .f64 0 0] 44)).alloc (.cells #[.int .i64 s] 75)).cell? ⟨w.heap.size + 1, 0, none⟩ = some (.string ⟨#[]⟩) := cell_alloc _ (cell_alloc _ (by simp [go_sem]))
  have k1 : ((((w.alloc (.cells #[.int .i64 2, .int .i64 s, .complex .f64 0 0] 44)).alloc (.cells #[.string ⟨#[]⟩, .int .i64 0] 47)).alloc (.cells #[.int .i64 2, .int .i64 s, .complex .f64 0 0] 44)).alloc (.cells #[.int .i64 s] 75)).cell? ⟨w.heap.size + 1, 1, none⟩ = some (.int .i64 0) := cell_alloc _ (cell_alloc _ (by simp [go_sem]))
  have hz : w.heap.size + 1 < ((((w.alloc (.cells #[.int .i64 2, .int .i64 s, .complex .f64 0 0] 44)).alloc (.cells #[.string ⟨#[]⟩, .int .i64 0] 47)).alloc (.cells #[.int .i64 2, .int .i64 s, .complex .f64 0 0] 44)).alloc (.cells #[.int .i64 s] 75)).heap.size := by simp only [World.size_alloc]; omega
  have kf : ((((w.alloc (.cells #[.int .i64 2, .int .i64 s, .complex .f64 0 0] 44)).alloc (.cells #[.string ⟨#[]⟩, .int .i64 0] 47)).alloc (.cells #[.int .i64 2, .int .i64 s, .complex .f64 0 0] 44)).alloc (.cells #[.int .i64 s] 75)).frozen? ⟨w.heap.size + 1, 0, none⟩ = false ∧ ((((w.alloc (.cells #[.int .i64 2, .int .i64 s, .complex .f64 0 0] 44)).alloc (.cells #[.string ⟨#[]⟩, .int .i64 0] 47)).alloc (.cells #[.int .i64 2, .int .i64 s, .complex .f64 0 0] 44)).alloc (.cells #[.int .i64 s] 75)).frozen? ⟨w.heap.size + 1, 1, none⟩ = false := by constructor <;> simp [go_sem]
  generalize ((((w.alloc (.cells #[.int .i64 2, .int .i64 s, .complex .f64 0 0] 44)).alloc (.cells #[.string ⟨#[]⟩, .int .i64 0] 47)).alloc (.cells #[.int .i64 2, .int .i64 s, .complex .f64 0 0] 44)).alloc (.cells #[.int .i64 s] 75)) = W at *
  refine (cN _ (Door.tab_below Ht.out hb4)).mono ?_
  rintro e w2 ⟨rfl, hb2⟩
  have c0 := (hb2.cell (p := ⟨w.heap.size + 1, 0, none⟩) hz).trans k0
  have c1 := (hb2.cell (p := ⟨w.heap.size + 1, 1, none⟩) hz).trans k1
  have f0 := (hb2.frozen (p := ⟨w.heap.size + 1, 0, none⟩) hz).trans kf.1
  have f1 := (hb2.frozen (p := ⟨w.heap.size + 1, 1, none⟩) hz).trans kf.2
  have Hb := Lib.hid (hb4.trans (hb2.mono hb4.size))
  clear k0 k1 kf hb2 hb4 hz
  go_wp2_with fail
  refine bodyPost_ret (v := .agg #[.string b, .int .i64 5]) ?_ rfl ⟨rfl, (Hb.out.setCell (Nat.le_succ _) _).setCell (Nat.le_succ _) _⟩
  simp [results, Tryz.results19, go_sem, c0, c1]
end Go.Proofs.YtlngplohnknhjaaGreatDoor.Px
