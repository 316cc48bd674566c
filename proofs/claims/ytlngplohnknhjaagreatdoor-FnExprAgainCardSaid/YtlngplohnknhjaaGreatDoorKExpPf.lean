/- The program's ParseExpr, where it succeeds. -/
import Derived.Test.YtlngplohnknhjaaGreatDoorKExpPe
import Derived.Defers
import Derived.Recover
import Derived.Handy
namespace Go.Proofs.YtlngplohnknhjaaGreatDoor.Px
open Go.ChangeShapes Go.WideShapes Go.ChangeAt Go.RowKit Go.Proofs.YtlngplohnknhjaaGreatDoor Go.Proofs.YtlngplohnknhjaaGreatDoor.Flt Go.Proofs.YtlngplohnknhjaaGreatDoor.Ex Go.Proofs.YtlngplohnknhjaaGreatDoor.Cpx Go.Proofs.YtlngplohnknhjaaGreatDoor.Sng
set_option linter.unusedVariables false
set_option linter.unusedSimpArgs false
theorem catch_idle (p : Addr) (x : Bool) (w : World) (hc : w.cell? p = some (.bool x)) (hz : w.frozen? p = false) :
    CallsD Tryz.prog 39 #[.pointer (some p)] .returning w fun e u' w' =>
      e = .returned (.tuple #[]) ∧ settle u' = .returning ∧ w' = w.setCell p (.bool true) := by
  refine callsD_of_wpS Tryz.func39 rfl fun c₀ cs hu => ?_
  apply wpS_region
  simp [wpOpsS, go_sem, recoverD, hu, Tryz.ntmps39, hc, hz, bodyPostS, results, Tryz.results39]
  exact ⟨.returning, by cases c₀; simp_all, rfl⟩
set_option maxRecDepth 20000 in
set_option maxHeartbeats 1600000 in
theorem parsed_any (s : Tx) (hs : s.length ≤ 600) (ys : List Nd) (r : Tx) (hR : R (.chain 1) [] s ys r) (hr : sk r = []) (w : World) (hT : Door.Tab w) :
    Calls Tryz.prog 22 #[.string ⟨s.toArray⟩] w fun e w' => ∃ v, e = .returned (.tuple #[v, .bool true]) ∧ OwnN w.heap.size w' v ys.length ys ∧ Below w.heap.size w w' := by
  have hmf : ∀ (fn : Fn) (first cap : Array Value) (w : World), (Instr.makeFunc fn first cap).run Tryz.prog w = .ok (.func fn first cap) w := fun _ _ _ _ => rfl
  obtain ⟨wa, hwa⟩ : ∃ wa, w.alloc (.cells #[.bool false] 4) = wa := ⟨_, rfl⟩
  have sza : wa.heap.size = w.heap.size + 1 := by rw [← hwa]; exact World.size_alloc _ _
  have ba : Below w.heap.size w wa := hwa ▸ (Below.refl w.heap.size w).alloc (Nat.le_refl _) _
  have fa : wa.frozen? ⟨w.heap.size, 0, none⟩ = false := by rw [← hwa]; simp [go_sem]
  have ca : wa.cell? ⟨w.heap.size, 0, none⟩ = some (.bool false) := by rw [← hwa]; simp [go_sem]
  obtain ⟨w0, hw0⟩ : ∃ w0, wa.alloc (.cells #[.slice none 0 0, .string ⟨s.toArray⟩] 82) = w0 := ⟨_, rfl⟩
  have sz0 : w0.heap.size = wa.heap.size + 1 := by rw [← hw0]; exact World.size_alloc _ _
  have b0 : Below wa.heap.size wa w0 := hw0 ▸ (Below.refl wa.heap.size wa).alloc (Nat.le_refl _) _
  have P0 : Ps w0 wa.heap.size [] s w0 := ⟨Only.refl _ _, ⟨.slice none 0 0, by rw [← hw0]; exact block_new wa _, ⟨rfl, .inl ⟨rfl, rfl⟩⟩⟩, by omega, hs⟩
  have hb0 : Below w.heap.size w w0 := ba.trans (b0.mono (by omega))
  have HT : ∀ w', Only wa.heap.size w0 w' → Door.Tab w' := fun w' h => Door.tab_below hT (hb0.trans (h.below (by omega) (by omega)))
  have C := does HT hR w0 P0
  rw [sza] at C b0 P0 HT sz0
  have HC := Lib.hid (show Calls Tryz.prog 40 #[.pointer (some ⟨w.heap.size + 1, 0, none⟩), .int .i64 1] w0 _ from C)
  have HA := Lib.hid (And.intro hb0 (And.intro sz0 (And.intro fa ca)))
  have HW := Lib.hid (And.intro hwa hw0)
  have Hr := Lib.hid hr
  clear C b0 P0 HT hR sz0 fa ca ba hb0 hwa hw0 sza hT hr hs
  go_enter_defers Tryz.func22, Tryz.ntmps22
  go_wp2_with fail
  rw [HW.out.1, HW.out.2]
  refine HC.out.mono ?_
  rintro e w1 ⟨rfl, h1⟩
  have c1 := h1.cell1
  obtain ⟨v, hR1, ho1⟩ := h1.r
  have c0 : w1.cell? ⟨w.heap.size + 1, 0, none⟩ = some v := by simp [World.cell?, hR1]
  have hA : w.heap.size < w0.heap.size := by rw [HA.out.2.1]; omega
  have ca : w0.cell? ⟨w.heap.size, 0, none⟩ = some (.bool false) := by
    rw [← HW.out.2, World.cell?_of_block (w := wa) (((Below.refl wa.heap.size wa).alloc (Nat.le_refl _) _).block w.heap.size (by rw [← HW.out.1, World.size_alloc]; omega))]
    exact HA.out.2.2.2
  have fa : w0.frozen? ⟨w.heap.size, 0, none⟩ = false := by
    rw [← HW.out.2, (((Below.refl wa.heap.size wa).alloc (Nat.le_refl _) _).frozen (by rw [← HW.out.1, World.size_alloc]; exact Nat.lt_succ_self _))]
    exact HA.out.2.2.1
  have ca1 : w1.cell? ⟨w.heap.size, 0, none⟩ = some (.bool false) := (h1.only.cell hA (by show w.heap.size ≠ w.heap.size + 1; omega)).trans ca
  have fa1 : w1.frozen? ⟨w.heap.size, 0, none⟩ = false := by
    have hb := h1.only.block w.heap.size hA (by omega)
    have : w1.frozen? ⟨w.heap.size, 0, none⟩ = w0.frozen? ⟨w.heap.size, 0, none⟩ := by simp only [World.frozen?, hb]
    exact this.trans fa
  have cY : (w1.setCell ⟨w.heap.size, 0, none⟩ (.bool true)).cell? ⟨w.heap.size, 0, none⟩ = some (.bool true) := World.cell?_setCell_same _ _ _ ca1
  have fY : (w1.setCell ⟨w.heap.size, 0, none⟩ (.bool true)).frozen? ⟨w.heap.size, 0, none⟩ = false := (World.frozen?_setCell _ _ _ _).trans fa1
  have H1 := Lib.hid h1
  have Ho1 := Lib.hid ho1
  have cS := fun W => spaces_any r W
  rw [Hr.out] at cS
  have cD := fun W => demand_any W
  clear hR1 ho1 h1
  go_wp2_with fail
  refine (cS _).mono ?_
  rintro e w2 ⟨rfl, hw⟩
  subst w2
  go_wp2_with fail
  refine (cD _).mono ?_
  rintro e w2 ⟨rfl, hw⟩
  subst w2
  go_wp2_with fail
  refine leaves_cons (f := 39) (args := #[.pointer (some ⟨w.heap.size, 0, none⟩)]) (by simp) (by simp [go_sem]) ?_
  refine (catch_idle _ true _ cY fY).mono ?_
  rintro e u' w'' ⟨rfl, hu', rfl⟩
  simp only [hu']
  refine ⟨_, by simp [results, Tryz.results22, go_sem, World.cell?_setCell_same _ _ _ cY], v, rfl, ?_, ?_⟩
  · have hn : Value.ownBlock v ≠ some w.heap.size := fun e => by
      have := (World.ownsRow.lt Ho1.out w.heap.size e).1
      rw [HA.out.2.1] at this
      omega
    exact ownsRow_setCell_other (a := ⟨w.heap.size, 0, none⟩) (ownsRow_setCell_other (a := ⟨w.heap.size, 0, none⟩) (own_mono Ho1.out (Nat.le_of_lt hA)) hn _) hn _
  · exact ((HA.out.1.trans (H1.out.only.below (by omega) (Nat.le_of_lt hA))).setCell (Nat.le_refl _) _).setCell (Nat.le_refl _) _
set_option maxHeartbeats 800000 in
theorem parse_any (s : Tx) (hs : s.length ≤ 600) (ys : List Nd) (r : Tx) (hR : R (.chain 1) [] s ys r) (hr : sk r = []) (w : World) (hT : Door.Tab w) :
    Calls Tryz.prog 9 #[.string ⟨s.toArray⟩] w fun e w' => ∃ v, e = .returned (.tuple #[v, .bool true]) ∧ OwnN w.heap.size w' v ys.length ys ∧ Below w.heap.size w w' := by
  have c := parsed_any s hs ys r hR hr w hT
  have hsz := size_tx s
  have hle : ¬ ((600 : Int) < ((⟨s.toArray⟩ : ByteArray).size : Int)) := by rw [hsz]; omega
  have HC := Lib.hid c
  clear c hR hr hT
  obtain ⟨b, hb⟩ : ∃ b, (⟨s.toArray⟩ : ByteArray) = b := ⟨_, rfl⟩
  rw [hb] at hsz hle HC ⊢
  clear hb
  go_enter Tryz.func9, Tryz.ntmps9
  go_wp2_with fail
  refine HC.out.mono ?_
  rintro e w1 ⟨v, rfl, h1⟩
  have H1 := Lib.hid h1
  clear h1
  go_wp2_with fail
  exact bodyPost_ret (v := .tuple #[v, .bool true]) (by simp [results, Tryz.results9]) rfl ⟨v, rfl, H1.out⟩
end Go.Proofs.YtlngplohnknhjaaGreatDoor.Px
