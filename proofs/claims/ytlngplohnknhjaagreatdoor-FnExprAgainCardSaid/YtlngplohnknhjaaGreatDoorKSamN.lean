/- The laws' sameNodes at equal lists of valid nodes. -/
import Derived.Test.YtlngplohnknhjaaGreatDoorKExpS
import Derived.Test.YtlngplohnknhjaaGreatDoorPkB
namespace Go.Proofs.YtlngplohnknhjaaGreatDoor.Ex
open Go.ChangeShapes Go.WideShapes Go.ChangeAt Go.RowKit Go.Proofs.YtlngplohnknhjaaGreatDoor Go.Proofs.YtlngplohnknhjaaGreatDoor.Flt Go.Proofs.YtlngplohnknhjaaGreatDoor.Mth
set_option linter.unusedVariables false
theorem nd_lt {n : Nd} (h : n.ok) : n.x < 18446744073709551616 ∧ n.y < 18446744073709551616 := by
  rcases h with ⟨_, _, f, _, h | h⟩ | h | h
  · rw [h.1, h.2]; exact ⟨widen_wl f, by decide⟩
  · rw [h.1, h.2.1]; exact ⟨by decide, widen_wl f⟩
  · rw [h.2.2.1, h.2.2.2]; exact ⟨by decide, by decide⟩
  · rw [h.2.2.1, h.2.2.2]; exact ⟨by decide, by decide⟩
set_option maxRecDepth 20000 in
set_option maxHeartbeats 3200000 in
theorem sameN (b off c off' n cap cap' : Nat) (xs : List Nd) (hn : xs.length = n) (hok : ∀ s ∈ xs, s.ok) (w : World) (hl : n ≤ 1048576) (hb : b < w.heap.size) (hc : c < w.heap.size) (h1 : CellsN w b off xs) (h2 : CellsN w c off' xs) :
    Calls Tryz.prog 10 #[.slice (some ⟨b, off, none⟩) n cap, .slice (some ⟨c, off', none⟩) n cap'] w fun e w' => e = .returned (.bool true) ∧ Below w.heap.size w w' := by
  have H1 := Lib.hid h1
  have H2 := Lib.hid h2
  have HW := Lib.hid (And.intro hok hn)
  clear h1 h2 hok hn
  have Hst := Lib.hid (Below.refl w.heap.size w)
  generalize hB : w.heap.size = B at *
  go_enter Tryz.func10, Tryz.ntmps10
  go_wp2_with fail
  go_loopw [5] (fun i wr => ∃ k : Nat, i = .int .i64 k ∧ k ≤ n ∧ Below B w wr)
    (fun i _ => n - (intOf i).toNat)
  case atStart => exact ⟨0, rfl, Nat.zero_le _, Hst.out⟩
  case round =>
    obtain ⟨k, rfl, hk, hbel⟩ := hrel
    have Hbel := Lib.hid hbel
    by_cases hkl : k < n
    · have hkl' : (k : Int) < (n : Int) := by omega
      have hsz : B ≤ wr.heap.size := by rw [← hB]; exact hbel.size
      obtain ⟨s, hs⟩ : ∃ s, xs[k]? = some s := ⟨_, List.getElem?_eq_getElem (by rw [HW.out.2]; exact hkl)⟩
      have hlt := nd_lt (HW.out.1 s (List.mem_of_getElem? hs))
      have cn1 : ∀ n : Old wr, CellsN n.x b off xs := fun n => (H1.out.keep hb Hbel.out).keep (Nat.lt_of_lt_of_le hb hsz) n.h
      have cn2 : ∀ n : Old wr, CellsN n.x c off' xs := fun n => (H2.out.keep hc Hbel.out).keep (Nat.lt_of_lt_of_le hc hsz) n.h
      have a0 := fun n => (cn1 n k s hs).1
      have a1 := fun n => (cn1 n k s hs).2.1
      have a2 := fun n => (cn1 n k s hs).2.2
      have c0 := fun n => (cn2 n k s hs).1
      have c1 := fun n => (cn2 n k s hs).2.1
      have c2 := fun n => (cn2 n k s hs).2.2
      have hs0 := Lib.hid (show ∀ n : Old wr, Calls Tryz.prog 23 #[.complex .f64 s.x s.y, .complex .f64 s.x s.y] n.x fun e w' => e = .returned (.bool true) ∧ ∃ m : Old wr, w' = m.x from fun n => (same_self s.x s.y n.x hlt.1 hlt.2).mono (fun e w' he => ⟨he.1, n, he.2⟩))
      have HO := Lib.hid (show ∀ n : Old wr, Below B w n.x from fun n => Hbel.out.trans (n.h.mono hsz))
      obtain ⟨sk, ss, sx, sy⟩ := s
      clear cn1 cn2 hlt hs hbel
      go_wp2_with fail
      refine wp_region_old (by kernel_rfl) (by kernel_rfl) ?_
      repeat (go_big_quiet_step ((go_at_call 23; exact hs0.out _)))
      refine wpQuiet_nil ?_
      rintro _ ⟨n, rfl⟩
      go_wp2_with fail
      go_roundw
      case rel => exact ⟨k + 1, by go_num, by omega, HO.out n⟩
      case measure => simp [intOf]; omega
    · have hkl' : ¬ (k : Int) < (n : Int) := by omega
      obtain rfl : k = n := by omega
      clear hbel
      go_wp2_with fail
      go_ret
      exact ⟨rfl, Hbel.out⟩
end Go.Proofs.YtlngplohnknhjaaGreatDoor.Ex
