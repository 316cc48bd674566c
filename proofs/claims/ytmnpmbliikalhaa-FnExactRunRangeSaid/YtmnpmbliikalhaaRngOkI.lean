/- Contracts of the program's check of a list of ranges. -/
import Derived.Test.YtmnpmbliikalhaaRngOk
import Derived.Test.YtmnpmbliikalhaaOld
namespace Go.Proofs.Ytmnpmbliikalhaa.Rng
open Go.ChangeShapes Go.WideShapes Go.ChangeAt Go.RowKit Go.Proofs.Ytmnpmbliikalhaa Go.Proofs.Ytmnpmbliikalhaa.Flt Go.Proofs.Ytmnpmbliikalhaa.Mth
set_option linter.unusedVariables false
theorem isR_val (f d u : Nat) (c : Bool) (h : isRB f d u = c) (w : World) :
    Calls Try.prog 62 #[.agg #[.float .f32 f, .float .f32 d, .float .f32 u]] w fun e w' => e = .returned (.bool c) ∧ Below w.heap.size w w' := by
  rw [← h]; exact isR_any f d u w
theorem isA_val (bf bd bu f d u : Nat) (c : Bool) (h : isAB bf bu f d = c) (w : World) :
    Calls Try.prog 63 #[.agg #[.float .f32 bf, .float .f32 bd, .float .f32 bu], .agg #[.float .f32 f, .float .f32 d, .float .f32 u]] w fun e w' => e = .returned (.bool c) ∧ Below w.heap.size w w' := by
  rw [← h]; exact isA_any bf bd bu f d u w
set_option maxHeartbeats 1600000 in
theorem implOk_in (b off len cap : Nat) (X : Nat → Nat) (w : World) (l1 : 1 ≤ len) (l2 : len ≤ 12) (hb : b < w.heap.size) (h1 : Cells w b off len X) :
    Calls Try.prog 47 #[.slice (some ⟨b, off, none⟩) len cap] w fun e w' => e = .returned (.bool (okB len X)) ∧ Below w.heap.size w w' := by
  have H1 := Lib.hid h1
  clear h1
  have Hst := Lib.hid (Below.refl w.heap.size w)
  generalize hB : w.heap.size = B at *
  go_enter Try.func47, Try.ntmps47
  go_wp2_with fail
  go_loopw [15] (fun i wr => ∃ k : Nat, i = .int .i64 k ∧ k ≤ len ∧ Below B w wr ∧ ∀ j, j < k → okAt X j = true)
    (fun i _ => len - (intOf i).toNat)
  case atStart => exact ⟨0, rfl, Nat.zero_le _, Hst.out, fun j hj => absurd hj (Nat.not_lt_zero _)⟩
  case round =>
    obtain ⟨k, rfl, hk, hbel, hall⟩ := hrel
    have Hall := Lib.hid hall
    clear hall
    by_cases hkl : k < len
    · have Hbel := Lib.hid hbel
      obtain ⟨a0, a1, a2⟩ := (H1.out.keep hb Hbel.out) k hkl
      have hsz : B ≤ wr.heap.size := by rw [← hB]; exact hbel.size
      have HB := Lib.hid ((hbel.alloc hsz (.cells #[.float .f32 (X (k * 3)), .float .f32 (X (k * 3 + 1)), .float .f32 (X (k * 3 + 2))] 37)))
      generalize hW : wr.alloc (.cells #[.float .f32 (X (k * 3)), .float .f32 (X (k * 3 + 1)), .float .f32 (X (k * 3 + 2))] 37) = W at HB
      have hown : ∀ (j : Nat) (v : Value), #[Value.float .f32 (X (k * 3)), .float .f32 (X (k * 3 + 1)), .float .f32 (X (k * 3 + 2))][j]? = some v → ∀ n : Old W, n.x.cell? ⟨wr.heap.size, j, none⟩ = some v := fun j v hj n => by
        rw [old_cell n (by subst hW; rw [sz_alloc]; exact Nat.lt_succ_self _)]
        subst hW
        rw [cell_of_row _ wr.heap.size j #[.float .f32 (X (k * 3)), .float .f32 (X (k * 3 + 1)), .float .f32 (X (k * 3 + 2))] 37 (0, 0) (block_new wr _)]
        exact hj
      have q0 := hown 0 _ rfl
      have q1 := hown 1 _ rfl
      have q2 := hown 2 _ rfl
      have hB' : B ≤ W.heap.size := by subst hW; rw [sz_alloc]; omega
      have HO := Lib.hid (show ∀ n : Old W, Below B w n.x from fun n => HB.out.trans (n.h.mono hB'))
      clear hown hB'
      clear hbel
      obtain ⟨c, hc⟩ : ∃ c, isRB (X (k * 3)) (X (k * 3 + 1)) (X (k * 3 + 2)) = c := ⟨_, rfl⟩
      have Hk := Lib.hid hk
      have hpos : ∀ m, k = m + 1 → decide ((0 : Int) < (k : Int)) = true := fun m h => decide_eq_true (by omega)
      cases c
      · have Hno := Lib.hid (okB_fail (X := X) hkl (by unfold okAt; rw [hc]; rfl))
        go_wp2_with fail
        refine wp_region_old (by kernel_rfl) (by kernel_rfl) ?_
        repeat (go_big_quiet_step ((go_at_call 62; exact old_call (isR_val _ _ _ _ hc _))))
        refine wpQuiet_nil ?_
        rintro _ ⟨n, rfl⟩
        go_wp2
        go_ret
        exact ⟨ret_bool Hno.out, HO.out n⟩
      · rcases k with _ | m
        · have Hyes := Lib.hid (show okAt X 0 = true by
            unfold okAt
            rw [hc]; rfl)
          rw [show 0 * 3 = 0 from rfl, Nat.add_zero] at a0 a1 a2
          rw [show (0 : Nat) + 1 = 1 from rfl] at a1
          rw [show (0 : Nat) + 2 = 2 from rfl] at a2
          go_wp2_with fail
          refine wp_region_old (by kernel_rfl) (by kernel_rfl) ?_
          repeat (go_big_quiet_step ((go_at_call 62; exact old_call (isR_val _ _ _ _ hc _))))
          refine wpQuiet_nil ?_
          rintro _ ⟨n, rfl⟩
          go_wp2
          go_roundw
          case rel => exact ⟨1, by go_num, by omega, HO.out n, fun j hj => by
            obtain rfl : j = 0 := by omega
            exact Hyes.out⟩
          case measure => simp [intOf]; omega
        · obtain ⟨c', hc'⟩ : ∃ c, isAB (X (m * 3)) (X (m * 3 + 2)) (X ((m + 1) * 3)) (X ((m + 1) * 3 + 1)) = c := ⟨_, rfl⟩
          have hpos := hpos m rfl
          have hw0 : IntKind.i64.wrap (m : Int) = (m : Int) := by rw [IntKind.wrap_i64]; omega
          have hw1 : IntKind.i64.wrap ((m : Int) + 1 - 1) = (m : Int) := by rw [IntKind.wrap_i64]; omega
          have hml : m < len := by omega
          have Hc := Lib.hid (show okAt X (m + 1) = c' by
            unfold okAt
            rw [show (m + 1 == 0) = false from rfl, hc, show m + 1 - 1 = m from rfl, hc']; rfl)
          have b0 := fun n : Old W => ((H1.out.keep hb (HO.out n)) m hml).1
          have b1 := fun n : Old W => ((H1.out.keep hb (HO.out n)) m hml).2.1
          have b2 := fun n : Old W => ((H1.out.keep hb (HO.out n)) m hml).2.2
          cases c'
          · go_wp2_with fail
            refine wp_region_old (by kernel_rfl) (by kernel_rfl) ?_
            repeat (go_big_quiet_step (first
              | (go_at_call 62; exact old_call (isR_val _ _ _ _ hc _))
              | (go_at_call 63; exact old_call (isA_val _ _ _ _ _ _ _ hc' _))))
            refine wpQuiet_nil ?_
            rintro _ ⟨n, rfl⟩
            go_wp2
            go_ret
            exact ⟨ret_bool (okB_fail (X := X) hkl Hc.out), HO.out n⟩
          · go_wp2_with fail
            refine wp_region_old (by kernel_rfl) (by kernel_rfl) ?_
            repeat (go_big_quiet_step (first
              | (go_at_call 62; exact old_call (isR_val _ _ _ _ hc _))
              | (go_at_call 63; exact old_call (isA_val _ _ _ _ _ _ _ hc' _))))
            refine wpQuiet_nil ?_
            rintro _ ⟨n, rfl⟩
            go_wp2
            go_roundw
            case rel => exact ⟨m + 1 + 1, by go_num, by omega, HO.out n, fun j hj => by
              by_cases e : j = m + 1
              · rw [e]; exact Hc.out
              · exact Hall.out j (by omega)⟩
            case measure => simp [intOf]; omega
    · obtain rfl : k = len := by omega
      have Hbel := Lib.hid hbel
      clear hbel
      go_wp2
      go_ret
      exact ⟨ret_bool (okB_all l1 l2 Hall.out), Hbel.out⟩
end Go.Proofs.Ytmnpmbliikalhaa.Rng
