/- The program's parser: its state; what it takes; operators. -/
import Derived.Test.YtlngplohnknhjaaGreatDoorKExpTx
import Derived.Test.YtlngplohnknhjaaGreatDoorKExpA
import Derived.Test.YtlngplohnknhjaaGreatDoorKExpN
import Derived.Test.YtlngplohnknhjaaGreatDoorKShelf
import Derived.Deep.RegionLaw
namespace Go.Proofs.YtlngplohnknhjaaGreatDoor.Px
open Go.ChangeShapes Go.WideShapes Go.ChangeAt Go.RowKit Go.Proofs.YtlngplohnknhjaaGreatDoor Go.Proofs.YtlngplohnknhjaaGreatDoor.Flt Go.Proofs.YtlngplohnknhjaaGreatDoor.Ex Go.Proofs.YtlngplohnknhjaaGreatDoor.Cpx
set_option linter.unusedVariables false
/-- the parser in block B: the nodes that were read, the text ahead -/
structure Ps (w0 : World) (B : Nat) (xs : List Nd) (l : Tx) (w : World) : Prop where
  only : Only B w0 w
  r : ∃ v, w.heap[B]? = some (.cells #[v, .string ⟨l.toArray⟩] 82 (0, 0)) ∧ OwnN w0.heap.size w v xs.length xs
  lt : B < w0.heap.size
  len : l.length ≤ 600
theorem Ps.below {w0 : World} {B : Nat} {xs : List Nd} {l : Tx} {w w' : World} (h : Ps w0 B xs l w) (hb : Below w.heap.size w w') : Ps w0 B xs l w' := by
  obtain ⟨v, hr, ho⟩ := h.r
  exact ⟨h.only.trans (Only.of_below hb), ⟨v, (hb.block B (lt_of_block hr)).trans hr, own_below ho (Nat.le_refl _) hb⟩, h.lt, h.len⟩
theorem sk_len : ∀ l : Tx, (sk l).length ≤ l.length
  | [] => Nat.le_refl _
  | c :: r => by
    unfold sk Lib.trimLeftB
    rw [List.dropWhile_cons]
    split
    · have := sk_len r
      unfold sk Lib.trimLeftB at this
      show _ ≤ r.length + 1
      omega
    · exact Nat.le_refl _
theorem tk_len {p l r : Tx} (h : tk p l = some r) : r.length ≤ l.length := by
  unfold tk at h
  split at h
  · cases h
    rw [List.length_drop]
    have := sk_len l
    omega
  · cases h
theorem demand_any (w : World) : Calls Tryz.prog 41 #[.bool true] w fun e w' => e = .returned (.tuple #[]) ∧ w' = w := by
  go_enter Tryz.func41, Tryz.ntmps41
  go_wp2_with fail
  exact bodyPost_end (v := .tuple #[]) (by simp [results, Tryz.results41]) rfl ⟨rfl, rfl⟩
theorem spaces_any (l : Tx) (w : World) : Calls Tryz.prog 42 #[.string ⟨l.toArray⟩] w fun e w' => e = .returned (.string ⟨(sk l).toArray⟩) ∧ w' = w := by
  have c := fun W => Tryz.strings_TrimLeft_one ⟨l.toArray⟩ 32 (by decide) W
  rw [show Lib.trimLeftB (⟨l.toArray⟩ : ByteArray).data.toList 32 = sk l by rw [List.toList_toArray]; rfl] at c
  go_enter Tryz.func42, Tryz.ntmps42
  go_wp2_with fail
  refine (c _).mono ?_
  rintro e w' ⟨rfl, hw⟩
  subst w'
  go_wp2_with fail
  go_ret
  exact ⟨rfl, rfl⟩
theorem cut_any (l p : Tx) (w : World) : Calls Tryz.prog 95 #[.string ⟨l.toArray⟩, .string ⟨p.toArray⟩] w fun e w' => e = .returned (.tuple #[.string ⟨(Lib.trimPrefix l p).toArray⟩, .bool (Lib.hasPrefix l p)]) ∧ w' = w := by
  have c := Tryz.strings_CutPrefix ⟨l.toArray⟩ ⟨p.toArray⟩ w
  rw [List.toList_toArray, List.toList_toArray] at c
  exact c
set_option maxRecDepth 20000 in
set_option maxHeartbeats 800000 in
theorem takes_any (w0 : World) (B : Nat) (xs : List Nd) (l p : Tx) (w : World) (h : Ps w0 B xs l w) :
    Calls Tryz.prog 76 #[.pointer (some ⟨B, 0, none⟩), .string ⟨p.toArray⟩] w fun e w' => e = .returned (.bool (tk p l).isSome) ∧ Ps w0 B xs ((tk p l).getD l) w' := by
  obtain ⟨v, hr, ho⟩ := h.r
  have c1 : w.cell? ⟨B, 1, none⟩ = some (.string ⟨l.toArray⟩) := by simp [World.cell?, hr]
  have f1 : w.frozen? ⟨B, 1, none⟩ = false := by simp [World.frozen?, hr]
  have cS := fun W => spaces_any l W
  have cC := fun W => cut_any (sk l) p W
  cases hp : Lib.hasPrefix (sk l) p
  · have ht : tk p l = none := by unfold tk; rw [hp]; rfl
    rw [hp] at cC
    rw [ht]
    have H := Lib.hid h
    clear hp ht h hr ho
    go_enter Tryz.func76, Tryz.ntmps76
    go_wp2_with fail
    refine (cS _).mono ?_
    rintro e w' ⟨rfl, hw⟩
    subst w'
    go_wp2_with fail
    refine (cC _).mono ?_
    rintro e w' ⟨rfl, hw⟩
    subst w'
    go_wp2_with fail
    go_ret
    exact ⟨rfl, H.out⟩
  · have ht : tk p l = some ((sk l).drop p.length) := by unfold tk; rw [hp]; rfl
    have htp : Lib.trimPrefix (sk l) p = (sk l).drop p.length := by unfold Lib.trimPrefix; rw [hp]; rfl
    rw [hp, htp] at cC
    have hl := tk_len ht
    rw [ht]
    obtain ⟨q, hq⟩ : ∃ q, (sk l).drop p.length = q := ⟨_, rfl⟩
    rw [hq] at cC hl ⊢
    have H := Lib.hid (show Ps w0 B xs q (w.setCell ⟨B, 1, none⟩ (.string ⟨q.toArray⟩)) from ⟨h.only.setCell _ _, ⟨v, block_setCell hr _, by
      have hn : Value.ownBlock v ≠ some B := fun e => by
        have := (World.ownsRow.lt ho B e).1
        have := h.lt
        omega
      exact ownsRow_setCell_other (a := ⟨B, 1, none⟩) ho hn _⟩, h.lt, by have := h.len; omega⟩)
    clear hp ht htp h hr ho hq hl
    go_enter Tryz.func76, Tryz.ntmps76
    go_wp2_with fail
    refine (cS _).mono ?_
    rintro e w' ⟨rfl, hw⟩
    subst w'
    go_wp2_with fail
    refine (cC _).mono ?_
    rintro e w' ⟨rfl, hw⟩
    subst w'
    go_wp2_with fail
    go_ret
    exact ⟨rfl, H.out⟩
/-! operators -/
theorem txt_txL {k : Int} (hk : 3 ≤ k ∧ k ≤ 12) : txt k = ⟨(txL k).toArray⟩ := by
  obtain rfl | rfl | rfl | rfl | rfl | rfl | rfl | rfl | rfl | rfl : k = 3 ∨ k = 4 ∨ k = 5 ∨ k = 6 ∨ k = 7 ∨ k = 8 ∨ k = 9 ∨ k = 10 ∨ k = 11 ∨ k = 12 := by omega
  all_goals rfl
theorem kind_iff {k : Int} (hk : 3 ≤ k ∧ k ≤ 12) {s : Nat} (hs : 1 ≤ s ∧ s ≤ 5) : k ∈ kindsOf s ↔ stg k = (s : Int) := by
  obtain rfl | rfl | rfl | rfl | rfl : s = 1 ∨ s = 2 ∨ s = 3 ∨ s = 4 ∨ s = 5 := by omega
  all_goals
    obtain rfl | rfl | rfl | rfl | rfl | rfl | rfl | rfl | rfl | rfl : k = 3 ∨ k = 4 ∨ k = 5 ∨ k = 6 ∨ k = 7 ∨ k = 8 ∨ k = 9 ∨ k = 10 ∨ k = 11 ∨ k = 12 := by omega
    all_goals decide
theorem kind_in {k : Int} {s : Nat} (hs : 1 ≤ s ∧ s ≤ 5) (h : k ∈ kindsOf s) : 3 ≤ k ∧ k ≤ 12 := by
  obtain rfl | rfl | rfl | rfl | rfl : s = 1 ∨ s = 2 ∨ s = 3 ∨ s = 4 ∨ s = 5 := by omega
  all_goals (revert h; unfold kindsOf; simp; omega)
/-- none of the kinds below k is taken -/
def Miss (s : Nat) (l : Tx) (k : Int) : Prop := ∀ j ∈ kindsOf s, j < k → tk (txL j) l = none
theorem opr_miss {s : Nat} {l : Tx} (hs : 1 ≤ s ∧ s ≤ 5) (h : Miss s l 13) : opr s l = none := by
  unfold opr
  rw [List.findSome?_eq_none_iff]
  intro j hj
  rw [h j hj (by have := kind_in hs hj; omega)]; rfl
theorem opr_hit {s : Nat} {l r : Tx} {k : Int} (hs : 1 ≤ s ∧ s ≤ 5) (hk : k ∈ kindsOf s) (h : Miss s l k) (ht : tk (txL k) l = some r) : opr s l = some (k, r) := by
  unfold Miss at h
  unfold opr
  obtain rfl | rfl | rfl | rfl | rfl : s = 1 ∨ s = 2 ∨ s = 3 ∨ s = 4 ∨ s = 5 := by omega
  · obtain rfl : k = 12 := by simpa [kindsOf] using hk
    simp [kindsOf, ht]
  · obtain rfl | rfl : k = 8 ∨ k = 9 := by simpa [kindsOf] using hk
    · simp [kindsOf, ht]
    · have h1 := h 8 (by simp [kindsOf]) (by decide)
      simp [kindsOf, ht, h1]
  · obtain rfl | rfl : k = 10 ∨ k = 11 := by simpa [kindsOf] using hk
    · simp [kindsOf, ht]
    · have h1 := h 10 (by simp [kindsOf]) (by decide)
      simp [kindsOf, ht, h1]
  · obtain rfl | rfl : k = 3 ∨ k = 4 := by simpa [kindsOf] using hk
    · simp [kindsOf, ht]
    · have h1 := h 3 (by simp [kindsOf]) (by decide)
      simp [kindsOf, ht, h1]
  · obtain rfl | rfl | rfl : k = 5 ∨ k = 6 ∨ k = 7 := by simpa [kindsOf] using hk
    · simp [kindsOf, ht]
    · have h1 := h 5 (by simp [kindsOf]) (by decide)
      simp [kindsOf, ht, h1]
    · have h1 := h 5 (by simp [kindsOf]) (by decide)
      have h2 := h 6 (by simp [kindsOf]) (by decide)
      simp [kindsOf, ht, h1, h2]
/-- what operator answers -/
def OprOut (s : Nat) (w0 : World) (B : Nat) (xs : List Nd) (l : Tx) (e : Ending) (w' : World) : Prop :=
  match opr s l with
  | none => e = .returned (.tuple #[.int .i64 0, .bool false]) ∧ Ps w0 B xs l w'
  | some (k, r) => e = .returned (.tuple #[.int .i64 k, .bool true]) ∧ Ps w0 B xs r w'
set_option maxRecDepth 20000 in
set_option maxHeartbeats 1600000 in
theorem operator_any (w0 : World) (B : Nat) (xs : List Nd) (l : Tx) (s : Nat) (hs : 1 ≤ s ∧ s ≤ 5) (w : World) (h : Ps w0 B xs l w) :
    Calls Tryz.prog 62 #[.pointer (some ⟨B, 0, none⟩), .int .i64 (s : Int)] w (OprOut s w0 B xs l) := by
  have H0 := Lib.hid h
  clear h
  go_enter Tryz.func62, Tryz.ntmps62
  go_wp2_with fail
  go_loopw [6] (fun vk wr => ∃ k : Int, vk = .int .i64 k ∧ (3 ≤ k ∧ k ≤ 13) ∧ Hid (Ps w0 B xs l wr ∧ Miss s l k)) (fun vk _ => (13 - intOf vk).toNat)
  case atStart => exact ⟨3, rfl, by omega, Lib.hid ⟨H0.out, fun j hj hlt => by have := kind_in hs hj; omega⟩⟩
  case round =>
    obtain ⟨k, rfl, hk, HP⟩ := hrel
    by_cases hk12 : k ≤ 12
    · have cP := fun W => part_op k 0 0 0 W (by omega)
      unfold opV at cP
      rw [txt_txL (by omega)] at cP
      have t1 := ta_oo
      have hki := kind_iff (k := k) (by omega) hs
      obtain ⟨tx, htx⟩ : ∃ tx, txL k = tx := ⟨_, rfl⟩
      obtain ⟨sg, hsg⟩ : ∃ sg, stg k = sg := ⟨_, rfl⟩
      rw [htx, hsg] at cP
      have Hi := Lib.hid (And.intro hki (And.intro htx hsg))
      have hw1 : IntKind.i64.wrap (k + 1) = k + 1 := by rw [IntKind.wrap_i64]; omega
      clear hki htx hsg
      have HW := Lib.hid (show Ps w0 B xs l ((wr.alloc (.cells #[.int .i64 k, .int .i64 0, .complex .f64 0 0] 44)).alloc (.cells #[.string ⟨tx.toArray⟩, .int .i64 sg] 77)) from HP.out.1.below (by go_grown))
      by_cases hss : sg = (s : Int)
      · have bss : (sg == (s : Int)) = true := by rw [hss]; exact beq_self_eq_true _
        have cT := takes_any w0 B xs l tx _ HW.out
        have Hin := Lib.hid (show k ∈ kindsOf s from Hi.out.1.2 (by rw [Hi.out.2.2]; exact hss))
        clear hss
        cases ht : tk tx l with
        | none =>
          rw [ht] at cT
          have Ht := Lib.hid (show Miss s l (k + 1) from fun j hj hlt => by
            by_cases e : j = k
            · rw [e, Hi.out.2.1]; exact ht
            · exact HP.out.2 j hj (by omega))
          clear ht
          go_wp2_with fail
          refine (cP _).mono ?_
          rintro e w1 ⟨rfl, rfl⟩
          go_wp2_with fail
          refine cT.mono ?_
          rintro e w2 ⟨rfl, h2⟩
          have H2 := Lib.hid h2
          clear h2 cT
          go_wp2_with fail
          go_roundw
          case rel => exact ⟨k + 1, by go_num, by omega, Lib.hid ⟨H2.out, Ht.out⟩⟩
          case measure => simp [intOf]; omega
        | some r =>
          rw [ht] at cT
          have Ho := Lib.hid (show opr s l = some (k, r) from opr_hit hs Hin.out HP.out.2 (by rw [Hi.out.2.1]; exact ht))
          clear ht
          go_wp2_with fail
          refine (cP _).mono ?_
          rintro e w1 ⟨rfl, rfl⟩
          go_wp2_with fail
          refine cT.mono ?_
          rintro e w2 ⟨rfl, h2⟩
          have H2 := Lib.hid h2
          clear h2 cT
          go_wp2_with fail
          go_ret2
          unfold OprOut
          rw [Ho.out]
          exact ⟨rfl, H2.out⟩
      · have bss : (sg == (s : Int)) = false := beq_eq_false_iff_ne.2 hss
        have Ht := Lib.hid (show Miss s l (k + 1) from fun j hj hlt => by
          by_cases e : j = k
          · rw [e] at hj
            exact absurd (Hi.out.2.2 ▸ Hi.out.1.1 hj) hss
          · exact HP.out.2 j hj (by omega))
        clear hss
        go_wp2_with fail
        refine (cP _).mono ?_
        rintro e w1 ⟨rfl, rfl⟩
        go_wp2_with fail
        go_roundw
        case rel => exact ⟨k + 1, by go_num, by omega, Lib.hid ⟨HW.out, Ht.out⟩⟩
        case measure => simp [intOf]; omega
    · obtain rfl : k = 13 := by omega
      have Ho := Lib.hid (opr_miss hs HP.out.2)
      go_wp2_with fail
      go_ret2
      unfold OprOut
      rw [Ho.out]
      exact ⟨rfl, HP.out.1⟩
end Go.Proofs.YtlngplohnknhjaaGreatDoor.Px
