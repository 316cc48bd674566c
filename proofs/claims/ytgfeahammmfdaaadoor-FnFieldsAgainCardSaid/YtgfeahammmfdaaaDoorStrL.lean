/- The laws' helpers on lists of texts: eqStringS, markStringS, heldStringS. -/
import Derived.Test.YtgfeahammmfdaaaDoorFldI
import Derived.Test.YtgfeahammmfdaaaDoorFmtInt
import Derived.Test.YtgfeahammmfdaaaDoorOld
namespace Go.Proofs.YtgfeahammmfdaaaDoor.Fld
open Go.ChangeShapes Go.WideShapes Go.ChangeAt Go.RowKit Go.Proofs.YtgfeahammmfdaaaDoor
set_option linter.unusedVariables false
/-- the k-th mark -/
def mk (k : Nat) : ByteArray := ⟨(109 :: Fmi.pre k).toArray⟩
set_option maxRecDepth 20000 in
set_option maxHeartbeats 800000 in
theorem markText_any (u : Nat) (w : World) (h0 : 0 < u) (h1 : u ≤ 1000000) : Calls Tryd.prog 52 #[.int .i64 (u : Int)] w fun e w' => e = .returned (.string (mk u)) ∧ Below w.heap.size w w' := by
  have hneg : ¬ (u : Int) ≤ 0 := by omega
  go_enter Tryd.func52, Tryd.ntmps52
  go_wp2_with fail
  go_loopw [0, 3] (fun nv sv wr => ∃ v : Nat, ∃ s : ByteArray, v ≤ u ∧ Hid (Fmi.pre v ++ Fmi.seen s = Fmi.pre u) ∧ nv = .int .i64 (v : Int) ∧ sv = .string s ∧ Below w.heap.size w wr) (fun nv _ _ => (intOf nv).toNat)
  case atStart =>
    refine ⟨u, ⟨#[]⟩, Nat.le_refl _, ?_, rfl, rfl, Below.refl _ _⟩
    show Fmi.pre u ++ [] = Fmi.pre u
    exact List.append_nil _
  case round =>
    obtain ⟨v, s, hv, hpre, rfl, rfl, hb⟩ := hrel
    have Hb := Lib.hid hb
    clear hb
    by_cases hv0 : 0 < v
    · have hv0' : (0 : Int) < v := by omega
      have hconv := Fmi.conv_one wr v
      obtain ⟨b, hbe⟩ : ∃ b : ByteArray, b = ⟨#[UInt8.ofNat (48 + v % 10)]⟩ := ⟨_, rfl⟩
      have hsb : Fmi.seen b = [UInt8.ofNat (48 + v % 10)] := by rw [hbe]; rfl
      rw [← hbe] at hconv
      have hlen : b.size + s.size ≤ 9223372036854775807 := by
        have e1 := congrArg List.length hpre.out
        rw [List.length_append, Fmi.pre_step hv0, List.length_append, Fmi.seen_size] at e1
        have e2 := Fmi.pre_len u
        have e3 : b.size = 1 := by rw [← Fmi.seen_size, hsb]; rfl
        simp only [List.length_cons, List.length_nil] at e1
        omega
      have hadd := fun w => run_string_add_sum (P := Tryd.prog) (w := w) b s hlen
      have Hn := Lib.hid hlen
      have Hs := Lib.hid hsb
      clear hbe hsb hlen
      go_wp2_with fail
      refine ⟨⟨v / 10, _, by omega, ?_, ?_, rfl, ?_⟩, ?_⟩
      · show Fmi.pre (v / 10) ++ Fmi.seen (b ++ s) = Fmi.pre u
        rw [Fmi.seen_add, Hs.out, ← List.append_assoc, ← Fmi.pre_step hv0]
        exact hpre.out
      · rw [Int.natCast_ediv]; rfl
      · exact Hb.out.alloc Hb.out.size _
      · simp only [intOf]; omega
    · obtain rfl : v = 0 := by omega
      have e1 : Fmi.seen s = Fmi.pre u := by
        have := hpre.out
        have e3 : Fmi.pre 0 = [] := rfl
        rw [e3, List.nil_append] at this
        exact this
      have hlen : (⟨#[109]⟩ : ByteArray).size + s.size ≤ 9223372036854775807 := by
        have e2 := Fmi.pre_len u
        rw [← e1, Fmi.seen_size] at e2
        show 1 + s.size ≤ _
        omega
      have hadd := fun w => run_string_add_sum (P := Tryd.prog) (w := w) ⟨#[109]⟩ s hlen
      have Hf := Lib.hid (show (⟨#[109]⟩ : ByteArray) ++ s = mk u from ByteArray.ext (Array.toList_inj.1 (by
        rw [ByteArray.data_append, Array.toList_append]
        show [109] ++ Fmi.seen s = 109 :: Fmi.pre u
        rw [e1]; rfl)))
      clear e1 hlen
      go_wp2_with fail
      go_ret
      exact ⟨ret_string Hf.out, Hb.out⟩
theorem own_cases {base : Nat} {w : World} {v : Value} {xs : List ByteArray} (h : Own base w v xs) : (v = .slice none 0 0 ∧ xs = []) ∨ ∃ g cap, v = .slice (some ⟨g, 0, none⟩) xs.length cap ∧ base ≤ g ∧ g < w.heap.size ∧ ∀ i (hi : i < xs.length), w.cell? ⟨g, i, none⟩ = some (.string xs[i]) := by
  have h' := h
  rcases h.2 with ⟨h1, h2⟩ | ⟨g, cap, cur, rfl, hb, hg, rest⟩
  · exact .inl ⟨h1, List.eq_nil_of_length_eq_zero h2⟩
  · refine .inr ⟨g, cap, rfl, hb, lt_of_block hg, fun i hi => ?_⟩
    have := World.ownsRow.cellAt h' i (by omega)
    rw [this]
    unfold strV
    rw [List.getElem?_map, List.getElem?_eq_getElem hi]
    rfl
set_option maxRecDepth 20000 in
set_option maxHeartbeats 800000 in
theorem eqS_any {b1 b2 : Nat} {v v' : Value} {xs : List ByteArray} (w : World) (h1 : Own b1 w v xs) (h2 : Own b2 w v' xs) (hn : xs.length ≤ 1000000) :
    Calls Tryd.prog 23 #[v, v'] w fun e w' => e = .returned (.bool true) ∧ Below w.heap.size w w' := by
  rcases own_cases h1 with ⟨rfl, rfl⟩ | ⟨g, cap, rfl, _, hg, hc⟩
  · rcases own_cases h2 with ⟨rfl, _⟩ | ⟨g', cap', rfl, _⟩
    · go_enter Tryd.func23, Tryd.ntmps23
      go_wp2_with fail
      go_rounds 1
      go_ret
      exact ⟨rfl, Below.refl _ _⟩
    · show Calls _ _ #[_, .slice _ 0 _] _ _
      go_enter Tryd.func23, Tryd.ntmps23
      go_wp2_with fail
      go_rounds 1
      go_ret
      exact ⟨rfl, Below.refl _ _⟩
  · rcases own_cases h2 with ⟨rfl, rfl⟩ | ⟨g', cap', rfl, _, hg', hc'⟩
    · show Calls _ _ #[.slice _ 0 _, _] _ _
      go_enter Tryd.func23, Tryd.ntmps23
      go_wp2_with fail
      go_rounds 1
      go_ret
      exact ⟨rfl, Below.refl _ _⟩
    · obtain ⟨n, hnn⟩ : ∃ n, n = xs.length := ⟨_, rfl⟩
      rw [← hnn] at hn ⊢
      have Hc := Lib.hid (And.intro hc hc')
      have Hn := Lib.hid hnn
      clear hc hc' hnn h1 h2
      go_enter Tryd.func23, Tryd.ntmps23
      go_wp2_with fail
      go_loopw [5] (fun iv wr => ∃ i m : Nat, i ≤ n ∧ iv = .int .i64 (i : Int) ∧ wr = w.drewN m) (fun iv _ => n - (intOf iv).toNat)
      case atStart => exact ⟨0, 0, Nat.zero_le _, rfl, rfl⟩
      case round =>
        obtain ⟨i, m, hi, rfl, hwr⟩ := hrel
        subst hwr
        by_cases hin : i < n
        · have hin' : (i : Int) < n := by omega
          have i1 : (0 : Int) ≤ i := by omega
          have hix : i < xs.length := by rw [← Hn.out]; exact hin
          have q1 := Hc.out.1 i hix
          have q2 := Hc.out.2 i hix
          generalize xs[i] = x at *
          have e1 : (x.toList == x.toList) = true := beq_self_eq_true _
          have e2 : (x.toList != x.toList) = false := by rw [bne, e1]; rfl
          go_wp2_with fail
          go_quiet (fail)
          go_wp2_with fail
          go_roundw
          case rel => exact ⟨i + 1, _, hin, by go_num, rfl⟩
          case measure => simp [intOf]; omega
        · have hin' : ¬ (i : Int) < n := by omega
          go_wp2_with fail
          go_ret
          exact ⟨rfl, ⟨rfl, rfl, rfl, Nat.le_refl _, fun _ _ => rfl⟩⟩
end Go.Proofs.YtgfeahammmfdaaaDoor.Fld
