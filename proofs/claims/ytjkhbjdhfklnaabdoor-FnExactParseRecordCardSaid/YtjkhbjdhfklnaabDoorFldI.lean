/- SplitFields in the program. -/
import Derived.Test.YtjkhbjdhfklnaabDoorFld
import Derived.Test.YtjkhbjdhfklnaabDoorShelf
import Derived.Laws.OwnMore
import Derived.Lib.LaidTab
import Derived.Lib.AppendIntMem
namespace Go.Proofs.YtjkhbjdhfklnaabDoor.Fld
open Go.ChangeShapes Go.WideShapes Go.ChangeAt Go.RowKit Go.Proofs.YtjkhbjdhfklnaabDoor
set_option linter.unusedVariables false
open Classical in
noncomputable def prB (s : ByteArray) : Bool := if prs s s.size then true else false
theorem prB_yes {s : ByteArray} (h : prs s s.size) : prB s = true := if_pos h
theorem prB_no {s : ByteArray} (h : ¬ prs s s.size) : prB s = false := if_neg h
set_option maxRecDepth 20000 in
set_option maxHeartbeats 800000 in
theorem printable_any (s : ByteArray) (hm : s.size ≤ 1048576) (w : World) : Calls Tryd.prog 26 #[.string s] w fun e w' => e = .returned (.bool (prB s)) ∧ w' = w := by
  go_enter Tryd.func26, Tryd.ntmps26
  go_wp2_with fail
  go_loop [6] (fun iv => ∃ i : Nat, i ≤ s.size ∧ Hid (prs s i) ∧ iv = .int .i64 (i : Int)) (fun iv => s.size - (intOf iv).toNat)
  case atStart => exact ⟨0, Nat.zero_le _, (fun j hj => absurd hj (Nat.not_lt_zero j)), rfl⟩
  case round =>
    obtain ⟨i, hi, hp, rfl⟩ := hrel
    by_cases hlt : i < s.size
    · have hlt' : (i : Int) < s.size := by omega
      obtain ⟨c, hc, hcb, hidx⟩ := Dec.idx_run s i hlt (i : Int) rfl
      have Hc := Lib.hid hc
      clear hc
      by_cases h32 : (c : Int) < 32
      · have hbad := Lib.hid (prB_no (s := s) (fun h => by have := h i hlt; rw [← Hc.out] at this; unfold pr at this; omega))
        go_wp2_with fail
        go_ret
        exact ⟨ret_bool hbad.out.symm, rfl⟩
      · by_cases h126 : 126 < (c : Int)
        · have hbad := Lib.hid (prB_no (s := s) (fun h => by have := h i hlt; rw [← Hc.out] at this; unfold pr at this; omega))
          go_wp2_with fail
          go_ret
          exact ⟨ret_bool hbad.out.symm, rfl⟩
        · have Hn := Lib.hid (prs_succ hp.out (by rw [← Hc.out]; unfold pr; omega))
          go_wp2_with fail
          go_round
          case rel => exact ⟨i + 1, hlt, Hn.out, by go_num⟩
          case measure => simp [intOf]; omega
    · have hlt' : ¬ (i : Int) < s.size := by omega
      obtain rfl : i = s.size := by omega
      have hgood := Lib.hid (prB_yes hp.out)
      go_wp2_with fail
      go_ret
      exact ⟨ret_bool hgood.out.symm, rfl⟩
theorem ascii {s : ByteArray} (h : prs s s.size) : ∀ (j : Nat) b, s.data.toList[j]? = some b → b.toNat < 128 := by
  intro j b hj
  have hl := size_len s
  have hlt : j < s.size := by
    apply Nat.lt_of_not_le
    intro hc
    rw [List.getElem?_eq_none (by omega)] at hj
    cases hj
  have := h j hlt
  unfold pr Dec.byt at this
  rw [List.getD_eq_getElem?_getD, hj] at this
  simp only [Option.getD_some] at this
  omega
/-- the table of white space stands -/
def Asc (w : World) : Prop := Lib.TabIs Tryd.prog w "strings.asciiSpace" .u8 Lib.asciiSpaceTab
theorem asc_below {w w' : World} (h : Asc w) (hb : Below w.heap.size w w') : Asc w' := Lib.tabBelow_of_tabIs h w' hb
theorem clone_any (s : ByteArray) (h : s.size ≤ 1048576) (w : World) : Calls Tryd.prog 28 #[.string s] w fun e w' => e = .returned (.string s) ∧ Below w.heap.size w w' := by
  have c1 := fun w => Tryd.stringslite_Clone s w (by omega)
  go_enter Tryd.func28, Tryd.ntmps28
  go_wp2_with fail
  refine (c1 _).mono ?_
  rintro e w1 ⟨rfl, hb⟩
  have Hb := Lib.hid hb
  clear hb c1
  go_wp2_with fail
  go_ret
  exact ⟨rfl, Hb.out⟩
theorem own_keep {base : Nat} {w w' : World} {v : Value} {xs : List ByteArray} (h : Own base w v xs) (hb : Below w.heap.size w w') : Own base w' v xs := by
  refine ⟨h.1, ?_⟩
  rcases h.2 with hn | ⟨g, cap, cur, rfl, hbg, hg, rest⟩
  · exact .inl hn
  · exact .inr ⟨g, cap, cur, rfl, hbg, (hb.block g (lt_of_block hg)).trans hg, rest⟩
theorem lens : ∀ (l cur : List UInt8) (f : List UInt8), f ∈ Lib.fieldsGo cur l → f.length ≤ cur.length + l.length := by
  intro l
  induction l with
  | nil =>
    intro cur f hf
    unfold Lib.fieldsGo at hf
    split at hf
    · cases hf
    · obtain rfl := List.mem_singleton.1 hf; simp
  | cons b l ih =>
    intro cur f hf
    unfold Lib.fieldsGo at hf
    split at hf
    · split at hf
      · have := ih [] f hf; simp at this ⊢; omega
      · rcases List.mem_cons.1 hf with rfl | hf
        · simp
        · have := ih [] f hf; simp at this ⊢; omega
    · have := ih (cur ++ [b]) f hf; simp at this ⊢; omega
theorem fld_small {s : ByteArray} {j : Nat} (h : j < (fldS s).length) : ((fldS s)[j]).size ≤ s.size := by
  have hl := size_len s
  unfold fldS at h ⊢
  rw [List.getElem_map]
  rw [List.length_map] at h
  have := lens s.data.toList [] ((Lib.fields s.data.toList)[j]) (List.getElem_mem h)
  show ((Lib.fields s.data.toList)[j]).toArray.size ≤ s.size
  rw [List.size_toArray]
  simp at this
  omega
theorem fld_count : ∀ (l cur : List UInt8), (Lib.fieldsGo cur l).length ≤ l.length + 1 := by
  intro l
  induction l with
  | nil => intro cur; unfold Lib.fieldsGo; split <;> simp
  | cons b l ih =>
    intro cur
    unfold Lib.fieldsGo
    split
    · split
      · have := ih []; simp; omega
      · have := ih []; simp; omega
    · have := ih (cur ++ [b]); simp; omega
set_option maxRecDepth 20000 in
set_option maxHeartbeats 1600000 in
theorem impl_any (s : ByteArray) (hm : s.size ≤ 1048576) (w : World) (hasc : Asc w) : Calls Tryd.prog 23 #[.string s] w (Spl s w) := by
  have Ha := Lib.hid hasc
  clear hasc
  have hnil : Own w.heap.size w (.slice none 0 0) [] := ⟨rfl, .inl ⟨rfl, rfl⟩⟩
  have Hnil := Lib.hid hnil
  clear hnil
  by_cases h600 : s.size ≤ 600
  · have e1 : ¬ (600 : Int) < s.size := by omega
    have c1 := fun w => printable_any s hm w
    by_cases hp : prs s s.size
    · rw [prB_yes hp] at c1
      have c2 := fun w h => Tryd.strings_Fields s w (by omega) (ascii hp) h
      have hcnt : (Lib.fields s.data.toList).length ≤ s.size + 1 := by have := fld_count s.data.toList []; rw [size_len] at this; exact this
      have hfl : (fldS s).length = (Lib.fields s.data.toList).length := List.length_map ..
      have hcells : ((Lib.fields s.data.toList).map fun l => Value.string ⟨l.toArray⟩) = strV (fldS s) := by unfold strV fldS; rw [List.map_map]; rfl
      rw [hcells] at c2
      rw [← hfl] at c2 hcnt
      have Hp := Lib.hid hp
      obtain ⟨F, hF⟩ : ∃ F, F = fldS s := ⟨_, rfl⟩
      have hsm : ∀ (j : Nat) (h : j < F.length), (F[j]).size ≤ s.size := by intro j h; subst hF; exact fld_small h
      rw [← hF] at c2 hcnt
      obtain ⟨n, hn⟩ : ∃ n, n = F.length := ⟨_, rfl⟩
      rw [← hn] at c2 hcnt
      have HF := Lib.hid (And.intro hF hn)
      have Hsm := Lib.hid hsm
      clear hp hcells hfl hF hn hsm
      by_cases h24 : n ≤ 24
      · have h24' : ¬ (24 : Int) < n := by omega
        have hgood := Lib.hid (okF_yes h600 Hp.out (by rw [← HF.out.1, ← HF.out.2]; exact h24))
        go_enter Tryd.func23, Tryd.ntmps23
        go_wp2_with fail
        refine (c1 _).mono ?_
        rintro e w1 ⟨rfl, hw1⟩
        subst w1
        go_wp2_with fail
        refine (c2 _ Ha.out).mono ?_
        rintro e w1 ⟨rfl, hw1⟩
        obtain ⟨g, hg⟩ : ∃ g, g = w.heap.size := ⟨_, rfl⟩
        rw [← hg]
        have H1 := Lib.hid (show w1.ownsRow w.heap.size 9 1 (.slice (some ⟨g, 0, none⟩) n n) n (strV F) ∧ Below w.heap.size w w1 from ⟨by
          rw [hw1, hg]
          have := World.ownsRow_lit (base := w.heap.size) (e := 9) (size := 1) w (strV F).toArray n (Nat.le_refl _) (by unfold maxLen; omega) (by rw [List.size_toArray, strV_len, Nat.mul_one]; exact HF.out.2.symm)
          exact this, by rw [hw1]; exact (Below.refl _ _).alloc (Nat.le_refl _) _⟩)
        have Hg := Lib.hid hg
        clear hw1 hg
        go_wp2_with fail
        go_loopw [22] (fun iv wr => ∃ i : Nat, i ≤ n ∧ iv = .int .i64 (i : Int) ∧ wr.ownsRow w.heap.size 9 1 (.slice (some ⟨g, 0, none⟩) n n) n (strV F) ∧ Below w.heap.size w wr) (fun iv _ => n - (intOf iv).toNat)
        case atStart => exact ⟨0, Nat.zero_le _, rfl, H1.out.1, H1.out.2⟩
        case round =>
          obtain ⟨i, hi, rfl, hown, hbel⟩ := hrel
          by_cases hin : i < n
          · have hin' : (i : Int) < n := by omega
            have hiF : i < F.length := by rw [← HF.out.2]; exact hin
            have hcl : wr.cell? ⟨g, i, none⟩ = some (.string F[i]) := by
              rw [hown.cellAt i (by omega)]
              unfold strV
              rw [List.getElem?_map, List.getElem?_eq_getElem hiF]
              rfl
            have c3 := fun w => clone_any F[i] (by have := Hsm.out i hiF; omega) w
            have Hset := Lib.hid (show (strV F).set i (.string F[i]) = strV F by
              unfold strV
              rw [← List.map_set, List.set_getElem_self])
            generalize F[i] = x at *
            have Hr := Lib.hid (And.intro hown hbel)
            clear hown hbel
            go_wp2_with fail
            refine (c3 _).mono ?_
            rintro e w2 ⟨rfl, hb2⟩
            have hown2 : Own w.heap.size w2 (.slice (some ⟨g, 0, none⟩) n n) F := own_keep (by unfold Own; rw [← HF.out.2]; exact Hr.out.1) hb2
            unfold Own at hown2
            rw [← HF.out.2] at hown2
            have hfz := hown2.frozenAt i
            have hst := hown2.stored i (.string x)
            have hlt := hown2.lt g rfl
            have hcl2 : w2.cell? ⟨g, i, none⟩ = some (.string x) := by
              rw [← hcl]
              exact hb2.cell (p := ⟨g, i, none⟩) (Hr.out.1.lt g rfl).2
            have H3 := Lib.hid (show (w2.setCell ⟨g, i, none⟩ (.string x)).ownsRow w.heap.size 9 1 (.slice (some ⟨g, 0, none⟩) n n) n (strV F) ∧ Below w.heap.size w (w2.setCell ⟨g, i, none⟩ (.string x)) from ⟨by
              have := hst.1
              rw [Hset.out] at this
              exact this, (Hr.out.2.trans (hb2.mono Hr.out.2.size)).setCell hlt.1 _⟩)
            clear hb2 hown2 hst hlt hcl
            go_wp2_with fail
            go_roundw
            case rel => exact ⟨i + 1, hin, by go_num, H3.out.1, H3.out.2⟩
            case measure => simp [intOf]; omega
          · have hin' : ¬ (i : Int) < n := by omega
            have Hr := Lib.hid (And.intro hown hbel)
            clear hown hbel
            go_wp2_with fail
            go_ret2
            exact spl_mk (xs := F) ⟨hgood.out.1, by rw [hgood.out.2, HF.out.1]⟩ (by unfold Own; rw [← HF.out.2]; exact Hr.out.1) Hr.out.2
      · have h24' : (24 : Int) < n := by omega
        have hbad := Lib.hid (okF_no (s := s) (fun h => h24 (by rw [HF.out.2, HF.out.1]; exact h.2.2)))
        go_enter Tryd.func23, Tryd.ntmps23
        go_wp2_with fail
        refine (c1 _).mono ?_
        rintro e w1 ⟨rfl, hw1⟩
        subst w1
        go_wp2_with fail
        refine (c2 _ Ha.out).mono ?_
        rintro e w1 ⟨rfl, hw1⟩
        have H1 := Lib.hid (show Below w.heap.size w w1 by rw [hw1]; exact (Below.refl _ _).alloc (Nat.le_refl _) _)
        clear hw1
        go_wp2_with fail
        go_ret2
        exact spl_mk hbad.out ⟨rfl, .inl ⟨rfl, rfl⟩⟩ H1.out
    · rw [prB_no hp] at c1
      have hbad := Lib.hid (okF_no (s := s) (fun h => hp h.2.1))
      clear hp
      go_enter Tryd.func23, Tryd.ntmps23
      go_wp2_with fail
      refine (c1 _).mono ?_
      rintro e w1 ⟨rfl, hw1⟩
      subst w1
      go_wp2_with fail
      go_ret2
      exact spl_mk hbad.out Hnil.out (Below.refl _ _)
  · have e1 : (600 : Int) < s.size := by omega
    have hbad := Lib.hid (okF_no (s := s) (fun h => h600 h.1))
    go_enter Tryd.func23, Tryd.ntmps23
    go_wp2_with fail
    go_ret2
    exact spl_mk hbad.out Hnil.out (Below.refl _ _)
end Go.Proofs.YtjkhbjdhfklnaabDoor.Fld
