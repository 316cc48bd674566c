/- Plain facts: fields, each with a space behind it, have the same fields; and the laws' sameTexts. -/
import Derived.Test.YtgfeahammmfdaaaDoorStrM
namespace Go.Proofs.YtgfeahammmfdaaaDoor.Fld
open Go.ChangeShapes Go.WideShapes Go.ChangeAt Go.RowKit Go.Proofs.YtgfeahammmfdaaaDoor
set_option linter.unusedVariables false
def joinL (F : List (List UInt8)) : List UInt8 := F.flatMap fun f => f ++ [32]
theorem go_run : ∀ (f cur l : List UInt8), (∀ b ∈ f, Lib.isSp b = false) → Lib.fieldsGo cur (f ++ l) = Lib.fieldsGo (cur ++ f) l := by
  intro f
  induction f with
  | nil => intro cur l _; simp
  | cons b f ih =>
    intro cur l h
    rw [List.cons_append, Lib.fieldsGo_more _ _ _ (h b (List.mem_cons_self ..)), ih _ _ (fun c hc => h c (List.mem_cons_of_mem _ hc)), List.append_assoc]
    rfl
theorem go_join : ∀ (F : List (List UInt8)), (∀ f ∈ F, f ≠ [] ∧ ∀ b ∈ f, Lib.isSp b = false) → Lib.fieldsGo [] (joinL F) = F := by
  intro F
  induction F with
  | nil => intro _; rfl
  | cons f F ih =>
    intro h
    have hf := h f (List.mem_cons_self ..)
    show Lib.fieldsGo [] ((f ++ [32]) ++ joinL F) = _
    rw [List.append_assoc, go_run _ _ _ hf.2, List.nil_append]
    show Lib.fieldsGo f (32 :: joinL F) = _
    rw [Lib.fieldsGo_end _ _ _ (by decide) hf.1, ih (fun g hg => h g (List.mem_cons_of_mem _ hg))]
theorem go_parts : ∀ (l cur : List UInt8), (∀ b ∈ cur, Lib.isSp b = false) → ∀ f ∈ Lib.fieldsGo cur l, f ≠ [] ∧ (∀ b ∈ f, Lib.isSp b = false) ∧ ∀ b ∈ f, b ∈ cur ∨ b ∈ l := by
  intro l
  induction l with
  | nil =>
    intro cur hc f hf
    unfold Lib.fieldsGo at hf
    split at hf
    · cases hf
    · obtain rfl := List.mem_singleton.1 hf
      exact ⟨fun e => by subst e; simp at *, hc, fun b hb => .inl hb⟩
  | cons c l ih =>
    intro cur hc f hf
    unfold Lib.fieldsGo at hf
    split at hf
    · split at hf
      · have := ih [] (fun b hb => by cases hb) f hf
        exact ⟨this.1, this.2.1, fun b hb => by rcases this.2.2 b hb with h | h; cases h; exact .inr (List.mem_cons_of_mem _ h)⟩
      · rcases List.mem_cons.1 hf with rfl | hf
        · exact ⟨fun e => by subst e; simp at *, hc, fun b hb => .inl hb⟩
        · have := ih [] (fun b hb => by cases hb) f hf
          exact ⟨this.1, this.2.1, fun b hb => by rcases this.2.2 b hb with h | h; cases h; exact .inr (List.mem_cons_of_mem _ h)⟩
    · rename_i hs
      have := ih (cur ++ [c]) (fun b hb => by
        rcases List.mem_append.1 hb with h | h
        · exact hc b h
        · obtain rfl := List.mem_singleton.1 h; simpa using hs) f hf
      refine ⟨this.1, this.2.1, fun b hb => ?_⟩
      rcases this.2.2 b hb with h | h
      · rcases List.mem_append.1 h with h | h
        · exact .inl h
        · obtain rfl := List.mem_singleton.1 h; exact .inr (List.mem_cons_self ..)
      · exact .inr (List.mem_cons_of_mem _ h)
theorem prs_mem {s : ByteArray} : prs s s.size ↔ ∀ b ∈ s.data.toList, pr b.toNat := by
  have hl := size_len s
  constructor
  · intro h b hb
    obtain ⟨j, hj⟩ := List.getElem?_of_mem hb
    have hlt : j < s.size := by
      apply Nat.lt_of_not_le
      intro hc
      rw [List.getElem?_eq_none (by omega)] at hj
      cases hj
    have := h j hlt
    unfold Dec.byt at this
    rw [List.getD_eq_getElem?_getD, hj] at this
    exact this
  · intro h j hj
    unfold Dec.byt
    rw [List.getD_eq_getElem?_getD, List.getElem?_eq_getElem (show j < s.data.toList.length by omega)]
    exact h _ (List.getElem_mem _)
/-- texts, each with a space behind it -/
def joinB (F : List ByteArray) : ByteArray := ⟨(joinL (F.map fun f => f.data.toList)).toArray⟩
theorem joinB_data (F : List ByteArray) : (joinB F).data.toList = joinL (F.map fun f => f.data.toList) := rfl
theorem joinB_snoc (F : List ByteArray) (x : ByteArray) : joinB (F ++ [x]) = joinB F ++ x ++ ⟨#[32]⟩ := by
  apply ByteArray.ext
  apply Array.toList_inj.1
  rw [joinB_data, ByteArray.data_append, Array.toList_append, ByteArray.data_append, Array.toList_append, joinB_data]
  unfold joinL
  simp [List.flatMap_append]
theorem fldS_lists (s : ByteArray) : ((fldS s).map fun f => f.data.toList) = Lib.fields s.data.toList := by
  unfold fldS
  rw [List.map_map]
  conv => rhs; rw [← List.map_id (Lib.fields s.data.toList)]
  rfl
/-- what is joined has the fields that it was joined of -/
theorem join_fields {s : ByteArray} (h : okF s = true) : fldS (joinB (resF s)) = resF s ∧ ((joinB (resF s)).size ≤ 600 → okF (joinB (resF s)) = true ∧ resF (joinB (resF s)) = resF s) := by
  have hk : s.size ≤ 600 ∧ prs s s.size ∧ (fldS s).length ≤ 24 := by
    apply Classical.byContradiction
    intro hn
    rw [(okF_no hn).1] at h
    cases h
  rw [(okF_yes hk.1 hk.2.1 hk.2.2).2]
  have hp := go_parts s.data.toList [] (fun b hb => by cases hb)
  have hj : fldS (joinB (fldS s)) = fldS s := by
    unfold fldS
    rw [joinB_data, show ((List.map (fun l => (⟨l.toArray⟩ : ByteArray)) (Lib.fields s.data.toList)).map fun f => f.data.toList) = Lib.fields s.data.toList from fldS_lists s]
    congr 1
    exact go_join _ (fun f hf => ⟨(hp f hf).1, (hp f hf).2.1⟩)
  refine ⟨hj, fun h600 => ?_⟩
  have hy := okF_yes (s := joinB (fldS s)) h600 (prs_mem.2 fun b hb => by
    rw [joinB_data, fldS_lists] at hb
    unfold joinL at hb
    obtain ⟨f, hf, hbf⟩ := List.mem_flatMap.1 hb
    rcases List.mem_append.1 hbf with h | h
    · rcases (hp f hf).2.2 b h with h | h
      · cases h
      · exact prs_mem.1 hk.2.1 b h
    · obtain rfl := List.mem_singleton.1 h
      unfold pr; decide) (by rw [hj]; exact hk.2.2)
  exact ⟨hy.1, hy.2.trans hj⟩
theorem res_size {s : ByteArray} {j : Nat} (h : j < (resF s).length) : ((resF s)[j]).size ≤ s.size := by
  by_cases hk : s.size ≤ 600 ∧ prs s s.size ∧ (fldS s).length ≤ 24
  · have e := (okF_yes hk.1 hk.2.1 hk.2.2).2
    simp only [e] at h ⊢
    exact fld_small h
  · have e := (okF_no hk).2
    rw [e] at h
    exact absurd h (Nat.not_lt_zero j)
set_option maxRecDepth 20000 in
set_option maxHeartbeats 800000 in
theorem sameT_any {b1 b2 : Nat} {v v' : Value} {xs : List ByteArray} (w : World) (h1 : Own b1 w v xs) (h2 : Own b2 w v' xs) (hn : xs.length ≤ 1000000) :
    Calls Tryd.prog 27 #[v, v'] w fun e w' => e = .returned (.bool true) ∧ Below w.heap.size w w' := by
  rcases own_cases h1 with ⟨rfl, rfl⟩ | ⟨g, cap, rfl, _, hg, hc⟩
  · rcases own_cases h2 with ⟨rfl, _⟩ | ⟨g', cap', rfl, _⟩
    · go_enter Tryd.func27, Tryd.ntmps27
      go_wp2_with fail
      go_rounds 1
      go_ret
      exact ⟨rfl, Below.refl _ _⟩
    · show Calls _ _ #[_, .slice _ 0 _] _ _
      go_enter Tryd.func27, Tryd.ntmps27
      go_wp2_with fail
      go_rounds 1
      go_ret
      exact ⟨rfl, Below.refl _ _⟩
  · rcases own_cases h2 with ⟨rfl, rfl⟩ | ⟨g', cap', rfl, _, hg', hc'⟩
    · show Calls _ _ #[.slice _ 0 _, _] _ _
      go_enter Tryd.func27, Tryd.ntmps27
      go_wp2_with fail
      go_rounds 1
      go_ret
      exact ⟨rfl, Below.refl _ _⟩
    · obtain ⟨n, hnn⟩ : ∃ n, n = xs.length := ⟨_, rfl⟩
      rw [← hnn] at hn ⊢
      have Hc := Lib.hid (And.intro hc hc')
      have Hn := Lib.hid hnn
      clear hc hc' hnn h1 h2
      go_enter Tryd.func27, Tryd.ntmps27
      go_wp2_with fail
      go_loopw [5] (fun iv wr => ∃ i m : Nat, i ≤ n ∧ iv = .int .i64 (i : Int) ∧ wr = w.drewN m) (fun iv _ => n - (intOf iv).toNat)
      case atStart => exact ⟨0, 0, Nat.zero_le _, rfl, rfl⟩
      case round =>
        obtain ⟨i, m, hi, rfl, hwr⟩ := hrel
        subst hwr
        by_cases hin : i < n
        · have hin' : (i : Int) < n := by omega
          have i1 : (0 : Int) ≤ i := by omega
          have hix : i < xs.length := by rw [← Hn.out]; exact hin
          have q1 := Hc.out.1 i hix
          have q2 := Hc.out.2 i hix
          generalize xs[i] = x at *
          have e1 : (x.toList == x.toList) = true := beq_self_eq_true _
          have e2 : (x.toList != x.toList) = false := by rw [bne, e1]; rfl
          go_wp2_with fail
          go_quiet (fail)
          go_wp2_with fail
          go_roundw
          case rel => exact ⟨i + 1, _, hin, by go_num, rfl⟩
          case measure => simp [intOf]; omega
        · have hin' : ¬ (i : Int) < n := by omega
          go_wp2_with fail
          go_ret
          exact ⟨rfl, ⟨rfl, rfl, rfl, Nat.le_refl _, fun _ _ => rfl⟩⟩
end Go.Proofs.YtgfeahammmfdaaaDoor.Fld
