/- The program's ParseSingle: the parts that it calls. -/
import Derived.Test.YtlngplohnknhjaaGreatDoorKSngF
import Derived.Test.YtlngplohnknhjaaGreatDoorKParseI
import Derived.Lib.IndexLaws
import Derived.Lib.IndexBytes
import Derived.WalkSpells
import Derived.Deep.QuietTactic
import Derived.BigQuiet
namespace Go.Proofs.YtlngplohnknhjaaGreatDoor.Sng
open Go.ChangeShapes Go.WideShapes Go.ChangeAt Go.RowKit Go.Proofs.YtlngplohnknhjaaGreatDoor Go.Proofs.YtlngplohnknhjaaGreatDoor.Flt Go.Proofs.YtlngplohnknhjaaGreatDoor.Mth
set_option linter.unusedVariables false
set_option maxRecDepth 20000 in
theorem inf_any (w : World) : Calls Tryz.prog 134 #[.int .i64 1] w fun e w' => e = .returned (.float .f64 9218868437227405312) ∧ w' = w := by
  have hc : ∀ w, (callFunc 121 #[.int .u64 9218868437227405312]).run Tryz.prog w = .ok (.value (.float .f64 9218868437227405312)) w := fun w => run_frombits 9218868437227405312 w
  go_enter Tryz.func134, Tryz.ntmps134
  go_wp2
  go_ret
  exact ⟨rfl, rfl⟩
set_option maxRecDepth 20000 in
theorem nan_any (w : World) : Calls Tryz.prog 132 #[] w fun e w' => e = .returned (.float .f64 9221120237041090561) ∧ w' = w := by
  have hc : ∀ w, (callFunc 121 #[.int .u64 9221120237041090561]).run Tryz.prog w = .ok (.value (.float .f64 9221120237041090561)) w := fun w => run_frombits 9221120237041090561 w
  go_enter Tryz.func132, Tryz.ntmps132
  go_wp2
  go_ret
  exact ⟨rfl, rfl⟩
theorem run_narrow_nan {P : Program} (src dst : TypeId) (b : Nat) (hs' : (P.underlying src).isSome = true) (hd' : P.underlying dst = some (.float .f32)) (h : isNaN Ieee.double b = true) (w : World) :
    ∃ r, isNaN Ieee.single r = true ∧ r < 4294967296 ∧ (convert src dst (.float .f64 b)).run P w = .ok (.float .f32 r) w.drew := by
  refine ⟨nan32 (w.tape w.drawn (.nanConv .f32 b)), (nan32_isNaN _).1, by have := (nan32_isNaN (w.tape w.drawn (.nanConv .f32 b))).2; rw [width_single] at this; exact this, ?_⟩
  obtain ⟨u, hs''⟩ := Option.isSome_iff_exists.1 hs'
  unfold isNaN at h
  have h := of_decide_eq_true h
  have hdec : ∃ s t, FloatKind.f64.decode b = .nan s t := by
    rcases reads Ieee.double hd b with ⟨m, e, hr, _, _⟩ | ⟨hr, _⟩ | ⟨t, hr, h'⟩
    · omega
    · omega
    · exact ⟨_, _, h'⟩
  obtain ⟨s, t, he⟩ := hdec
  cases u <;> simp [convert, run_underlying hs'', run_underlying hd', Conv.floatToFloat, he, Question.forced, Question.cut, nan32]
/-- what Cut at a p gives -/
def CutOut (s : ByteArray) (w : World) (e : Ending) (w' : World) : Prop :=
  (∃ (a b : ByteArray) (f : Bool), e = .returned (.tuple #[.string a, .string b, .bool f]) ∧
    ((f = true ∧ s.data.toList = a.data.toList ++ 112 :: b.data.toList ∧ ∀ x ∈ a.data.toList, x ≠ 112) ∨ (f = false ∧ ∀ x ∈ s.data.toList, x ≠ 112))) ∧ ∃ n, w' = w.drewN n
theorem mem_ne {l : List UInt8} (h : ∀ k : Nat, l[k]? ≠ some 112) : ∀ x ∈ l, x ≠ 112 := by
  intro x hx e
  subst e
  obtain ⟨k, hk⟩ := List.getElem?_of_mem hx
  exact h k hk
theorem cut_none {s : ByteArray} (h : Lib.indexByte s.data.toList 112 = -1) : ∀ x ∈ s.data.toList, x ≠ 112 := mem_ne (Lib.indexByte_none h)
theorem cut_some {s : ByteArray} {o : Nat} (h : Lib.indexByte s.data.toList 112 = (o : Int)) :
    o < s.size ∧ s.data.toList = (s.extract 0 o).data.toList ++ 112 :: (s.extract (o + 1) s.size).data.toList ∧ ∀ x ∈ (s.extract 0 o).data.toList, x ≠ 112 := by
  obtain ⟨h1, h2⟩ := Lib.indexByte_some h
  have hlt : o < s.data.toList.length := by
    apply Nat.lt_of_not_le
    intro hc
    rw [List.getElem?_eq_none hc] at h1
    cases h1
  have hl : s.data.toList.length = s.size := Array.length_toList
  refine ⟨by omega, ?_, ?_⟩
  · rw [Lib.extract_data, Lib.extract_to_end, List.drop_zero, Nat.sub_zero]
    have h3 : s.data.toList.drop o = 112 :: s.data.toList.drop (o + 1) := by
      rw [List.drop_eq_getElem_cons hlt]
      congr 1
      rw [List.getElem?_eq_getElem hlt] at h1
      exact Option.some.inj h1
    rw [← h3, List.take_append_drop]
  · rw [Lib.extract_data, List.drop_zero, Nat.sub_zero]
    intro x hx e
    subst e
    obtain ⟨k, hk⟩ := List.getElem?_of_mem hx
    rw [List.getElem?_take] at hk
    split at hk
    · exact h2 k (by assumption) hk
    · cases hk
set_option maxRecDepth 20000 in
set_option maxHeartbeats 800000 in
theorem lite_cut (s : ByteArray) (hm : s.size ≤ maxLen) (w : World) : Calls Tryz.prog 151 #[.string s, .string ⟨#[112]⟩] w (CutOut s w) := by
  unfold maxLen at hm
  have c1 := fun w => Tryz.stringslite_Index_one s 112 w
  rcases Int.lt_or_le (Lib.indexByte s.data.toList 112) 0 with h | h
  · have hi : Lib.indexByte s.data.toList 112 = -1 := by have := Lib.indexByte_ge s.data.toList 112; omega
    have Hn := Lib.hid (cut_none hi)
    rw [hi] at c1
    clear h hi
    go_enter Tryz.func151, Tryz.ntmps151
    go_wp2_with fail
    refine (c1 _).mono ?_
    rintro e w1 ⟨rfl, hw1⟩
    subst w1
    go_wp2_with fail
    go_ret3
    exact ⟨⟨s, ⟨#[]⟩, false, rfl, .inr ⟨rfl, Hn.out⟩⟩, 0, rfl⟩
  · obtain ⟨o, ho⟩ := Int.eq_ofNat_of_zero_le h
    have Hs := Lib.hid (cut_some ho)
    have hos := Hs.out.1
    rw [ho] at c1
    clear h ho
    have h1 : (0 : Int) ≤ o := by omega
    have h2 : (o : Int) ≤ s.size := by omega
    have h3 : (o : Int) + 1 ≤ s.size := by omega
    have h4 : IntKind.i64.wrap ((o : Int) + 1) = (o : Int) + 1 := by rw [IntKind.wrap_i64]; omega
    have h5 : (0 : Int) ≤ (o : Int) + 1 := by omega
    have h6 : ((o : Int) + 1).toNat = o + 1 := by omega
    go_enter Tryz.func151, Tryz.ntmps151
    go_wp2_with fail
    refine (c1 _).mono ?_
    rintro e w1 ⟨rfl, hw1⟩
    subst w1
    go_wp2_with fail
    go_quiet (fail)
    clear h4 h6
    go_wp2_with fail
    go_ret3
    exact ⟨⟨_, _, true, rfl, .inl ⟨rfl, Hs.out.2.1, Hs.out.2.2⟩⟩, _, rfl⟩
theorem cut_any (s : ByteArray) (hm : s.size ≤ maxLen) (w : World) : Calls Tryz.prog 135 #[.string s, .string ⟨#[112]⟩] w (CutOut s w) := by
  have c1 := fun w => lite_cut s hm w
  clear hm
  go_enter Tryz.func135, Tryz.ntmps135
  go_wp2_with fail
  refine (c1 _).mono ?_
  rintro e w1 ⟨⟨a, b, f, rfl, hf⟩, n, hw1⟩
  have Hf := Lib.hid hf
  have Hw := Lib.hid hw1
  clear hf hw1
  go_wp2_with fail
  go_ret3
  exact ⟨⟨a, b, f, rfl, Hf.out⟩, n, Hw.out⟩
/-- what readExponent gives -/
def Rex (s : ByteArray) (w : World) (e : Ending) (w' : World) : Prop :=
  ∃ (v : Int) (ok : Bool), e = .returned (.tuple #[.int .i64 v, .bool ok]) ∧ (∀ t : Int, -1000 ≤ t → t ≤ 1000 → s.data.toList = Lib.itoa t → v = t ∧ ok = true) ∧ -1000000000 ≤ v ∧ v ≤ 1000000000 ∧ Below w.heap.size w w'
theorem out_dec {u : Nat} (h : u ≤ 1000000000) : Pu.out (Lib.decDigits u) = (u, true) := by
  have hg := Pu.good_of (l := Lib.decDigits u) (u := u) rfl h
  rw [Pu.out_good hg.1, hg.2]
theorem out_le (l : List UInt8) : (Pu.out l).1 ≤ 1000000000 := by
  by_cases h : Pu.Good l
  · rw [Pu.out_good h]; exact h.2
  · rw [Pu.out_bad h]; omega
theorem prefix_minus (l : List UInt8) : (Lib.hasPrefix l [45] = true ∧ Lib.trimPrefix l [45] = l.drop 1 ∧ l = 45 :: l.drop 1) ∨ (Lib.hasPrefix l [45] = false ∧ Lib.trimPrefix l [45] = l ∧ ∀ r, l ≠ 45 :: r) := by
  cases l with
  | nil => exact .inr ⟨rfl, rfl, fun r h => by cases h⟩
  | cons c r =>
    by_cases hc : c = 45
    · subst hc
      exact .inl ⟨by simp [Lib.hasPrefix], by simp [Lib.trimPrefix, Lib.hasPrefix], rfl⟩
    · have hp : Lib.hasPrefix (c :: r) [45] = false := by
        show ((45 : UInt8) == c && [].isPrefixOf r) = false
        rw [beq_eq_false_iff_ne.2 (Ne.symm hc)]
        rfl
      refine .inr ⟨hp, by unfold Lib.trimPrefix; rw [hp]; rfl, fun r h => hc ?_⟩
      injection h
set_option maxRecDepth 20000 in
set_option maxHeartbeats 800000 in
theorem exponent_any (s : ByteArray) (w : World) (htab : Door.Tab w) : Calls Tryz.prog 137 #[.string s] w (Rex s w) := by
  have Ht := Lib.hid htab
  clear htab
  have c1 := fun w => Tryz.strings_CutPrefix s ⟨#[45]⟩ w
  rcases prefix_minus s.data.toList with ⟨h1, h2, h3⟩ | ⟨h1, h2, h3⟩
  · rw [show (⟨#[45]⟩ : ByteArray).data.toList = [45] from rfl, h1, h2] at c1
    obtain ⟨d, hd⟩ : ∃ d : ByteArray, d = ⟨(s.data.toList.drop 1).toArray⟩ := ⟨_, rfl⟩
    rw [← hd] at c1
    have hdl : d.data.toList = s.data.toList.drop 1 := by rw [hd]
    have hle := out_le d.data.toList
    have Hx := Lib.hid (show ∀ t : Int, -1000 ≤ t → t ≤ 1000 → s.data.toList = Lib.itoa t → -((Pu.out d.data.toList).1 : Int) = t ∧ (Pu.out d.data.toList).2 = true from fun t t0 t1 ht => by
      by_cases hn : t < 0
      · rw [itoa_neg' hn] at ht
        rw [hdl, ht, List.drop_one, List.tail_cons, out_dec (by omega)]
        exact ⟨by show -(((-t).toNat : Nat) : Int) = t; omega, rfl⟩
      · rw [itoa_pos' (by omega)] at ht
        rw [ht] at h3
        exact absurd h3 (dec_no_minus _ _))
    have c2 := fun w h => Pu.impl_any d w h
    unfold Pu.Res at c2
    generalize (Pu.out d.data.toList).1 = v at *
    generalize (Pu.out d.data.toList).2 = ok at *
    clear h1 h2 h3 hd hdl
    go_enter Tryz.func137, Tryz.ntmps137
    go_wp2_with fail
    refine (c1 _).mono ?_
    rintro e w1 ⟨rfl, hw1⟩
    subst w1
    go_wp2_with fail
    refine (c2 _ Ht.out).mono ?_
    rintro e w2 ⟨rfl, hb2⟩
    have Hb2 := Lib.hid hb2
    clear hb2
    go_wp2_with fail
    go_ret2
    exact ⟨_, ok, rfl, Hx.out, by omega, by omega, Hb2.out⟩
  · rw [show (⟨#[45]⟩ : ByteArray).data.toList = [45] from rfl, h1, h2] at c1
    have hds : (⟨s.data.toList.toArray⟩ : ByteArray) = s := rfl
    rw [hds] at c1
    have hle := out_le s.data.toList
    have Hx := Lib.hid (show ∀ t : Int, -1000 ≤ t → t ≤ 1000 → s.data.toList = Lib.itoa t → ((Pu.out s.data.toList).1 : Int) = t ∧ (Pu.out s.data.toList).2 = true from fun t t0 t1 ht => by
      by_cases hn : t < 0
      · rw [itoa_neg' hn] at ht
        exact absurd ht (h3 _)
      · rw [itoa_pos' (by omega)] at ht
        rw [ht, out_dec (by omega)]
        exact ⟨by show ((t.toNat : Nat) : Int) = t; omega, rfl⟩)
    have c2 := fun w h => Pu.impl_any s w h
    unfold Pu.Res at c2
    generalize (Pu.out s.data.toList).1 = v at *
    generalize (Pu.out s.data.toList).2 = ok at *
    clear h1 h2 h3 hds
    go_enter Tryz.func137, Tryz.ntmps137
    go_wp2_with fail
    refine (c1 _).mono ?_
    rintro e w1 ⟨rfl, hw1⟩
    subst w1
    go_wp2_with fail
    refine (c2 _ Ht.out).mono ?_
    rintro e w2 ⟨rfl, hb2⟩
    have Hb2 := Lib.hid hb2
    clear hb2
    go_wp2_with fail
    go_ret2
    exact ⟨_, ok, rfl, Hx.out, by omega, by omega, Hb2.out⟩
end Go.Proofs.YtlngplohnknhjaaGreatDoor.Sng
