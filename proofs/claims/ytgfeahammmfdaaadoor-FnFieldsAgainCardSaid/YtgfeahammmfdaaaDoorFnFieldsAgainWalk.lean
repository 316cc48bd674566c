/- The walk of FnFieldsAgain: it returns true. -/
import Derived.Test.YtgfeahammmfdaaaDoorRows
import Derived.Test.YtgfeahammmfdaaaDoorFldP
import Derived.Test.YtgfeahammmfdaaaDoorFldT
import Derived.Test.YtgfeahammmfdaaaDoorDrawL
import Derived.Test.YtgfeahammmfdaaaDoorDoor
namespace Go.Proofs.YtgfeahammmfdaaaDoor.fnFieldsAgain
open Go.ChangeShapes Go.WideShapes Go.ChangeAt Go.RowKit Go.Proofs.YtgfeahammmfdaaaDoor Go.Proofs.YtgfeahammmfdaaaDoor.Fld
set_option linter.unusedVariables false
def Tabs (w : World) : Prop := Door.Tab w ∧ Asc w
theorem three_text : (⟨(Lib.itoa (-3)).toArray⟩ : ByteArray) = ⟨#[45, 51]⟩ := by
  rw [show (-3 : Int) = -((3 : Nat) : Int) from rfl, Lib.itoa_neg 3 (by omega), Lib.decDigits_one (by omega)]
  rfl
/-- what a line of this size gives: its fields, joined, have the same fields -/
theorem line_facts (s : ByteArray) (h : s.size ≤ 2000) : ∃ (ok : Bool) (R : List ByteArray),
    (∀ w, Calls Tryd.prog 21 #[.string s] w fun e w' => ∃ v, e = .returned (.tuple #[v, .bool ok]) ∧ Own w.heap.size w' v R ∧ Below w.heap.size w w') ∧
    (∀ w, Asc w → Calls Tryd.prog 22 #[.string s] w fun e w' => ∃ v, e = .returned (.tuple #[v, .bool ok]) ∧ Own w.heap.size w' v R ∧ Below w.heap.size w w') ∧
    R.length ≤ 24 ∧ (∀ j (hj : j < R.length), (R[j]).size ≤ 2000) ∧ (ok = false → R = []) ∧
    (ok = true → (joinB R).size ≤ 600 → okF (joinB R) = true ∧ resF (joinB R) = R) := by
  refine ⟨okF s, resF s, fun w => spec_any s (by omega) w, fun w hw => impl_any s (by omega) w hw, res_small s, fun j hj => ?_, fun hok => ?_, fun hok h6 => (join_fields hok).2 h6⟩
  · have := res_size hj; omega
  · unfold resF; rw [hok]; rfl
theorem join_size : ∀ (F : List ByteArray), (∀ f ∈ F, f.size ≤ 2000) → (joinB F).size ≤ 2001 * F.length := by
  intro F
  have key : ∀ F : List ByteArray, (∀ f ∈ F, f.size ≤ 2000) → (joinL (F.map fun f => f.data.toList)).length ≤ 2001 * F.length := by
    intro F
    induction F with
    | nil => intro _; exact Nat.le_refl _
    | cons f F ih =>
      intro h
      have h1 := h f (List.mem_cons_self ..)
      have h2 := ih (fun g hg => h g (List.mem_cons_of_mem _ hg))
      have e : (joinL ((f :: F).map fun f => f.data.toList)) = (f.data.toList ++ [32]) ++ joinL (F.map fun f => f.data.toList) := rfl
      rw [e, List.length_append, List.length_append, size_len, List.length_cons, List.length_nil, List.length_cons]
      omega
  intro h
  have := key F h
  show (joinL (F.map fun f => f.data.toList)).toArray.size ≤ _
  rw [List.size_toArray]
  exact this
/-- one field more -/
theorem join_more {R : List ByteArray} {i : Nat} (hi : i < R.length) (hR : R.length ≤ 24) (hs : ∀ j (hj : j < R.length), (R[j]).size ≤ 2000) :
    (∀ w, (Op.stringOp .add (joinB (R.take i)) R[i]).run Tryd.prog w = .ok (.string (joinB (R.take i) ++ R[i])) w) ∧
    (∀ w, (Op.stringOp .add (joinB (R.take i) ++ R[i]) ⟨#[32]⟩).run Tryd.prog w = .ok (.string (joinB (R.take (i + 1)))) w) := by
  have h1 := join_size (R.take i) (fun f hf => by
    obtain ⟨j, hj, rfl⟩ := List.getElem_of_mem (List.mem_of_mem_take hf)
    exact hs j hj)
  have h2 := hs i hi
  have hl : (R.take i).length ≤ 24 := by rw [List.length_take]; omega
  have s1 : (joinB (R.take i) ++ R[i]).size = (joinB (R.take i)).size + (R[i]).size := ByteArray.size_append
  have e : joinB (R.take (i + 1)) = joinB (R.take i) ++ R[i] ++ ⟨#[32]⟩ := by
    rw [List.take_succ_eq_append_getElem hi, joinB_snoc]
  refine ⟨fun w => run_string_add_sum (P := Tryd.prog) (w := w) _ _ (by omega), fun w => ?_⟩
  rw [e]
  exact run_string_add_sum (P := Tryd.prog) (w := w) _ _ (by rw [s1]; show _ + 1 ≤ _; omega)
set_option maxRecDepth 20000 in
set_option maxHeartbeats 1600000 in
theorem walk (a : Option Addr) (len cap : Nat) (zs : List Int) (w : World) (htab : Tabs w) (hr : IsRow .u8 w a len cap zs) :
    Calls Tryd.prog 7 #[.slice a len cap] w fun x w' => x = .returned (.bool true) ∧ Below w.heap.size w w' := by
  have Ht := Lib.hid htab
  clear htab
  by_cases hl : (len : Int) ≤ 1048576
  · go_enter Tryd.func7, Tryd.ntmps7
    go_wp2_with fail
    refine (Drw.big_no a len cap _ hl).mono ?_
    rintro e w' ⟨rfl, hw⟩
    subst w'
    go_wp2_with fail
    refine (Drw.line_any a len cap zs _ hr).mono ?_
    rintro e w1 ⟨s, hs, rfl, hb1⟩
    obtain ⟨ok, R, c1, c2, hR, hsz, hno, hyes⟩ := line_facts s hs
    have Hb1 := Lib.hid hb1
    have Ha1 := Lib.hid (show Asc w1 from asc_below Ht.out.2 hb1)
    have Hx := Lib.hid (And.intro hR (And.intro hsz (And.intro hno hyes)))
    clear hb1 hr hR hsz hno hyes
    go_wp2_with fail
    refine (c2 _ Ha1.out).mono ?_
    rintro e w2 ⟨p, rfl, ho2, hb2⟩
    have H2 := Lib.hid (And.intro ho2 (Hb1.out.trans (hb2.mono Hb1.out.size)))
    clear ho2 hb2 c2
    go_wp2_with fail
    refine (c1 _).mono ?_
    rintro e w3 ⟨v, rfl, ho3, hb3⟩
    have H3 := Lib.hid (And.intro (own_keep H2.out.1 hb3) (H2.out.2.trans (hb3.mono H2.out.2.size)))
    clear ho3 hb3 c1
    cases ok with
    | false =>
      have hR0 : R = [] := Hx.out.2.2.1 (by first | rfl | trivial)
      have hp : ∃ ad cp, p = .slice ad 0 cp := by
        rcases own_cases H3.out.1 with ⟨h, _⟩ | ⟨g, cp, h, _⟩
        · exact ⟨none, 0, h⟩
        · exact ⟨_, cp, by rw [h, hR0]; rfl⟩
      obtain ⟨ad, cp, rfl⟩ := hp
      have Ht3 := Lib.hid (show Door.Tab w3 from Door.tab_below Ht.out.1 H3.out.2)
      clear hR0
      go_wp2_with fail
      refine (Door.impl_any (-3) (by omega) (by omega) _ Ht3.out).mono ?_
      rintro e w4 ⟨rfl, hb4⟩
      have Hb4 := Lib.hid (H3.out.2.trans (hb4.mono H3.out.2.size))
      clear hb4
      rw [three_text]
      go_wp2_with fail
      go_ret
      exact ⟨rfl, Hb4.out⟩
    | true =>
      have hform : ∃ ad cp, p = .slice ad R.length cp ∧ ∀ i (hi : i < R.length), ∃ b o, ad = some ⟨b, o, none⟩ ∧ b < w3.heap.size ∧ w3.cell? ⟨b, o + i, none⟩ = some (.string R[i]) := by
        rcases own_cases H3.out.1 with ⟨h, h0⟩ | ⟨g, cp, h, _, hg, hc⟩
        · exact ⟨none, 0, by rw [h, h0]; rfl, fun i hi => by rw [h0] at hi; exact absurd hi (Nat.not_lt_zero i)⟩
        · exact ⟨some ⟨g, 0, none⟩, cp, h, fun i hi => ⟨g, 0, rfl, hg, by rw [Nat.zero_add]; exact hc i hi⟩⟩
      obtain ⟨ad, cp, rfl, hcs⟩ := hform
      obtain ⟨n, hn⟩ : ∃ n, n = R.length := ⟨_, rfl⟩
      rw [← hn]
      have hn24 : n ≤ 24 := by rw [hn]; exact Hx.out.1
      have Hn := Lib.hid hn
      have Hcs := Lib.hid hcs
      clear hn hcs
      go_wp2_with fail
      go_loopw [8, 9] (fun sv iv wr => ∃ (i m : Nat) (t : ByteArray), i ≤ n ∧ Hid (t = joinB (R.take i)) ∧ sv = .string t ∧ iv = .int .i64 (i : Int) ∧ wr = w3.drewN m) (fun _ iv _ => n - (intOf iv).toNat)
      case atStart => exact ⟨0, 0, ⟨#[]⟩, Nat.zero_le _, (show (⟨#[]⟩ : ByteArray) = joinB (R.take 0) from rfl), rfl, rfl, rfl⟩
      case round =>
        obtain ⟨i, m, t, hi, ht, rfl, rfl, hwr⟩ := hrel
        subst hwr
        by_cases hin : i < n
        · have hin' : (i : Int) < n := by omega
          have i1 : (0 : Int) ≤ i := by omega
          have hiR : i < R.length := by rw [← Hn.out]; exact hin
          obtain ⟨b, o, had, hb, hcell⟩ := Hcs.out i hiR
          subst had
          obtain ⟨a1, a2⟩ := join_more hiR Hx.out.1 Hx.out.2.1
          rw [← ht.out] at a1 a2
          obtain ⟨t2, ht2⟩ : ∃ t2, t2 = joinB (R.take (i + 1)) := ⟨_, rfl⟩
          rw [← ht2] at a2
          have Ht2 := Lib.hid ht2
          generalize R[i] = x at *
          clear ht2
          go_wp2_with fail
          go_roundw
          case rel => exact ⟨i + 1, m, t2, hin, Ht2.out, rfl, by go_num, rfl⟩
          case measure => simp [intOf]; omega
        · have hin' : ¬ (i : Int) < n := by omega
          have htt : t = joinB R := by
            rw [ht.out, show i = R.length by rw [← Hn.out]; omega, List.take_length]
          have htz : t.size ≤ 1048576 := by
            have := join_size R (fun f hf => by
              obtain ⟨j, hj, rfl⟩ := List.getElem_of_mem hf
              exact Hx.out.2.1 j hj)
            rw [htt]
            have := Hx.out.1
            omega
          have Hb4 := Lib.hid (show Below w.heap.size w (w3.drewN m) from ⟨H3.out.2.os, H3.out.2.tape, H3.out.2.output, H3.out.2.size, H3.out.2.block⟩)
          have Ha4 := Lib.hid (show Asc (w3.drewN m) from asc_below Ht.out.2 Hb4.out)
          have Hp4 := Lib.hid (show Own w1.heap.size (w3.drewN m) (.slice ad n cp) R by rw [Hn.out]; exact H3.out.1)
          have c3 := fun w h => impl_any t htz w h
          unfold Spl at c3
          have Htt := Lib.hid htt
          clear htt
          go_wp2_with fail
          refine (c3 _ Ha4.out).mono ?_
          rintro e w5 ⟨q, rfl, ho5, hb5⟩
          have H5 := Lib.hid (And.intro ho5 (And.intro (own_keep Hp4.out hb5) (Hb4.out.trans (hb5.mono Hb4.out.size))))
          clear ho5 hb5 c3
          by_cases h600 : t.size ≤ 600
          · have h600' : ¬ (600 : Int) < t.size := by omega
            obtain ⟨j1, j2⟩ := Hx.out.2.2.2 (by first | rfl | trivial) (by rw [← Htt.out]; exact h600)
            rw [← Htt.out] at j1 j2
            rw [j1]
            have H5q := Lib.hid (show Own (w3.drewN m).heap.size w5 q R by rw [← j2]; exact H5.out.1)
            clear j1 j2
            go_wp2_with fail
            refine (sameT_any _ H5.out.2.1 H5q.out (by have := Hx.out.1; omega)).mono ?_
            rintro e w6 ⟨rfl, hb6⟩
            have H6 := Lib.hid (H5.out.2.2.trans (hb6.mono H5.out.2.2.size))
            clear hb6
            go_wp2_with fail
            go_ret
            exact ⟨rfl, H6.out⟩
          · have h600' : (600 : Int) < t.size := by omega
            generalize okF t = okt at *
            go_wp2_with fail
            go_ret
            exact ⟨rfl, H5.out.2.2⟩
  · go_enter Tryd.func7, Tryd.ntmps7
    go_wp2_with fail
    refine (Drw.big_yes a len cap _ (by omega)).mono ?_
    rintro e w' ⟨rfl, hw⟩
    subst w'
    go_wp2_with fail
    go_ret
    exact ⟨rfl, Below.refl _ _⟩
end Go.Proofs.YtgfeahammmfdaaaDoor.fnFieldsAgain
