/- The walk of FnNumbers: it returns true. -/
import Derived.Test.YtgfeahammmfdaaaDoorRows
import Derived.Test.YtgfeahammmfdaaaDoorDrawI
import Derived.Test.YtgfeahammmfdaaaDoorParseI
namespace Go.Proofs.YtgfeahammmfdaaaDoor.fnNumbers
open Go.ChangeShapes Go.WideShapes Go.ChangeAt Go.RowKit Go.Proofs.YtgfeahammmfdaaaDoor
set_option linter.unusedVariables false
def inR (n : Int) : Bool := decide (0 ≤ n) && decide (n ≤ 1000000000)
theorem out_itoa (n : Int) : Pu.out (Lib.itoa n) = if 0 ≤ n ∧ n ≤ 1000000000 then (n.toNat, true) else (0, false) := by
  by_cases h0 : 0 ≤ n
  · obtain ⟨u, rfl⟩ := Int.eq_ofNat_of_zero_le h0
    rw [Lib.itoa_nonneg]
    by_cases h1 : u ≤ 1000000000
    · have hg := Pu.good_of (l := Lib.decDigits u) (u := u) rfl h1
      rw [if_pos ⟨h0, by omega⟩, Pu.out_good hg.1, hg.2]
      rfl
    · rw [if_neg (by omega)]
      refine Pu.out_bad fun h => ?_
      have := h.2
      rw [(Pu.dec_facts u).1] at this
      omega
  · obtain ⟨u, rfl⟩ : ∃ u : Nat, n = -(u : Int) := ⟨(-n).toNat, by omega⟩
    rw [if_neg (by omega)]
    refine Pu.out_bad fun h => ?_
    have := Pu.good_digs h 45 (by rw [Lib.itoa_neg u (by omega)]; exact List.mem_cons_self ..)
    unfold Pu.dig at this
    exact absurd this.1 (by decide)
theorem itoa_ne (n : Int) : Lib.itoa n ≠ [] := by
  by_cases h0 : 0 ≤ n
  · obtain ⟨u, rfl⟩ := Int.eq_ofNat_of_zero_le h0
    rw [Lib.itoa_nonneg]
    by_cases h : u < 10
    · rw [Lib.decDigits_one h]; simp
    · rw [Lib.decDigits, dif_neg h]; simp
  · obtain ⟨u, rfl⟩ : ∃ u : Nat, n = -(u : Int) := ⟨(-n).toNat, by omega⟩
    rw [Lib.itoa_neg u (by omega)]; simp
set_option maxHeartbeats 800000 in
theorem walk (a : Option Addr) (len cap : Nat) (zs : List Int) (w : World) (htab : Door.Tab w) (hr : IsRow .u8 w a len cap zs) :
    Calls Tryd.prog 3 #[.slice a len cap] w fun x w' => x = .returned (.bool true) ∧ Below w.heap.size w w' := by
  have Ht := Lib.hid htab
  clear htab
  by_cases hl : (len : Int) ≤ 1048576
  · go_enter Tryd.func3, Tryd.ntmps3
    go_wp2_with fail
    refine (Drw.big_no a len cap _ hl).mono ?_
    rintro e w' ⟨rfl, hw⟩
    subst w'
    go_wp2_with fail
    refine (Drw.drawInt_any a len cap zs _ hr).mono ?_
    rintro e w1 ⟨n, hn, rfl, hb1⟩
    have Hb1 := Lib.hid hb1
    have Ht1 := Lib.hid (show Door.Tab w1 from Door.tab_below Ht.out hb1)
    clear hb1 hr
    go_wp2_with fail
    refine (Door.impl_any n hn.1 hn.2 _ Ht1.out).mono ?_
    rintro e w2 ⟨rfl, hb2⟩
    have Ht2 := Lib.hid (show Door.Tab w2 from Door.tab_below Ht1.out hb2)
    have Hb2 := Lib.hid (Hb1.out.trans (hb2.mono Hb1.out.size))
    clear hb2
    obtain ⟨l, hle⟩ : ∃ l : ByteArray, l = ⟨(Lib.itoa n).toArray⟩ := ⟨_, rfl⟩
    rw [← hle]
    have hld : l.data.toList = Lib.itoa n := by rw [hle]
    have ho : Pu.out l.data.toList = if 0 ≤ n ∧ n ≤ 1000000000 then (n.toNat, true) else (0, false) := by rw [hld]; exact out_itoa n
    have hne : ¬ l.toList = [] := by rw [Lib.toList_data, hld]; exact itoa_ne n
    have he1 : l.toList.isEmpty = false := by rw [← Bool.not_eq_true, List.isEmpty_iff]; exact hne
    have he2 : (l.toList == []) = false := by rw [beq_eq_false_iff_ne]; exact hne
    have he3 : (l.toList != []) = true := by rw [bne, he2]; rfl
    have Ho := Lib.hid ho
    clear hle hld ho hne
    go_wp2_with fail
    refine (Pu.impl_any l _ Ht2.out).mono ?_
    rintro e w3 ⟨rfl, hb3⟩
    have Hb3 := Lib.hid (Hb2.out.trans (hb3.mono Hb2.out.size))
    clear hb3
    rw [Ho.out]
    by_cases h0 : 0 ≤ n
    · by_cases h1 : n ≤ 1000000000
      · rw [if_pos ⟨h0, h1⟩]
        have e1 : ((n.toNat : Nat) : Int) = n := by omega
        rw [show (((n.toNat, true) : Nat × Bool).1 : Int) = n from e1, show ((n.toNat, true) : Nat × Bool).2 = true from rfl]
        clear e1
        have hr1 : decide (0 ≤ n) = true := decide_eq_true h0
        have hr2 : decide (n ≤ 1000000000) = true := decide_eq_true h1
        go_wp2_with fail
        go_ret
        exact ⟨rfl, Hb3.out⟩
      · rw [if_neg (fun h => h1 h.2)]
        have hr1 : decide (0 ≤ n) = true := decide_eq_true h0
        have hr2 : decide (n ≤ 1000000000) = false := decide_eq_false h1
        go_wp2_with fail
        go_ret
        exact ⟨rfl, Hb3.out⟩
    · rw [if_neg (fun h => h0 h.1)]
      have hr1 : decide (0 ≤ n) = false := decide_eq_false h0
      go_wp2_with fail
      go_ret
      exact ⟨rfl, Hb3.out⟩
  · go_enter Tryd.func3, Tryd.ntmps3
    go_wp2_with fail
    refine (Drw.big_yes a len cap _ (by omega)).mono ?_
    rintro e w' ⟨rfl, hw⟩
    subst w'
    go_wp2_with fail
    go_ret
    exact ⟨rfl, Below.refl _ _⟩
end Go.Proofs.YtgfeahammmfdaaaDoor.fnNumbers
