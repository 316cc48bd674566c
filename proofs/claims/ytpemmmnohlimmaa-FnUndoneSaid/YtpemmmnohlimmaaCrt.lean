/- Correct in the program. -/
import Derived.Test.YtpemmmnohlimmaaTrc
namespace Go.Proofs.Ytpemmmnohlimmaa.Stp
open Go.ChangeShapes Go.WideShapes Go.ChangeAt Go.RowKit Go.Proofs.Ytpemmmnohlimmaa Go.Proofs.Ytpemmmnohlimmaa.Flt Go.Proofs.Ytpemmmnohlimmaa.Mth Go.Proofs.Ytpemmmnohlimmaa.Cpx Go.Proofs.Ytpemmmnohlimmaa.Trn
set_option linter.unusedVariables false
/-- what Correct gives -/
def corA (xs : List Stp) (z : Nat × Nat) : Option (Nat × Nat) := if okZ xs z = true then fld xs z else none
/-- the form of a list of the call's own -/
theorem ownZ_form {base : Nat} {w : World} {v : Value} {zs : List (Nat × Nat)} (h : OwnZ base w v zs) : ∃ a cap, v = .slice a zs.length cap ∧ (zs = [] ∨ ∃ g, a = some ⟨g, 0, none⟩ ∧ g < w.heap.size ∧ ∀ (i : Nat) (u : Nat × Nat), zs[i]? = some u → w.cell? ⟨g, i, none⟩ = some (.complex .f64 u.1 u.2)) := by
  have h' := h
  rcases h.2 with ⟨rfl, h0⟩ | ⟨g, cap, cur, rfl, hb, hg, rest⟩
  · have : zs = [] := List.length_eq_zero_iff.1 h0
    subst this
    exact ⟨_, _, rfl, .inl rfl⟩
  · refine ⟨_, _, rfl, .inr ⟨g, rfl, lt_of_block hg, fun i u hu => ?_⟩⟩
    have hi : i < zs.length := by
      rcases Nat.lt_or_ge i zs.length with h1 | h1
      · exact h1
      · rw [List.getElem?_eq_none h1] at hu; cases hu
    rw [World.ownsRow.cellAt h' i (by omega)]
    unfold cZ
    rw [List.getElem?_map, hu]; rfl
def CorOut (xs : List Stp) (z : Nat × Nat) (w : World) (e : Ending) (w' : World) : Prop := e = .returned (ansV (corA xs z)) ∧ Below w.heap.size w w'
set_option maxHeartbeats 1600000 in
theorem correct_any (g off cap : Nat) (xs : List Stp) (x y : Nat) (w : World) (hg : g < w.heap.size) (hwf : wfS xs) (h : CellsS w g off xs) (lx : x < 18446744073709551616) (ly : y < 18446744073709551616) :
    Calls Try.prog 8 #[.slice (some ⟨g, off, none⟩) xs.length cap, .complex .f64 x y] w (CorOut xs (x, y) w) := by
  have cS := stepsOk_any g off cap xs w hg hwf h
  have cF := fun W => finI_any x y W lx ly
  have H := Lib.hid (And.intro hwf h)
  clear h hwf
  unfold CorOut
  cases ho : okS xs
  · have hA : corA xs (x, y) = none := by unfold corA okZ; rw [ho]; rfl
    rw [hA]
    rw [ho] at cS
    clear ho hA
    generalize xs.length = n at *
    go_enter Try.func8, Try.ntmps8
    go_wp2_with fail
    refine cS.mono ?_
    rintro e w1 ⟨rfl, hb⟩
    have Hb := Lib.hid hb
    clear hb cS
    go_wp2_with fail
    go_ret2
    exact ⟨rfl, Hb.out⟩
  · rw [ho] at cS
    cases hf : (isFinD x && isFinD y)
    · have hA : corA xs (x, y) = none := by unfold corA okZ; rw [ho, show (isFinD (x, y).1 && isFinD (x, y).2) = (isFinD x && isFinD y) from rfl, hf]; rfl
      rw [hA]
      rw [hf] at cF
      clear ho hf hA
      generalize xs.length = n at *
      go_enter Try.func8, Try.ntmps8
      go_wp2_with fail
      refine cS.mono ?_
      rintro e w1 ⟨rfl, hb⟩
      have Hb := Lib.hid hb
      clear hb cS
      go_wp2_with fail
      refine (cF _).mono ?_
      rintro e w2 ⟨rfl, rfl⟩
      go_wp2_with fail
      go_ret2
      exact ⟨rfl, Hb.out⟩
    · have hz : okZ xs (x, y) = true := by unfold okZ; rw [ho, show (isFinD (x, y).1 && isFinD (x, y).2) = (isFinD x && isFinD y) from rfl, hf]; rfl
      have hA : corA xs (x, y) = fld xs (x, y) := by unfold corA; rw [if_pos hz]
      rw [hA]
      rw [hf] at cF
      have Hz := Lib.hid hz
      clear ho hf hA hz
      have hT := fld_trc xs (x, y)
      have ht : trA xs (x, y) = trc xs (x, y) := by unfold trA; rw [if_pos Hz.out]
      have Ht := Lib.hid ht
      obtain ⟨zs, hzs⟩ : ∃ zs, trc xs (x, y) = zs := ⟨_, rfl⟩
      have cT : ∀ W, g < W.heap.size → CellsS W g off xs → Calls Try.prog 9 #[.slice (some ⟨g, off, none⟩) xs.length cap, .complex .f64 x y] W fun e w' => ∃ v, e = .returned v ∧ OwnZ W.heap.size w' v zs ∧ Below W.heap.size W w' := fun W hg' hc' => by
        have := trace_yes g off cap xs x y W hg' H.out.1 hc' lx ly Hz.out
        unfold TrOut at this
        rw [Ht.out, hzs] at this
        exact this
      rw [hzs] at hT
      clear ht hzs
      have hl : xs.length ≤ 20 := by
        have := Hz.out
        unfold okZ okS at this
        simp only [Bool.and_eq_true] at this
        exact of_decide_eq_true this.1.1
      obtain ⟨n, hn⟩ : ∃ n, xs.length = n := ⟨_, rfl⟩
      rw [hn] at cS cT hT hl ⊢
      have HT := Lib.hid cT
      clear cT
      rcases hT with ⟨h1, h2⟩ | ⟨u, h1, h2, h3⟩
      · rw [h1]
        have h2' : (zs.length : Int) < (n : Int) := by omega
        clear h1
        go_enter Try.func8, Try.ntmps8
        go_wp2_with fail
        refine cS.mono ?_
        rintro e w1 ⟨rfl, hb⟩
        have Hb := Lib.hid hb
        clear hb cS
        go_wp2_with fail
        refine (cF _).mono ?_
        rintro e w2 ⟨rfl, rfl⟩
        go_wp2_with fail
        refine (HT.out _ (Nat.lt_of_lt_of_le hg Hb.out.size) (H.out.2.keep hg Hb.out)).mono ?_
        rintro e w3 ⟨v, rfl, hown, hb3⟩
        have Hb3 := Lib.hid (Hb.out.trans (hb3.mono Hb.out.size))
        obtain ⟨a, cp, rfl, _⟩ := ownZ_form hown
        clear hown hb3
        go_wp2_with fail
        go_ret2
        exact ⟨rfl, Hb3.out⟩
      · rw [h1]
        obtain ⟨p, q⟩ := u
        clear h1
        by_cases hn0 : n = 0
        · subst hn0
          have h3' : (x, y) = (p, q) := by simpa using h3
          cases h3'
          have h2' : (zs.length : Int) = 0 := by omega
          go_enter Try.func8, Try.ntmps8
          go_wp2_with fail
          refine cS.mono ?_
          rintro e w1 ⟨rfl, hb⟩
          have Hb := Lib.hid hb
          clear hb cS
          go_wp2_with fail
          refine (cF _).mono ?_
          rintro e w2 ⟨rfl, rfl⟩
          go_wp2_with fail
          refine (HT.out _ (Nat.lt_of_lt_of_le hg Hb.out.size) (H.out.2.keep hg Hb.out)).mono ?_
          rintro e w3 ⟨v, rfl, hown, hb3⟩
          have Hb3 := Lib.hid (Hb.out.trans (hb3.mono Hb.out.size))
          obtain ⟨a, cp, rfl, _⟩ := ownZ_form hown
          clear hown hb3 h3
          go_wp2_with fail
          go_ret2
          exact ⟨rfl, Hb3.out⟩
        · obtain ⟨m, rfl⟩ : ∃ m, n = m + 1 := ⟨n - 1, by omega⟩
          have h3' : zs[m]? = some (p, q) := by simpa using h3
          have H3 := Lib.hid h3'
          have hzl := Lib.hid h2
          clear h3 h3' h2 hn0
          go_enter Try.func8, Try.ntmps8
          go_wp2_with fail
          refine cS.mono ?_
          rintro e w1 ⟨rfl, hb⟩
          have Hb := Lib.hid hb
          clear hb cS
          go_wp2_with fail
          refine (cF _).mono ?_
          rintro e w2 ⟨rfl, rfl⟩
          go_wp2_with fail
          refine (HT.out _ (Nat.lt_of_lt_of_le hg Hb.out.size) (H.out.2.keep hg Hb.out)).mono ?_
          rintro e w3 ⟨v, rfl, hown, hb3⟩
          have Hb3 := Lib.hid (Hb.out.trans (hb3.mono Hb.out.size))
          obtain ⟨a, cp, rfl, h0 | ⟨g', rfl, hg', hc'⟩⟩ := ownZ_form hown
          · have := hzl.out
            rw [h0] at this
            cases this
          have hcell := hc' m (p, q) H3.out
          rw [hzl.out]
          have hw1 : IntKind.i64.wrap (((m + 1 : Nat) : Int) - 1) = (m : Int) := by rw [IntKind.wrap_i64]; omega
          have hw2 : ((m + 1 : Nat) : Int) - 1 = (m : Int) := by omega
          have e0 : (((m + 1 : Nat) : Int) == 0) = false := beq_eq_false_iff_ne.2 (by omega)
          have hlt : ¬ (((m + 1 : Nat) : Int) < ((m + 1 : Nat) : Int)) := by omega
          clear hown hb3 hc'
          go_wp2_with fail
          go_ret2
          exact ⟨rfl, Hb3.out⟩
end Go.Proofs.Ytpemmmnohlimmaa.Stp
