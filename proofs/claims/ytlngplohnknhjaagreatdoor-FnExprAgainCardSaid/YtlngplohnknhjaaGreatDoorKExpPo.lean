/- The program's FormatExpr of valid expressions. -/
import Derived.Test.YtlngplohnknhjaaGreatDoorKExpPn
import Derived.Test.YtlngplohnknhjaaGreatDoorKExpDp
namespace Go.Proofs.YtlngplohnknhjaaGreatDoor.Px
open Go.ChangeShapes Go.WideShapes Go.ChangeAt Go.RowKit Go.Proofs.YtlngplohnknhjaaGreatDoor Go.Proofs.YtlngplohnknhjaaGreatDoor.Flt Go.Proofs.YtlngplohnknhjaaGreatDoor.Ex Go.Proofs.YtlngplohnknhjaaGreatDoor.Cpx Go.Proofs.YtlngplohnknhjaaGreatDoor.Sng
set_option linter.unusedVariables false
set_option linter.unusedSimpArgs false
/-- written at any node -/
theorem wri_any (w0 : World) (B : Nat) (nd : Nd) (hok : nd.ok) (st : List Tp) (ha : ar nd.k ≤ st.length) (ht : tot st ≤ 100000) (W : World) (hT : Door.Tab W) (h : Sk w0 B (pcs st) W) :
    Calls Tryz.prog 19 #[.agg #[.int .i64 nd.k, .int .i64 nd.s, .complex .f64 nd.x nd.y], .pointer (some ⟨B, 0, none⟩)] W fun e w' =>
      e = .returned (.agg #[.string ⟨(nodeP nd st).1.toArray⟩, .int .i64 (nodeP nd st).2]) ∧ Sk w0 B (pcs (st.drop (ar nd.k))) w' := by
  obtain ⟨k, s, x, y⟩ := nd
  rcases hok with hc | hc | hc
  · obtain rfl : k = 1 := hc.1
    obtain rfl : s = 0 := hc.2.1
    refine (wri_num w0 B (pcs st) x y hc.2.2 W hT h).mono fun e w' he => ⟨?_, ?_⟩
    · rw [he.1]; rfl
    · exact h.below he.2
  · obtain rfl : k = 2 := hc.1
    obtain rfl : x = 0 := hc.2.2.1
    obtain rfl : y = 0 := hc.2.2.2
    refine (wri_slot s hc.2.1 B W hT).mono fun e w' he => ⟨?_, ?_⟩
    · rw [he.1]; rfl
    · exact h.below he.2
  · obtain rfl : s = 0 := hc.2.1
    obtain rfl : x = 0 := hc.2.2.1
    obtain rfl : y = 0 := hc.2.2.2
    have hk : 3 ≤ k ∧ k ≤ 12 := hc.1
    have ha' : ar k ≤ st.length := ha
    have h1 : 1 ≤ ar k := by unfold ar; rw [if_neg (by omega)]; split <;> omega
    obtain ⟨p, r, hpr⟩ : ∃ p r, pcs st = p :: r := by
      cases st with
      | nil => simp at ha'; omega
      | cons p r => exact ⟨_, _, rfl⟩
    obtain ⟨g, cap, hg⟩ : ∃ g cap, Sg w0 B g cap (pcs st) W := by rw [hpr] at h ⊢; exact h.sg
    refine (wri_op w0 B k hk st ha' ht W g cap hg).mono fun e w' he => ⟨?_, ?_⟩
    · rw [he.1]
      have := nodeP_stg hk st
      unfold opN at this
      rw [this]
      rfl
    · exact he.2.sk
/-- what FormatExpr tells -/
noncomputable def fmtV (t : Tr) : Value := if (txT t).length ≤ 600 then .tuple #[.string ⟨(txT t).toArray⟩, .bool true] else .tuple #[.string ⟨#[]⟩, .bool false]
theorem sk_new (w1 : World) : Sk (w1.alloc (.cells #[.slice none 0 0] 41)) w1.heap.size (pcs []) (w1.alloc (.cells #[.slice none 0 0] 41)) :=
  ⟨Only.refl _ _, ⟨.slice none 0 0, block_new w1 _, ⟨rfl, .inl ⟨rfl, rfl⟩⟩⟩, by rw [World.size_alloc]; omega, by simp [pcs]⟩
set_option maxRecDepth 20000 in
set_option maxHeartbeats 3200000 in
theorem format_any (g off cap : Nat) (t : Tr) (w : World) (ht : t.ok) (hl : (pf t).length ≤ 60) (hT : Door.Tab w) (h : CellsN w g off (pf t)) (hg : g < w.heap.size) :
    Calls Tryz.prog 7 #[.slice (some ⟨g, off, none⟩) (pf t).length cap] w fun e w' => e = .returned (fmtV t) ∧ Below w.heap.size w w' := by
  have hv := Valid.tree ht hl
  have cE := exprOk_any g off cap (pf t) w hv h hg
  have hE := evP_tree ht
  have HF := Lib.hid (show fmtV t = if (txT t).length ≤ 600 then .tuple #[.string ⟨(txT t).toArray⟩, .bool true] else .tuple #[.string ⟨#[]⟩, .bool false] from rfl)
  obtain ⟨V, hV⟩ : ∃ V, fmtV t = V := ⟨_, rfl⟩
  obtain ⟨tx, htx⟩ : ∃ tx, txT t = tx := ⟨_, rfl⟩
  obtain ⟨sg, hsg⟩ : ∃ sg : Int, (strT t : Int) = sg := ⟨_, rfl⟩
  rw [htx, hsg] at hE
  rw [hV, htx] at HF
  rw [hV]
  obtain ⟨xs, hxs⟩ : ∃ xs, pf t = xs := ⟨_, rfl⟩
  rw [hxs] at hE hl h cE hv ⊢
  have H := Lib.hid (And.intro hv (And.intro h (And.intro hE hT)))
  clear hv h hE htx hsg hV hxs ht hT
  obtain ⟨n, hn⟩ : ∃ n, xs.length = n := ⟨_, rfl⟩
  rw [hn] at hl cE ⊢
  go_enter Tryz.func7, Tryz.ntmps7
  go_wp2_with fail
  refine cE.mono ?_
  rintro e w1 ⟨rfl, hb1⟩
  have Hb1 := Lib.hid hb1
  clear hb1 cE
  go_wp2_with fail
  obtain ⟨w0, hw0⟩ : ∃ w0, w1.alloc (.cells #[.slice none 0 0] 41) = w0 := ⟨_, rfl⟩
  obtain ⟨B, hB⟩ : ∃ B, w1.heap.size = B := ⟨_, rfl⟩
  have hsk := sk_new w1
  have hbl : Below w.heap.size w (w1.alloc (.cells #[.slice none 0 0] 41)) := Hb1.out.alloc Hb1.out.size _
  have hwB : w.heap.size ≤ B := by rw [← hB]; exact Hb1.out.size
  rw [hw0, hB] at hsk
  rw [hw0] at hbl
  rw [hw0, hB]
  have Hsk := Lib.hid hsk
  have Hbl := Lib.hid hbl
  clear hw0 hB hsk hbl
  go_loopw [13] (fun vi wr => ∃ (i : Nat) (st : List Tp), vi = .int .i64 (i : Int) ∧ i ≤ n ∧ Sk w0 B (pcs st) wr ∧ Hid ((wt st.length (xs.drop i) = some 1 ∧ evP xs [] = evP (xs.drop i) st) ∧ st.length ≤ i ∧ tot st ≤ 40 * i))
    (fun vi _ => n - (intOf vi).toNat)
  case atStart => exact ⟨0, [], rfl, by omega, Hsk.out, Lib.hid ⟨⟨H.out.1.wt, rfl⟩, Nat.le_refl _, Nat.le_refl _⟩⟩
  case round =>
    obtain ⟨i, st, rfl, hi, hsk, Hw⟩ := hrel
    have Hs := Lib.hid hsk
    clear hsk
    have Hb := Lib.hid (show Below w.heap.size w wr from Hbl.out.trans (Hs.out.only.below hwB (Hbl.out.size)))
    by_cases hil : i < n
    · have hil' : (i : Int) < (n : Int) := by omega
      obtain ⟨nd, hs⟩ : ∃ nd, xs[i]? = some nd := ⟨_, List.getElem?_eq_getElem (by rw [hn]; exact hil)⟩
      have hok := H.out.1.ok nd (List.mem_of_getElem? hs)
      obtain ⟨a0, a1, a2⟩ := (H.out.2.1.keep hg Hb.out) i nd hs
      obtain ⟨⟨hw1, hev⟩, hsti, htot⟩ := Hw.out
      rw [drop_cons hs] at hw1 hev
      obtain ⟨hah, hw1⟩ := wt_cons hw1
      rw [evP_cons] at hev
      have hnl := nodeP_len hok hah
      have hst60 : (pcs (st.drop (ar nd.k))).length < 60 := by rw [pcs_len, List.length_drop]; omega
      have hstl : (st.drop (ar nd.k)).length + 1 = st.length - ar nd.k + 1 := by rw [List.length_drop]
      have hT1 : Door.Tab (wr.alloc (.cells #[.int .i64 nd.k, .int .i64 nd.s, .complex .f64 nd.x nd.y] 44)) := Door.tab_below H.out.2.2.2 (Hb.out.alloc Hb.out.size _)
      have cW := wri_any w0 B nd hok st hah (by omega) _ hT1 (Hs.out.alloc (.cells #[.int .i64 nd.k, .int .i64 nd.s, .complex .f64 nd.x nd.y] 44))
      have Hn := Lib.hid (And.intro hw1 (And.intro hev (And.intro hst60 (And.intro hstl (And.intro hsti (And.intro htot hnl))))))
      obtain ⟨P, hP⟩ : ∃ P, nodeP nd st = P := ⟨_, rfl⟩
      obtain ⟨pt, ps⟩ := P
      rw [hP] at cW Hn
      clear hs hok hw1 hev hah hst60 hstl hsti htot hnl hP hT1
      have cP := fun W hW => sput_any w0 B (pcs (st.drop (ar nd.k))) (pc pt ps) W hW Hn.out.2.2.1
      unfold pV pc at cP
      have HP := Lib.hid cP
      clear cP
      go_wp2_with fail
      refine cW.mono ?_
      rintro e w3 ⟨rfl, hsk3⟩
      have Hs3 := Lib.hid hsk3
      clear hsk3 cW
      go_wp2_with fail
      refine (HP.out _ Hs3.out).mono ?_
      rintro e w5 ⟨rfl, hsk5⟩
      have Hs5 := Lib.hid (show Sk w0 B (pcs ((pt, ps) :: st.drop (ar nd.k))) w5 from hsk5)
      clear hsk5
      go_wp2_with fail
      go_roundw
      case rel =>
        refine ⟨i + 1, (pt, ps) :: st.drop (ar nd.k), by go_num, by omega, Hs5.out, Lib.hid ⟨⟨?_, Hn.out.2.1⟩, ?_, ?_⟩⟩
        · rw [List.length_cons, Hn.out.2.2.2.1]; exact Hn.out.1
        · rw [List.length_cons, List.length_drop]; have := Hn.out.2.2.2.2.1; omega
        · have := Hn.out.2.2.2.2.2; have h2 : pt.length + tot (st.drop (ar nd.k)) ≤ tot st + 40 := this.2; show pt.length + tot (st.drop (ar nd.k)) ≤ _; omega
      case measure => simp [intOf]; omega
    · obtain rfl : i = n := by omega
      have hil' : ¬ (i : Int) < (i : Int) := by omega
      obtain ⟨⟨hw1, hev⟩, hsti, htot⟩ := Hw.out
      rw [List.drop_eq_nil_of_le (by omega)] at hw1 hev
      have hst : st = [(tx, sg)] := by rw [H.out.2.2.1] at hev; exact hev.symm
      subst hst
      have hlen : tx.length ≤ 2400 := by have h3 : tx.length ≤ tot [(tx, sg)] := tot_mem (p := (tx, sg)) (List.mem_cons_self ..); omega
      obtain ⟨g2, cap2, hsg⟩ : ∃ g2 cap2, Sg w0 B g2 cap2 [pc tx sg] wr := Sk.sg (p := pc tx sg) (st := []) Hs.out
      have cT := stake_any w0 B g2 cap2 ⟨tx.toArray⟩ sg [] wr hsg
      have hsz := size_tx tx
      by_cases h600 : tx.length ≤ 600
      · have hv : V = .tuple #[.string ⟨tx.toArray⟩, .bool true] := by rw [HF.out, if_pos h600]
        have hcmp : ¬ (600 : Int) < ((⟨tx.toArray⟩ : ByteArray).size : Int) := by rw [hsz]; omega
        obtain ⟨b, hb⟩ : ∃ b, (⟨tx.toArray⟩ : ByteArray) = b := ⟨_, rfl⟩
        rw [hb] at cT hcmp hv
        have kf := field_pc b sg
        have Hv := Lib.hid hv
        clear hv hb hsz hw1 hev hsti htot hsg
        go_wp2_with fail
        refine cT.mono ?_
        rintro e w5 ⟨rfl, hsk5, ho5⟩
        have Hb5 := Lib.hid (show Below w.heap.size w w5 from Hb.out.trans (ho5.below hwB (Hb.out.size)))
        clear hsk5 ho5
        go_wp2_with fail
        go_ret2
        exact ⟨by rw [Hv.out]; rfl, Hb5.out⟩
      · have hv : V = .tuple #[.string ⟨#[]⟩, .bool false] := by rw [HF.out, if_neg h600]
        have hcmp : (600 : Int) < ((⟨tx.toArray⟩ : ByteArray).size : Int) := by rw [hsz]; omega
        obtain ⟨b, hb⟩ : ∃ b, (⟨tx.toArray⟩ : ByteArray) = b := ⟨_, rfl⟩
        rw [hb] at cT hcmp
        have kf := field_pc b sg
        have Hv := Lib.hid hv
        clear hv hb hsz hw1 hev hsti htot hsg
        go_wp2_with fail
        refine cT.mono ?_
        rintro e w5 ⟨rfl, hsk5, ho5⟩
        have Hb5 := Lib.hid (show Below w.heap.size w w5 from Hb.out.trans (ho5.below hwB (Hb.out.size)))
        clear hsk5 ho5
        go_wp2_with fail
        go_ret2
        exact ⟨by rw [Hv.out]; rfl, Hb5.out⟩
end Go.Proofs.YtlngplohnknhjaaGreatDoor.Px
