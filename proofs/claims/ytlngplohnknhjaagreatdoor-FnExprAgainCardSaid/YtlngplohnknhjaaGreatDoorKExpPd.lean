/- The program's parser: numbers. -/
import Derived.Test.YtlngplohnknhjaaGreatDoorKExpPc
import Derived.Test.YtlngplohnknhjaaGreatDoorKExpV
import Derived.Test.YtlngplohnknhjaaGreatDoorKSngI
namespace Go.Proofs.YtlngplohnknhjaaGreatDoor.Px
open Go.ChangeShapes Go.WideShapes Go.ChangeAt Go.RowKit Go.Proofs.YtlngplohnknhjaaGreatDoor Go.Proofs.YtlngplohnknhjaaGreatDoor.Flt Go.Proofs.YtlngplohnknhjaaGreatDoor.Ex Go.Proofs.YtlngplohnknhjaaGreatDoor.Cpx Go.Proofs.YtlngplohnknhjaaGreatDoor.Sng
set_option linter.unusedVariables false
/-- the node of a number, and what is ahead behind it -/
def nmN (fo : Bool) (f : Nat) : Nd := if fo = true ∧ f ≠ 0 then ⟨1, 0, 0, widen f⟩ else ⟨1, 0, widen f, 0⟩
def nmR (fo : Bool) (f : Nat) (q p : Tx) : Tx := if fo = true ∧ f ≠ 0 then p else q
theorem fmt_body {f : Nat} (hf : f < 2139095040) {t : Tx} (hb : bodyL f = t) : fmtL f = 43 :: t := by
  obtain ⟨n1, n2, n3⟩ := low_sgl hf
  rw [fmt_num n1, hb]
  unfold sgL
  rw [n3]; rfl
theorem prs_out {f : Nat} (hf : f < 2139095040) {t : Tx} (hb : bodyL f = t) {w w' : World} {e : Ending} (h : Prs ⟨(43 :: t).toArray⟩ w e w') : e = .returned (.tuple #[.float .f32 f, .bool true]) ∧ Below w.heap.size w w' := by
  obtain ⟨x, ok, wx, rfl, hx, hbel⟩ := h
  have hfm := fmt_body hf hb
  have hd : (⟨(43 :: t).toArray⟩ : ByteArray).data.toList = 43 :: t := List.toList_toArray
  rw [hd] at hx
  have hfl : f < 4294967296 := by omega
  rcases hx with ⟨rfl, hx⟩ | ⟨_, _, hx⟩
  · have hxl : x < 2 ^ Ieee.single.width := by
      unfold Lit.wf at wx
      exact (by simpa using wx : x < 4294967296)
    have hs := fmt_inj hxl (show f < 2 ^ Ieee.single.width from hfl) (hx.trans hfm.symm)
    have hxf : x = f := by
      rw [sameW_iff] at hs
      rcases hs with ⟨_, h2⟩ | ⟨_, _, h3⟩
      · rw [(low_sgl hf).1] at h2; cases h2
      · exact h3
    exact ⟨by rw [hxf], hbel⟩
  · exact absurd hfm (hx f hfl)
set_option maxRecDepth 20000 in
set_option maxHeartbeats 1600000 in
theorem number_any (w0 : World) (B : Nat) (HT : ∀ w, Only B w0 w → Door.Tab w) (xs : List Nd) (l t q : Tx) (f : Nat) (w : World) (h : Ps w0 B xs l w) (hx : xs.length < 60)
    (hs : sk l = t ++ q) (hn : numA (sk l) = t) (hf : f < 2139095040) (hb : bodyL f = t) :
    Calls Tryz.prog 79 #[.pointer (some ⟨B, 0, none⟩)] w fun e w' => e = .returned (.tuple #[]) ∧ Ps w0 B (xs ++ [nmN (Lib.hasPrefix q [105]) f]) (nmR (Lib.hasPrefix q [105]) f q (Lib.trimPrefix q [105])) w' := by
  have c1 := h.cell1
  have hl := h.len
  have hk := sk_len l
  have hlen : (t ++ q).length ≤ 600 := by rw [← hs]; omega
  rw [List.length_append] at hlen
  have cS := fun W => spaces_any l W
  have cA := fun W => ahead_any (t ++ q) (by rw [List.length_append]; omega) W
  rw [hs] at cS hn
  rw [hn] at cA
  have x1 : (⟨(t ++ q).toArray⟩ : ByteArray).extract t.length (t.length + q.length) = ⟨q.toArray⟩ := by
    rw [ext_tx, List.drop_left, List.take_of_length_le (by omega)]
  have s1 := size_tx (t ++ q)
  have s2 := size_tx t
  rw [List.length_append] at s1
  have cC := fun W => cut_any q [105] W
  have cD := fun W => demand_any W
  have cP := fun W hT => impl_parse ⟨(43 :: t).toArray⟩ (by rw [size_tx, List.length_cons]; unfold maxLen; omega) W hT
  have xp : (⟨#[43]⟩ : ByteArray) ++ ⟨t.toArray⟩ = ⟨(43 :: t).toArray⟩ := by
    apply ByteArray.ext
    apply Array.toList_inj.1
    simp
  have kw := fun W => run_widen (P := Tryz.prog) 92 60 f (by rw [Tryz.underlying92]; rfl) Tryz.underlying60 (low_sgl hf).1 W
  have kz := ne_zero hf
  have HO := Lib.hid (fun (W W' : World) (E : Ending) (hh : Prs ⟨(43 :: t).toArray⟩ W E W') => prs_out hf hb hh)
  clear hf hb
  obtain ⟨wf, ewf⟩ : ∃ wf, widen f = wf := ⟨_, rfl⟩
  rw [ewf] at kw
  have hput := fun n W h => put_any w0 B xs (nmR (Lib.hasPrefix q [105]) f q (Lib.trimPrefix q [105])) n W h hx
  have htp := tp_le q [105]
  obtain ⟨p, ep⟩ : ∃ p, Lib.trimPrefix q [105] = p := ⟨_, rfl⟩
  obtain ⟨fo, ef⟩ : ∃ fo, Lib.hasPrefix q [105] = fo := ⟨_, rfl⟩
  rw [ep] at cC hput htp ⊢
  rw [ef] at cC hput ⊢
  clear ep ef
  obtain ⟨nd, en⟩ : ∃ nd, nmN fo f = nd := ⟨_, rfl⟩
  obtain ⟨rs, er⟩ : ∃ rs, nmR fo f q p = rs := ⟨_, rfl⟩
  rw [en, er]
  rw [er] at hput
  have Hn := Lib.hid (And.intro en (And.intro er ewf))
  clear en er ewf
  have H := Lib.hid h
  clear h hs hn
  go_enter Tryz.func79, Tryz.ntmps79
  go_wp2_with fail
  refine (cS _).mono ?_
  rintro e w1 ⟨rfl, hw⟩
  subst w1
  go_wp2_with fail
  refine (cA _).mono ?_
  rintro e w1 ⟨rfl, hb1⟩
  have H1 := Lib.hid (H.out.below hb1)
  clear hb1
  go_wp2_with fail
  refine (cP _ (HT _ H1.out.only)).mono ?_
  intro e w2 h2
  obtain ⟨rfl, hb2⟩ := HO.out _ _ _ h2
  have H2 := Lib.hid (H1.out.below hb2)
  clear hb2 h2 xp cP
  go_wp2_with fail
  refine (cD _).mono ?_
  rintro e w3 ⟨rfl, hw⟩
  subst w3
  have c2 := H2.out.cell1
  have f2 := H2.out.froz1
  go_wp2_with fail
  have c3 : (w2.setCell ⟨B, 1, none⟩ (.string ⟨q.toArray⟩)).cell? ⟨B, 1, none⟩ = some (.string ⟨q.toArray⟩) := (H2.out.txt q (by omega)).cell1
  refine (cC _).mono ?_
  rintro e w3 ⟨rfl, hw⟩
  subst w3
  cases fo
  · obtain ⟨en, er, ew⟩ := Hn.out
    have en2 : nd = ⟨1, 0, wf, 0⟩ := by rw [← en, ← ew]; exact if_neg (fun h => by cases h.1)
    have er2 : rs = q := by rw [← er]; exact if_neg (fun h => by cases h.1)
    subst en2 er2
    clear en er ew
    have HP := Lib.hid (hput ⟨1, 0, wf, 0⟩ _ (H2.out.txt rs (by omega)))
    go_wp2_with fail
    refine HP.out.mono ?_
    rintro e w4 ⟨rfl, h4⟩
    have H4 := Lib.hid h4
    clear h4 HP
    go_wp2_with fail
    exact bodyPost_end (v := .tuple #[]) (by simp [results, Tryz.results79]) rfl ⟨rfl, H4.out⟩
  · by_cases f0 : f = 0
    · rw [decide_eq_true f0] at kz
      obtain ⟨en, er, ew⟩ := Hn.out
      have en2 : nd = ⟨1, 0, wf, 0⟩ := by rw [← en, ← ew]; exact if_neg (fun h => h.2 f0)
      have er2 : rs = q := by rw [← er]; exact if_neg (fun h => h.2 f0)
      subst en2 er2
      clear en er ew f0
      have HP := Lib.hid (hput ⟨1, 0, wf, 0⟩ _ (H2.out.txt rs (by omega)))
      go_wp2_with fail
      refine HP.out.mono ?_
      rintro e w4 ⟨rfl, h4⟩
      have H4 := Lib.hid h4
      clear h4 HP
      go_wp2_with fail
      exact bodyPost_end (v := .tuple #[]) (by simp [results, Tryz.results79]) rfl ⟨rfl, H4.out⟩
    · rw [decide_eq_false f0] at kz
      obtain ⟨en, er, ew⟩ := Hn.out
      have en2 : nd = ⟨1, 0, 0, wf⟩ := by rw [← en, ← ew]; exact if_pos ⟨rfl, f0⟩
      have er2 : rs = p := by rw [← er]; exact if_pos ⟨rfl, f0⟩
      subst en2 er2
      clear en er ew f0
      have f3 := (H2.out.txt q (by omega)).froz1
      have HP := Lib.hid (hput ⟨1, 0, 0, wf⟩ _ ((H2.out.txt q (by omega)).txt rs (by omega)))
      go_wp2_with fail
      refine HP.out.mono ?_
      rintro e w4 ⟨rfl, h4⟩
      have H4 := Lib.hid h4
      clear h4 HP
      go_wp2_with fail
      exact bodyPost_end (v := .tuple #[]) (by simp [results, Tryz.results79]) rfl ⟨rfl, H4.out⟩
end Go.Proofs.YtlngplohnknhjaaGreatDoor.Px
