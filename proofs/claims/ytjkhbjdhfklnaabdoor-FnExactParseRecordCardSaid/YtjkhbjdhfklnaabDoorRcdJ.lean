/- ParseRecord of the program. -/
import Derived.Test.YtjkhbjdhfklnaabDoorRcdI
namespace Go.Proofs.YtjkhbjdhfklnaabDoor.Rcd
open Go.ChangeShapes Go.WideShapes Go.ChangeAt Go.RowKit Go.Proofs.YtjkhbjdhfklnaabDoor Go.Proofs.YtjkhbjdhfklnaabDoor.Fld
set_option linter.unusedVariables false
set_option linter.unusedSimpArgs false
theorem read_some (s : ByteArray) (hs : s.size ≤ 1048576) : ∃ (a b c d : Int) (ok : Bool), (∀ W, Env W → Calls Tryd.prog 19 #[.string s] W fun e w' => e = .returned (.tuple #[recV a b c d, .bool ok]) ∧ Below W.heap.size W w') ∧ (ok = true → (resF s).length = 4) := by
  by_cases hok : okF s = true ∧ (resF s).length = 4
  · obtain ⟨p0, p1, p2, p3, hf⟩ := four hok.2
    cases h0 : okA p0 with
    | false => exact ⟨0, 0, 0, 0, false, fun W hE => read_no0 s p0 p1 p2 p3 hs hok.1 hf h0 W hE, fun h => by cases h⟩
    | true =>
      cases h1 : okA p1 with
      | false => exact ⟨0, 0, 0, 0, false, fun W hE => read_no1 s p0 p1 p2 p3 hs hok.1 hf h0 h1 W hE, fun h => by cases h⟩
      | true =>
        cases h2 : okA p2 with
        | false => exact ⟨0, 0, 0, 0, false, fun W hE => read_no2 s p0 p1 p2 p3 hs hok.1 hf h0 h1 h2 W hE, fun h => by cases h⟩
        | true =>
          cases h3 : okA p3 with
          | false => exact ⟨0, 0, 0, 0, false, fun W hE => read_no3 s p0 p1 p2 p3 hs hok.1 hf h0 h1 h2 h3 W hE, fun h => by cases h⟩
          | true => exact ⟨av p0, av p1, av p2, av p3, true, fun W hE => read_ok s p0 p1 p2 p3 hs hok.1 hf h0 h1 h2 h3 W hE, fun _ => hok.2⟩
  · exact ⟨0, 0, 0, 0, false, fun W hE => read_few s hs hok W hE, fun h => by cases h⟩
theorem read_hit {a b c d : Int} (hg : Gd a b c d) (W : World) (hE : Env W) : Calls Tryd.prog 19 #[.string ⟨(txt a b c d).toArray⟩] W fun e w' => e = .returned (.tuple #[recV a b c d, .bool true]) ∧ Below W.heap.size W w' := by
  obtain ⟨g1, g2, g3, g4⟩ := hg.all
  have h := read_ok ⟨(txt a b c d).toArray⟩ _ _ _ _ (by rw [size_tx]; have := txt_len hg; omega) (txt_split hg).1 (txt_split hg).2 (av_itoa g1).1 (av_itoa g2).1 (av_itoa g3).1 (av_itoa g4).1 W hE
  rw [(av_itoa g1).2, (av_itoa g2).2, (av_itoa g3).2, (av_itoa g4).2] at h
  exact h
theorem C4.zero (w : World) : C4 (w.alloc (.cells #[.int .i64 0, .int .i64 0, .int .i64 0, .int .i64 0] 25)) w.heap.size (.int .i64 0) (.int .i64 0) (.int .i64 0) (.int .i64 0) ∧ Below w.heap.size w (w.alloc (.cells #[.int .i64 0, .int .i64 0, .int .i64 0, .int .i64 0] 25)) := ⟨C4.new w _ _ _ _ _, by go_grown⟩
theorem two_new {w w1 w' : World} {o : Obj} (h : Below w.heap.size w w1) (hb : Below (w1.alloc o).heap.size (w1.alloc o) w') : Below w.heap.size w w' ∧ Below w1.heap.size w1 w' := by
  have k : Below w1.heap.size w1 w' := (below_new1 w1 o).trans (hb.mono (below_new1 w1 o).size)
  exact ⟨h.trans (k.mono h.size), k⟩
set_option maxRecDepth 20000 in
set_option maxHeartbeats 3200000 in
theorem impl_parse (s : ByteArray) (hs : s.size ≤ 1048576) (w : World) (hE : Env w) : Calls Tryd.prog 9 #[.string s] w (Ans s w) := by
  have HE := Lib.hid hE
  have HK := Lib.hid (C4.zero w)
  clear hE
  by_cases hM : Miss s
  · obtain ⟨a, b, c, d, ok, cR, h4⟩ := read_some s hs
    unfold recV at cR
    have CR := Lib.hid cR
    have HA := Lib.hid (show ∀ w', Below w.heap.size w w' → Ans s w (.returned (.tuple #[recV 0 0 0 0, .bool false])) w' from fun w' hb => ⟨.inr ⟨hM, rfl⟩, hb⟩)
    have hT : ok = true → (⟨(fmt a b c d).toArray⟩ : ByteArray) ≠ s := fun h => fmt_miss hM (h4 h) a b c d
    have cF := fun W hW => impl_fmt a b c d W hW
    unfold Out at cF
    obtain ⟨T, hTe⟩ : ∃ T, (⟨(fmt a b c d).toArray⟩ : ByteArray) = T := ⟨_, rfl⟩
    rw [hTe] at cF hT
    clear cR h4 hM hTe
    go_enter Tryd.func9, Tryd.ntmps9
    go_wp2_with fail
    refine (CR.out _ (HE.out.below HK.out.2)).mono ?_
    rintro e w1 ⟨rfl, hb⟩
    have K1 := Lib.hid (HK.out.1.keep hb (Nat.le_refl _))
    have B1 := Lib.hid (HK.out.2.trans (hb.mono HK.out.2.size))
    clear hb
    cases ok
    · obtain ⟨k0, k1, k2, k3, f0', f1', f2', f3', hlt⟩ := K1.out
      go_wp2_with fail
      refine bodyPost_ret (v := .tuple #[.agg #[.int .i64 0, .int .i64 0, .int .i64 0, .int .i64 0], .bool false]) ?_ rfl (HA.out _ (by have hbw := B1.out; go_grown))
      simp [results, Tryd.results9, go_sem, k0, k1, k2, k3, hlt, Nat.ne_of_lt hlt]
    · have hne := hT rfl
      have hne3 : ¬ T.toList = s.toList := fun e => hne (Pu.bytes_inj e)
      have hne4 : (T.toList == s.toList) = false := by rw [beq_eq_false_iff_ne]; exact hne3
      have hne5 : (T.toList != s.toList) = true := by rw [bne, hne4]; rfl
      have hne6 : T.data ≠ s.data := fun e => hne (by cases T; cases s; cases e; rfl)
      clear hT
      go_wp2_with fail
      refine (cF _ (HE.out.below (B1.out.alloc B1.out.size _)).tab).mono ?_
      rintro e w2 ⟨rfl, hb⟩
      have X := two_new B1.out hb
      have K2 := Lib.hid (K1.out.keep X.2 (Nat.le_refl _))
      have B2 := Lib.hid X.1
      clear hb X
      obtain ⟨k0, k1, k2, k3, f0', f1', f2', f3', hlt⟩ := K2.out
      go_wp2_with fail
      refine bodyPost_ret (v := .tuple #[.agg #[.int .i64 0, .int .i64 0, .int .i64 0, .int .i64 0], .bool false]) ?_ rfl (HA.out _ (by have hbw := B2.out; go_grown))
      simp [results, Tryd.results9, go_sem, k0, k1, k2, k3, hlt, Nat.ne_of_lt hlt]
  · obtain ⟨a, b, c, d, hg, hsd⟩ : ∃ a b c d, Gd a b c d ∧ s.data.toList = txt a b c d := by
      apply Classical.byContradiction
      intro hn
      exact hM fun a b c d hg e => hn ⟨a, b, c, d, hg, e⟩
    obtain rfl := tx_of hsd
    have cR := fun W hW => read_hit hg W hW
    unfold recV at cR
    have cF := fun W hW => impl_fmt a b c d W hW
    unfold Out at cF
    rw [fmt_good hg] at cF
    have HA := Lib.hid (show ∀ w', Below w.heap.size w w' → Ans ⟨(txt a b c d).toArray⟩ w (.returned (.tuple #[recV a b c d, .bool true])) w' from fun w' hb => ⟨.inl ⟨a, b, c, d, hg, rfl, rfl⟩, hb⟩)
    obtain ⟨S, hS⟩ : ∃ S, (⟨(txt a b c d).toArray⟩ : ByteArray) = S := ⟨_, rfl⟩
    rw [hS] at cF cR HA ⊢
    have CR := Lib.hid cR
    clear hS hM hsd hs hg cR
    go_enter Tryd.func9, Tryd.ntmps9
    go_wp2_with fail
    refine (CR.out _ (HE.out.below HK.out.2)).mono ?_
    rintro e w1 ⟨rfl, hb⟩
    have K1 := Lib.hid (HK.out.1.keep hb (Nat.le_refl _))
    have B1 := Lib.hid (HK.out.2.trans (hb.mono HK.out.2.size))
    clear hb
    go_wp2_with fail
    refine (cF _ (HE.out.below (B1.out.alloc B1.out.size _)).tab).mono ?_
    rintro e w2 ⟨rfl, hb⟩
    have X := two_new B1.out hb
    have K2 := Lib.hid (K1.out.keep X.2 (Nat.le_refl _))
    have R2 := Lib.hid ((C4.new w1 (.int .i64 a) (.int .i64 b) (.int .i64 c) (.int .i64 d) 25).keep hb (Nat.le_refl _))
    have B2 := Lib.hid X.1
    clear hb X
    obtain ⟨k0, k1, k2, k3, f0', f1', f2', f3', hlt⟩ := K2.out
    obtain ⟨r0, r1, r2, r3, _, _, _, _, rlt⟩ := R2.out
    go_wp2_with fail
    refine bodyPost_ret (v := .tuple #[.agg #[.int .i64 a, .int .i64 b, .int .i64 c, .int .i64 d], .bool true]) ?_ rfl (HA.out _ (by have hbw := B2.out; go_grown))
    simp [results, Tryd.results9, go_sem, k0, k1, k2, k3, r0, r1, r2, r3]
theorem txt_inj {a b c d a' b' c' d' : Int} (h : Gd a b c d) (h' : Gd a' b' c' d') (e : txt a b c d = txt a' b' c' d') : a = a' ∧ b = b' ∧ c = c' ∧ d = d' := by
  have hf := txt_fields h
  rw [e, txt_fields h'] at hf
  unfold words at hf
  simp only [List.cons.injEq, and_true] at hf
  obtain ⟨g1, g2, g3, g4⟩ := h.all
  obtain ⟨l1, l2, l3, l4⟩ := h'.all
  have k : ∀ {m n : Int}, (-32767 ≤ m ∧ m ≤ 32767) → (-32767 ≤ n ∧ n ≤ 32767) → Lib.itoa n = Lib.itoa m → m = n := fun {m n} hm hn he => by
    have := atoi_itoa hn
    rw [he, atoi_itoa hm] at this
    exact Lib.NumEnd.ok.inj this
  exact ⟨k g1 l1 hf.1, k g2 l2 hf.2.1, k g3 l3 hf.2.2.1, k g4 l4 hf.2.2.2⟩
set_option maxHeartbeats 1600000 in
theorem eq_any (a b c d : Int) (w : World) : Calls Tryd.prog 10 #[.agg #[.int .i64 a, .int .i64 b, .int .i64 c, .int .i64 d], .agg #[.int .i64 a, .int .i64 b, .int .i64 c, .int .i64 d]] w fun e w' => e = .returned (.bool true) ∧ Below w.heap.size w w' := by
  go_enter Tryd.func10, Tryd.ntmps10
  go_wp2_with fail
  go_ret
  exact ⟨rfl, by go_grown⟩
/-- both tell the same -/
theorem ans_same {s : ByteArray} {w w' : World} {e : Ending} (h : Ans s w e w') : ∃ a b c d ok, (∀ {w2 w3 : World} {e2 : Ending}, Ans s w2 e2 w3 → e2 = .returned (.tuple #[.agg #[.int .i64 a, .int .i64 b, .int .i64 c, .int .i64 d], .bool ok]) ∧ Below w2.heap.size w2 w3) ∧ e = .returned (.tuple #[.agg #[.int .i64 a, .int .i64 b, .int .i64 c, .int .i64 d], .bool ok]) ∧ Below w.heap.size w w' := by
  obtain ⟨h1, hb⟩ := h
  rcases h1 with ⟨a, b, c, d, hg, hs, rfl⟩ | ⟨hm, rfl⟩
  · refine ⟨a, b, c, d, true, fun {w2 w3 e2} h2 => ⟨?_, h2.2⟩, rfl, hb⟩
    rcases h2.1 with ⟨a', b', c', d', hg', hs', rfl⟩ | ⟨hm, _⟩
    · obtain ⟨rfl, rfl, rfl, rfl⟩ := txt_inj hg' hg (hs'.symm.trans hs)
      rfl
    · exact absurd hs (hm a b c d hg)
  · refine ⟨0, 0, 0, 0, false, fun {w2 w3 e2} h2 => ⟨?_, h2.2⟩, rfl, hb⟩
    rcases h2.1 with ⟨a', b', c', d', hg', hs', _⟩ | ⟨_, rfl⟩
    · exact absurd hs' (hm a' b' c' d' hg')
    · rfl
end Go.Proofs.YtjkhbjdhfklnaabDoor.Rcd
