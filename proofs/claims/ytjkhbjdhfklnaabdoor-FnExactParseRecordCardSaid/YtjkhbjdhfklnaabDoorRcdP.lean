/- ParseRecord of the model. -/
import Derived.Test.YtjkhbjdhfklnaabDoorRcdF
import Derived.Lib.SmallJoins
namespace Go.Proofs.YtjkhbjdhfklnaabDoor.Rcd
open Go.ChangeShapes Go.WideShapes Go.ChangeAt Go.RowKit Go.Proofs.YtjkhbjdhfklnaabDoor Go.Proofs.YtjkhbjdhfklnaabDoor.Fld
set_option linter.unusedVariables false
set_option linter.unusedSimpArgs false
theorem own_cases {base : Nat} {w : World} {v : Value} {xs : List ByteArray} (h : Own base w v xs) : (v = .slice none 0 0 ∧ xs = []) ∨ ∃ g cap, v = .slice (some ⟨g, 0, none⟩) xs.length cap ∧ base ≤ g ∧ g < w.heap.size ∧ ∀ i (hi : i < xs.length), w.cell? ⟨g, i, none⟩ = some (.string xs[i]) := by
  have h' := h
  rcases h.2 with ⟨h1, h2⟩ | ⟨g, cap, cur, rfl, hb, hg, rest⟩
  · exact .inl ⟨h1, List.eq_nil_of_length_eq_zero h2⟩
  · refine .inr ⟨g, cap, rfl, hb, lt_of_block hg, fun i hi => ?_⟩
    have := World.ownsRow.cellAt h' i (by omega)
    rw [this]
    unfold strV
    rw [List.getElem?_map, List.getElem?_eq_getElem hi]
    rfl
/-- a block of four cells -/
structure C4 (w : World) (n : Nat) (a b c d : Value) : Prop where
  c0 : w.cell? ⟨n, 0, none⟩ = some a
  c1 : w.cell? ⟨n, 1, none⟩ = some b
  c2 : w.cell? ⟨n, 2, none⟩ = some c
  c3 : w.cell? ⟨n, 3, none⟩ = some d
  f0 : w.frozen? ⟨n, 0, none⟩ = false
  f1 : w.frozen? ⟨n, 1, none⟩ = false
  f2 : w.frozen? ⟨n, 2, none⟩ = false
  f3 : w.frozen? ⟨n, 3, none⟩ = false
  lt : n < w.heap.size
theorem C4.keep {w w' : World} {n B : Nat} {a b c d : Value} (h : C4 w n a b c d) (hb : Below B w w') (hB : w.heap.size ≤ B) : C4 w' n a b c d :=
  ⟨(hb.cell (p := ⟨n, 0, none⟩) (Nat.lt_of_lt_of_le h.lt hB)).trans h.c0, (hb.cell (p := ⟨n, 1, none⟩) (Nat.lt_of_lt_of_le h.lt hB)).trans h.c1, (hb.cell (p := ⟨n, 2, none⟩) (Nat.lt_of_lt_of_le h.lt hB)).trans h.c2, (hb.cell (p := ⟨n, 3, none⟩) (Nat.lt_of_lt_of_le h.lt hB)).trans h.c3,
   (hb.frozen (p := ⟨n, 0, none⟩) (Nat.lt_of_lt_of_le h.lt hB)).trans h.f0, (hb.frozen (p := ⟨n, 1, none⟩) (Nat.lt_of_lt_of_le h.lt hB)).trans h.f1, (hb.frozen (p := ⟨n, 2, none⟩) (Nat.lt_of_lt_of_le h.lt hB)).trans h.f2, (hb.frozen (p := ⟨n, 3, none⟩) (Nat.lt_of_lt_of_le h.lt hB)).trans h.f3, Nat.lt_of_lt_of_le h.lt hb.size⟩
theorem C4.new (w : World) (a b c d : Value) (T : TypeId) : C4 (w.alloc (.cells #[a, b, c, d] T)) w.heap.size a b c d := by
  constructor <;> simp [go_sem]
/-- the strings of a list of four -/
structure S4 (w : World) (g : Nat) (a b c d : ByteArray) : Prop where
  c0 : w.cell? ⟨g, 0, none⟩ = some (.string a)
  c1 : w.cell? ⟨g, 1, none⟩ = some (.string b)
  c2 : w.cell? ⟨g, 2, none⟩ = some (.string c)
  c3 : w.cell? ⟨g, 3, none⟩ = some (.string d)
  lt : g < w.heap.size
theorem S4.keep {w w' : World} {n B : Nat} {a b c d : ByteArray} (h : S4 w n a b c d) (hb : Below B w w') (hB : w.heap.size ≤ B) : S4 w' n a b c d :=
  ⟨(hb.cell (p := ⟨n, 0, none⟩) (Nat.lt_of_lt_of_le h.lt hB)).trans h.c0, (hb.cell (p := ⟨n, 1, none⟩) (Nat.lt_of_lt_of_le h.lt hB)).trans h.c1, (hb.cell (p := ⟨n, 2, none⟩) (Nat.lt_of_lt_of_le h.lt hB)).trans h.c2, (hb.cell (p := ⟨n, 3, none⟩) (Nat.lt_of_lt_of_le h.lt hB)).trans h.c3, Nat.lt_of_lt_of_le h.lt hb.size⟩
theorem own_four {base : Nat} {w : World} {v : Value} {a b c d : ByteArray} (h : Own base w v [a, b, c, d]) : ∃ g cap, v = .slice (some ⟨g, 0, none⟩) 4 cap ∧ S4 w g a b c d := by
  rcases own_cases h with ⟨_, h⟩ | ⟨g, cap, rfl, _, hg, hc⟩
  · cases h
  · exact ⟨g, cap, rfl, hc 0 (by show 0 < 4; omega), hc 1 (by show 1 < 4; omega), hc 2 (by show 2 < 4; omega), hc 3 (by show 3 < 4; omega), hg⟩
/-- what the model reads of a field -/
noncomputable def l9 (s : ByteArray) : Int × Bool := if 1 < s.size ∧ Dec.byt s 0 = 45 then (-((Pu.out (s.extract 1 s.size).data.toList).1 : Int), (Pu.out (s.extract 1 s.size).data.toList).2) else (((Pu.out s.data.toList).1 : Int), (Pu.out s.data.toList).2)
theorem ext1 (s : ByteArray) : (s.extract 1 s.size).data.toList = s.data.toList.drop 1 := by
  rw [Lib.extract_data, List.take_of_length_le (by rw [List.length_drop, ← Lib.size_eq]; omega)]
theorem l9_itoa {n : Int} (h : -32767 ≤ n ∧ n ≤ 32767) : l9 ⟨(Lib.itoa n).toArray⟩ = (n, true) := by
  have hs : (⟨(Lib.itoa n).toArray⟩ : ByteArray).size = (Lib.itoa n).length := size_tx _
  rcases itoa_cases n h with ⟨u, rfl, hu, e⟩ | ⟨u, rfl, h1, hu, e⟩
  · unfold l9
    rw [if_neg, show (⟨(Lib.itoa (u : Int)).toArray⟩ : ByteArray).data.toList = Lib.itoa (u : Int) from rfl, e, out_dec hu]
    intro hc
    have hb := hc.2
    unfold Dec.byt at hb
    rw [show (⟨(Lib.itoa (u : Int)).toArray⟩ : ByteArray).data.toList = Lib.itoa (u : Int) from rfl, e] at hb
    cases hd : Lib.decDigits u with
    | nil => exact dec_ne u hd
    | cons c r =>
      rw [hd] at hb
      have := (Pu.dec_facts u).2 c (by rw [hd]; exact List.mem_cons_self ..)
      unfold Pu.dig at this
      have hb' : c.toNat = 45 := hb
      omega
  · unfold l9
    have hl : 1 ≤ (Lib.decDigits u).length := by cases hd : Lib.decDigits u with | nil => exact absurd hd (dec_ne u) | cons c r => simp
    rw [if_pos ⟨by rw [hs, e, List.length_cons]; omega, by unfold Dec.byt; rw [show (⟨(Lib.itoa (-(u : Int))).toArray⟩ : ByteArray).data.toList = Lib.itoa (-(u : Int)) from rfl, e]; rfl⟩, ext1, show (⟨(Lib.itoa (-(u : Int))).toArray⟩ : ByteArray).data.toList = Lib.itoa (-(u : Int)) from rfl, e, List.drop_succ_cons, List.drop_zero, out_dec hu]
set_option maxHeartbeats 1600000 in
theorem l9_any (s : ByteArray) (w : World) : Calls Tryd.prog 18 #[.string s] w fun e w' => e = .returned (.tuple #[.int .i64 (l9 s).1, .bool (l9 s).2]) ∧ Below w.heap.size w w' := by
  by_cases h1 : 1 < s.size
  · obtain ⟨c, hc, hcb, hidx⟩ := Dec.idx_run s 0 (by omega) 0 rfl
    have hlen : (1 : Int) < (s.size : Int) := by omega
    by_cases h45 : Dec.byt s 0 = 45
    · have e : l9 s = (-((Pu.out (s.extract 1 s.size).data.toList).1 : Int), (Pu.out (s.extract 1 s.size).data.toList).2) := if_pos ⟨h1, h45⟩
      have hsl : ∀ W, (Instr.slice 9 (.string s) (some (.int .i64 1)) none none).run Tryd.prog W = .ok (.string (s.extract 1 s.size)) W := fun W => by
        rw [run_slice_string_from_if W 9 s .i64 _ Tryd.underlying9, if_pos ⟨by omega, by omega⟩]
        rfl
      have cu := fun W => Pu.spec_any (s.extract 1 s.size) W
      unfold Pu.Res at cu
      have hle := out_le (s.extract 1 s.size).data.toList
      rw [e]
      generalize Pu.out (s.extract 1 s.size).data.toList = q at *
      generalize s.extract 1 s.size = t at *
      obtain ⟨m, b⟩ := q
      have c45 : ((c : Int) == 45) = true := by rw [hc, h45]; rfl
      have hneg : IntKind.i64.wrap (-(m : Int)) = -(m : Int) := by have : m ≤ 1000000000 := hle; rw [IntKind.wrap_i64]; omega
      clear e hc h45
      go_enter Tryd.func18, Tryd.ntmps18
      go_wp2_with fail
      refine (cu _).mono ?_
      rintro e w1 ⟨rfl, hb⟩
      have Hb := Lib.hid hb
      clear hb
      go_wp2_with fail
      go_ret2
      exact ⟨rfl, Hb.out⟩
    · have e : l9 s = (((Pu.out s.data.toList).1 : Int), (Pu.out s.data.toList).2) := if_neg (fun h => h45 h.2)
      have cu := fun W => Pu.spec_any s W
      unfold Pu.Res at cu
      rw [e]
      generalize Pu.out s.data.toList = q at *
      obtain ⟨m, b⟩ := q
      have c45 : ((c : Int) == 45) = false := by rw [beq_eq_false_iff_ne]; omega
      clear e hc h45
      go_enter Tryd.func18, Tryd.ntmps18
      go_wp2_with fail
      refine (cu _).mono ?_
      rintro e w1 ⟨rfl, hb⟩
      have Hb := Lib.hid hb
      clear hb
      go_wp2_with fail
      go_ret2
      exact ⟨rfl, Hb.out⟩
  · have e : l9 s = (((Pu.out s.data.toList).1 : Int), (Pu.out s.data.toList).2) := if_neg (fun h => h1 h.1)
    have hlen : ¬ (1 : Int) < (s.size : Int) := by omega
    have cu := fun W => Pu.spec_any s W
    unfold Pu.Res at cu
    rw [e]
    generalize Pu.out s.data.toList = q at *
    obtain ⟨m, b⟩ := q
    clear e
    go_enter Tryd.func18, Tryd.ntmps18
    go_wp2_with fail
    refine (cu _).mono ?_
    rintro e w1 ⟨rfl, hb⟩
    have Hb := Lib.hid hb
    clear hb
    go_wp2_with fail
    go_ret2
    exact ⟨rfl, Hb.out⟩
/-- what ParseRecord tells -/
def recV (a b c d : Int) : Value := .agg #[.int .i64 a, .int .i64 b, .int .i64 c, .int .i64 d]
/-- no record has this text -/
def Miss (s : ByteArray) : Prop := ∀ a b c d, Gd a b c d → s.data.toList ≠ txt a b c d
def Ans (s : ByteArray) (w : World) (e : Ending) (w' : World) : Prop := ((∃ a b c d, Gd a b c d ∧ s.data.toList = txt a b c d ∧ e = .returned (.tuple #[recV a b c d, .bool true])) ∨ (Miss s ∧ e = .returned (.tuple #[recV 0 0 0 0, .bool false]))) ∧ Below w.heap.size w w'
theorem tx_of {s : ByteArray} {l : List UInt8} (h : s.data.toList = l) : s = ⟨l.toArray⟩ := by
  apply ByteArray.ext
  apply Array.toList_inj.1
  simpa using h
/-- the text of a record that is told of a line with four fields: the line, only if it is one -/
theorem fmt_miss {s : ByteArray} (hm : Miss s) (h4 : (resF s).length = 4) (a b c d : Int) : (⟨(fmt a b c d).toArray⟩ : ByteArray) ≠ s := by
  intro e
  have e2 : fmt a b c d = s.data.toList := by rw [← e]
  by_cases hg : Gd a b c d
  · rw [fmt_good hg] at e2; exact hm a b c d hg e2.symm
  · rw [fmt_bad hg] at e2; exact split_ne h4 e2.symm
theorem four {xs : List ByteArray} (h : xs.length = 4) : ∃ a b c d, xs = [a, b, c, d] := by
  match xs, h with
  | [a, b, c, d], _ => exact ⟨a, b, c, d, rfl⟩
theorem below_new1 (w : World) (o : Obj) : Below w.heap.size w (w.alloc o) := by go_grown
set_option maxRecDepth 20000 in
set_option maxHeartbeats 3200000 in
theorem spec_parse (s : ByteArray) (hs : s.size ≤ 1048576) (w : World) : Calls Tryd.prog 8 #[.string s] w (Ans s w) := by
  have c1 := fun W => Fld.spec_any s hs W
  unfold Spl at c1
  have HK := Lib.hid (show C4 (w.alloc (.cells #[.int .i64 0, .int .i64 0, .int .i64 0, .int .i64 0] 25)) w.heap.size (.int .i64 0) (.int .i64 0) (.int .i64 0) (.int .i64 0) ∧ Below w.heap.size w (w.alloc (.cells #[.int .i64 0, .int .i64 0, .int .i64 0, .int .i64 0] 25)) from ⟨C4.new w _ _ _ _ _, by go_grown⟩)
  by_cases hok : okF s = true ∧ (resF s).length = 4
  · obtain ⟨p0, p1, p2, p3, hf⟩ := four hok.2
    by_cases hM : Miss s
    · have hT := fmt_miss hM hok.2
      rw [hok.1, hf] at c1
      have d0 := fun W => l9_any p0 W
      have d1 := fun W => l9_any p1 W
      have d2 := fun W => l9_any p2 W
      have d3 := fun W => l9_any p3 W
      obtain ⟨x0, hx0⟩ : ∃ p, l9 p0 = p := ⟨_, rfl⟩
      obtain ⟨x1, hx1⟩ : ∃ p, l9 p1 = p := ⟨_, rfl⟩
      obtain ⟨x2, hx2⟩ : ∃ p, l9 p2 = p := ⟨_, rfl⟩
      obtain ⟨x3, hx3⟩ : ∃ p, l9 p3 = p := ⟨_, rfl⟩
      obtain ⟨m0, b0⟩ := x0
      obtain ⟨m1, b1⟩ := x1
      obtain ⟨m2, b2⟩ := x2
      obtain ⟨m3, b3⟩ := x3
      rw [hx0] at d0
      rw [hx1] at d1
      rw [hx2] at d2
      rw [hx3] at d3
      have cF := fun W => spec_fmt m0 m1 m2 m3 W
      unfold Out at cF
      have hT := hT m0 m1 m2 m3
      obtain ⟨T, hTe⟩ : ∃ T, (⟨(fmt m0 m1 m2 m3).toArray⟩ : ByteArray) = T := ⟨_, rfl⟩
      rw [hTe] at cF hT
      have hne3 : ¬ T.toList = s.toList := fun e => hT (Pu.bytes_inj e)
      have hne4 : (T.toList == s.toList) = false := by rw [beq_eq_false_iff_ne]; exact hne3
      have hne5 : (T.toList != s.toList) = true := by rw [bne, hne4]; rfl
      have hne6 : T.data ≠ s.data := fun e => hT (by cases T; cases s; cases e; rfl)
      have HM := Lib.hid hM
      clear hx0 hx1 hx2 hx3 hTe hok hf hM
      go_enter Tryd.func8, Tryd.ntmps8
      go_wp2_with fail
      refine (c1 _).mono ?_
      rintro e w1 ⟨v, rfl, hown, hb⟩
      obtain ⟨g, cap, rfl, hS⟩ := own_four hown
      have K1 := Lib.hid (HK.out.1.keep hb (Nat.le_refl _))
      have B1 := Lib.hid (HK.out.2.trans (hb.mono HK.out.2.size))
      have S1 := Lib.hid hS
      clear hb hown hS
      have u0 := S1.out.c0
      go_wp2_with fail
      refine (d0 _).mono ?_
      rintro e w2 ⟨rfl, hb⟩
      have K2 := Lib.hid (K1.out.keep hb (Nat.le_refl _))
      have B2 := Lib.hid (B1.out.trans (hb.mono B1.out.size))
      have S2 := Lib.hid (S1.out.keep hb (Nat.le_refl _))
      clear hb u0
      have u1 := S2.out.c1
      go_wp2_with fail
      refine (d1 _).mono ?_
      rintro e w3 ⟨rfl, hb⟩
      have K3 := Lib.hid (K2.out.keep hb (Nat.le_refl _))
      have B3 := Lib.hid (B2.out.trans (hb.mono B2.out.size))
      have S3 := Lib.hid (S2.out.keep hb (Nat.le_refl _))
      clear hb u1
      have u2 := S3.out.c2
      go_wp2_with fail
      refine (d2 _).mono ?_
      rintro e w4 ⟨rfl, hb⟩
      have K4 := Lib.hid (K3.out.keep hb (Nat.le_refl _))
      have B4 := Lib.hid (B3.out.trans (hb.mono B3.out.size))
      have S4 := Lib.hid (S3.out.keep hb (Nat.le_refl _))
      clear hb u2
      have u3 := S4.out.c3
      go_wp2_with fail
      refine (d3 _).mono ?_
      rintro e w5 ⟨rfl, hb⟩
      have K5 := Lib.hid (K4.out.keep hb (Nat.le_refl _))
      have B5 := Lib.hid (B4.out.trans (hb.mono B4.out.size))
      have S5 := Lib.hid (S4.out.keep hb (Nat.le_refl _))
      clear hb u3
      obtain ⟨k0, k1, k2, k3, f0', f1', f2', f3', hlt⟩ := K5.out
      have HB := Lib.hid B5.out
      cases b0
      · go_wp2_with fail
        refine bodyPost_ret (v := .tuple #[.agg #[.int .i64 0, .int .i64 0, .int .i64 0, .int .i64 0], .bool false]) ?_ rfl ⟨.inr ⟨HM.out, rfl⟩, ?_⟩
        · simp [results, Tryd.results8, go_sem, k0, k1, k2, k3, hlt, Nat.ne_of_lt hlt]
        · have hbw := HB.out
          go_grown
      · cases b1
        · go_wp2_with fail
          refine bodyPost_ret (v := .tuple #[.agg #[.int .i64 0, .int .i64 0, .int .i64 0, .int .i64 0], .bool false]) ?_ rfl ⟨.inr ⟨HM.out, rfl⟩, ?_⟩
          · simp [results, Tryd.results8, go_sem, k0, k1, k2, k3, hlt, Nat.ne_of_lt hlt]
          · have hbw := HB.out
            go_grown
        · cases b2
          · go_wp2_with fail
            refine bodyPost_ret (v := .tuple #[.agg #[.int .i64 0, .int .i64 0, .int .i64 0, .int .i64 0], .bool false]) ?_ rfl ⟨.inr ⟨HM.out, rfl⟩, ?_⟩
            · simp [results, Tryd.results8, go_sem, k0, k1, k2, k3, hlt, Nat.ne_of_lt hlt]
            · have hbw := HB.out
              go_grown
          · cases b3
            · go_wp2_with fail
              refine bodyPost_ret (v := .tuple #[.agg #[.int .i64 0, .int .i64 0, .int .i64 0, .int .i64 0], .bool false]) ?_ rfl ⟨.inr ⟨HM.out, rfl⟩, ?_⟩
              · simp [results, Tryd.results8, go_sem, k0, k1, k2, k3, hlt, Nat.ne_of_lt hlt]
              · have hbw := HB.out
                go_grown
            · go_wp2_with fail
              refine (cF _).mono ?_
              rintro e w6 ⟨rfl, hb⟩
              have K6 := Lib.hid (K5.out.keep ((below_new1 w5 _).trans (hb.mono (below_new1 w5 _).size)) (Nat.le_refl _))
              have B6 := Lib.hid (B5.out.trans (((below_new1 w5 _).trans (hb.mono (below_new1 w5 _).size)).mono B5.out.size))
              clear hb k0 k1 k2 k3 f0' f1' f2' f3' hlt
              obtain ⟨k0, k1, k2, k3, f0', f1', f2', f3', hlt⟩ := K6.out
              go_wp2_with fail
              refine bodyPost_ret (v := .tuple #[.agg #[.int .i64 0, .int .i64 0, .int .i64 0, .int .i64 0], .bool false]) ?_ rfl ⟨.inr ⟨HM.out, rfl⟩, ?_⟩
              · simp [results, Tryd.results8, go_sem, k0, k1, k2, k3, hlt, Nat.ne_of_lt hlt]
              · have hbw := B6.out
                go_grown
    · unfold Miss at hM
      obtain ⟨a, b, c, d, hg, hsd⟩ : ∃ a b c d, Gd a b c d ∧ s.data.toList = txt a b c d := by
        apply Classical.byContradiction
        intro hn
        exact hM fun a b c d hg e => hn ⟨a, b, c, d, hg, e⟩
      obtain rfl := tx_of hsd
      obtain ⟨g1, g2, g3, g4⟩ := hg.all
      rw [(txt_split hg).1, (txt_split hg).2] at c1
      have d0 := fun W => l9_any ⟨(Lib.itoa a).toArray⟩ W
      have d1 := fun W => l9_any ⟨(Lib.itoa b).toArray⟩ W
      have d2 := fun W => l9_any ⟨(Lib.itoa c).toArray⟩ W
      have d3 := fun W => l9_any ⟨(Lib.itoa d).toArray⟩ W
      rw [l9_itoa g1] at d0
      rw [l9_itoa g2] at d1
      rw [l9_itoa g3] at d2
      rw [l9_itoa g4] at d3
      have cF := fun W => spec_fmt a b c d W
      unfold Out at cF
      rw [fmt_good hg] at cF
      have HA := Lib.hid (show ∀ w', Below w.heap.size w w' → Ans ⟨(txt a b c d).toArray⟩ w (.returned (.tuple #[recV a b c d, .bool true])) w' from fun w' hb => ⟨.inl ⟨a, b, c, d, hg, rfl, rfl⟩, hb⟩)
      obtain ⟨S, hS⟩ : ∃ S, (⟨(txt a b c d).toArray⟩ : ByteArray) = S := ⟨_, rfl⟩
      rw [hS] at cF c1 HA ⊢
      generalize (⟨(Lib.itoa a).toArray⟩ : ByteArray) = p0 at *
      generalize (⟨(Lib.itoa b).toArray⟩ : ByteArray) = p1 at *
      generalize (⟨(Lib.itoa c).toArray⟩ : ByteArray) = p2 at *
      generalize (⟨(Lib.itoa d).toArray⟩ : ByteArray) = p3 at *
      clear hS hok hf hM hsd hs hg g1 g2 g3 g4
      go_enter Tryd.func8, Tryd.ntmps8
      go_wp2_with fail
      refine (c1 _).mono ?_
      rintro e w1 ⟨v, rfl, hown, hb⟩
      obtain ⟨g, cap, rfl, hS⟩ := own_four hown
      have K1 := Lib.hid (HK.out.1.keep hb (Nat.le_refl _))
      have B1 := Lib.hid (HK.out.2.trans (hb.mono HK.out.2.size))
      have S1 := Lib.hid hS
      clear hb hown hS
      have u0 := S1.out.c0
      go_wp2_with fail
      refine (d0 _).mono ?_
      rintro e w2 ⟨rfl, hb⟩
      have K2 := Lib.hid (K1.out.keep hb (Nat.le_refl _))
      have B2 := Lib.hid (B1.out.trans (hb.mono B1.out.size))
      have S2 := Lib.hid (S1.out.keep hb (Nat.le_refl _))
      clear hb u0
      have u1 := S2.out.c1
      go_wp2_with fail
      refine (d1 _).mono ?_
      rintro e w3 ⟨rfl, hb⟩
      have K3 := Lib.hid (K2.out.keep hb (Nat.le_refl _))
      have B3 := Lib.hid (B2.out.trans (hb.mono B2.out.size))
      have S3 := Lib.hid (S2.out.keep hb (Nat.le_refl _))
      clear hb u1
      have u2 := S3.out.c2
      go_wp2_with fail
      refine (d2 _).mono ?_
      rintro e w4 ⟨rfl, hb⟩
      have K4 := Lib.hid (K3.out.keep hb (Nat.le_refl _))
      have B4 := Lib.hid (B3.out.trans (hb.mono B3.out.size))
      have S4 := Lib.hid (S3.out.keep hb (Nat.le_refl _))
      clear hb u2
      have u3 := S4.out.c3
      go_wp2_with fail
      refine (d3 _).mono ?_
      rintro e w5 ⟨rfl, hb⟩
      have K5 := Lib.hid (K4.out.keep hb (Nat.le_refl _))
      have B5 := Lib.hid (B4.out.trans (hb.mono B4.out.size))
      have S5 := Lib.hid (S4.out.keep hb (Nat.le_refl _))
      clear hb u3
      go_wp2_with fail
      refine (cF _).mono ?_
      rintro e w6 ⟨rfl, hb⟩
      have K6 := Lib.hid (K5.out.keep ((below_new1 w5 _).trans (hb.mono (below_new1 w5 _).size)) (Nat.le_refl _))
      have R6 := Lib.hid ((C4.new w5 (.int .i64 a) (.int .i64 b) (.int .i64 c) (.int .i64 d) 25).keep hb (Nat.le_refl _))
      have B6 := Lib.hid (B5.out.trans (((below_new1 w5 _).trans (hb.mono (below_new1 w5 _).size)).mono B5.out.size))
      clear hb
      obtain ⟨k0, k1, k2, k3, f0', f1', f2', f3', hlt⟩ := K6.out
      obtain ⟨r0, r1, r2, r3, _, _, _, _, rlt⟩ := R6.out
      go_wp2_with fail
      refine bodyPost_ret (v := .tuple #[.agg #[.int .i64 a, .int .i64 b, .int .i64 c, .int .i64 d], .bool true]) ?_ rfl (HA.out _ ?_)
      · simp [results, Tryd.results8, go_sem, k0, k1, k2, k3, r0, r1, r2, r3]
      · have hbw := B6.out
        go_grown
  · have hM : Miss s := fun a b c d hg e => hok (by obtain rfl := tx_of e; rw [(txt_split hg).1, (txt_split hg).2]; exact ⟨rfl, rfl⟩)
    have HM := Lib.hid hM
    obtain ⟨R, hR⟩ : ∃ R, resF s = R := ⟨_, rfl⟩
    obtain ⟨ok, hokk⟩ : ∃ ok, okF s = ok := ⟨_, rfl⟩
    rw [hR, hokk] at hok
    rw [hR, hokk] at c1
    clear hR hokk hM
    go_enter Tryd.func8, Tryd.ntmps8
    go_wp2_with fail
    refine (c1 _).mono ?_
    rintro e w1 ⟨v, rfl, hown, hb⟩
    have K1 := Lib.hid (HK.out.1.keep hb (Nat.le_refl _))
    have B1 := Lib.hid (HK.out.2.trans (hb.mono HK.out.2.size))
    clear hb
    obtain ⟨k0, k1, k2, k3, f0', f1', f2', f3', hlt⟩ := K1.out
    obtain ⟨n, g, cap, rfl, hn⟩ : ∃ n a cap, v = .slice a n cap ∧ n = R.length := by
      rcases own_cases hown with ⟨rfl, rfl⟩ | ⟨g, cap, rfl, _⟩
      · exact ⟨0, _, _, rfl, rfl⟩
      · exact ⟨_, _, _, rfl, rfl⟩
    rw [← hn] at hok
    clear hown hn
    cases ok
    · go_wp2_with fail
      refine bodyPost_ret (v := .tuple #[.agg #[.int .i64 0, .int .i64 0, .int .i64 0, .int .i64 0], .bool false]) ?_ rfl ⟨.inr ⟨HM.out, rfl⟩, ?_⟩
      · simp [results, Tryd.results8, go_sem, k0, k1, k2, k3, hlt, Nat.ne_of_lt hlt]
      · have hbw := B1.out
        go_grown
    · have hn4 : ¬ n = 4 := fun e => hok ⟨rfl, e⟩
      have hn4i : ¬ (n : Int) = 4 := by omega
      have hn4b : ((n : Int) == 4) = false := beq_eq_false_iff_ne.2 hn4i
      have hn4c : ((n : Int) != 4) = true := by rw [bne, hn4b]; rfl
      clear hok
      go_wp2_with fail
      refine bodyPost_ret (v := .tuple #[.agg #[.int .i64 0, .int .i64 0, .int .i64 0, .int .i64 0], .bool false]) ?_ rfl ⟨.inr ⟨HM.out, rfl⟩, ?_⟩
      · simp [results, Tryd.results8, go_sem, k0, k1, k2, k3, hlt, Nat.ne_of_lt hlt]
      · have hbw := B1.out
        go_grown
end Go.Proofs.YtjkhbjdhfklnaabDoor.Rcd
