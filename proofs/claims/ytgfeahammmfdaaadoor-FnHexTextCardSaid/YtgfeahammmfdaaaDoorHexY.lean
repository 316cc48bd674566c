/- DecodeHex in the program. -/
import Derived.Test.YtgfeahammmfdaaaDoorHexX
import Derived.Test.YtgfeahammmfdaaaDoorHexT
namespace Go.Proofs.YtgfeahammmfdaaaDoor.Hex
open Go.ChangeShapes Go.WideShapes Go.ChangeAt Go.RowKit Go.Proofs.YtgfeahammmfdaaaDoor
set_option linter.unusedVariables false
def byt (s : ByteArray) (i : Nat) : Nat := (s.data.toList.getD i 0).toNat
def pairV (s : ByteArray) (j : Nat) : Int := 16 * valOf (byt s (2 * j)) + valOf (byt s (2 * j + 1))
def decL (s : ByteArray) (k : Nat) : List Int := (List.range k).map (pairV s)
def okTo (s : ByteArray) (k : Nat) : Prop := ∀ j, j < k → 0 ≤ valOf (byt s (2 * j)) ∧ 0 ≤ valOf (byt s (2 * j + 1))
def goodS (s : ByteArray) : Prop := s.size ≤ 40000 ∧ s.size % 2 = 0 ∧ okTo s (s.size / 2)
open Classical in
noncomputable def decR (s : ByteArray) : ByteArray × Bool := if goodS s then (strOfNums (decL s (s.size / 2)), true) else (⟨#[]⟩, false)
theorem decR_bad {s : ByteArray} (h : ¬ goodS s) : decR s = (⟨#[]⟩, false) := if_neg h
theorem decR_good {s : ByteArray} (h : goodS s) : decR s = (strOfNums (decL s (s.size / 2)), true) := if_pos h
theorem decL_len (s : ByteArray) (k : Nat) : (decL s k).length = k := by simp [decL]
theorem decL_snoc (s : ByteArray) (k : Nat) : decL s (k + 1) = decL s k ++ [pairV s k] := by simp [decL, List.range_succ]
theorem okTo_succ {s : ByteArray} {k : Nat} (h : okTo s k) (h1 : 0 ≤ valOf (byt s (2 * k))) (h2 : 0 ≤ valOf (byt s (2 * k + 1))) : okTo s (k + 1) := by
  intro j hj
  by_cases e : j = k
  · subst e; exact ⟨h1, h2⟩
  · exact h j (by omega)
theorem ret_dec {p : ByteArray × Bool} {a : ByteArray} {b : Bool} (h : p = (a, b)) : Ending.returned (.tuple #[.string a, .bool b]) = .returned (.tuple #[.string p.1, .bool p.2]) := by rw [h]
theorem idx_run (s : ByteArray) (i : Nat) (h : i < s.size) (x : Int) (hx : x = (i : Int)) :
    ∃ c : Nat, c = byt s i ∧ c ≤ 255 ∧ ∀ w, (Instr.index 9 (.string s) (.int .i64 x)).run Tryd.prog w = .ok (.int .u8 (c : Int)) w := by
  subst hx
  have hlt2 : (i : Int) < s.size := by omega
  obtain ⟨b, hb⟩ : ∃ b : UInt8, b = s[i] := ⟨_, rfl⟩
  refine ⟨b.toNat, ?_, by have := b.toNat_lt; omega, fun w => ?_⟩
  · unfold byt
    rw [List.getD_eq_getElem?_getD, Array.getElem?_toList, Array.getElem?_eq_getElem (by simpa using h)]
    rw [hb]; rfl
  · rw [run_index_string _ _ _ _ _ Tryd.underlying9, dif_pos ⟨by omega, hlt2⟩, hb]
    rfl
theorem or_nib (p q : Int) (hp : 0 ≤ p ∧ p < 16) (hq : 0 ≤ q ∧ q < 16) : bits .or .i64 (16 * p) q = 16 * p + q := by
  have : ∀ a b : Fin 16, bits .or .i64 (16 * ((a.val : Nat) : Int)) ((b.val : Nat) : Int) = 16 * ((a.val : Nat) : Int) + ((b.val : Nat) : Int) := by decide +kernel
  have h := this ⟨p.toNat, by omega⟩ ⟨q.toNat, by omega⟩
  have e1 : ((p.toNat : Nat) : Int) = p := by omega
  have e2 : ((q.toNat : Nat) : Int) = q := by omega
  simp only [e1, e2] at h
  exact h
/-- what one more pair leaves -/
theorem one_cell (wr : World) (x : Int) : ∀ j u, [Value.int .u8 x][j]? = some u → (wr.alloc (.cells #[.int .u8 x] 5)).cell? ((⟨wr.heap.size, 0, none⟩ : Addr).add j) = some u := by
  intro j u hj
  rw [addr_add, cell_of_row _ wr.heap.size j #[.int .u8 x] 5 (0, 0) (block_new wr _)]
  simpa using hj
theorem one_one (x : Int) : ∀ u ∈ [Value.int .u8 x], u.oneCell' = true := by
  intro u hu
  simp at hu
  subst hu
  rfl
set_option maxRecDepth 20000 in
set_option maxHeartbeats 1000000 in
theorem implDec (s : ByteArray) (w : World) (hm : s.size ≤ 1048576) :
    Calls Tryd.prog 20 #[.string s] w fun e w' => e = .returned (.tuple #[.string (decR s).1, .bool (decR s).2]) ∧ Below w.heap.size w w' := by
  by_cases hb1 : s.size ≤ 40000
  · by_cases hb2 : s.size % 2 = 0
    · obtain ⟨i0, hi, hz0, hz1, hz2⟩ := info_parts info5
      have Hi := Lib.hid (And.intro hi (And.intro hz0 (And.intro hz1 hz2)))
      clear hi hz0 hz1 hz2
      obtain ⟨n2, hn2⟩ : ∃ n : Nat, n = s.size / 2 := ⟨_, rfl⟩
      obtain ⟨w0, hmk, hown, hgrow⟩ := run_make_own (P := Tryd.prog) w w.heap.size 22 5 i0 (.int .u8 0) 1 Tryd.underlying22 Hi.out.1 Hi.out.2.1 Hi.out.2.2.1 .i64 .i64 n2 (by rw [Hi.out.2.2.2]; omega) (by unfold maxLen; omega) (Nat.le_refl _)
      have Hn := Lib.hid (And.intro ((Below.refl w.heap.size w).grown hgrow (Nat.le_refl _) (fun j hj => by simp at hj)) hown)
      clear hown hgrow
      rw [show (n2 : Int) = (s.size : Int) / 2 by omega] at hmk
      subst hn2
      have h1 : ¬ (40000 : Int) < s.size := by omega
      have h2 : ((s.size : Int) % 2 == 0) = true := by rw [beq_iff_eq]; omega
      have h3 : ((s.size : Int) % 2 != 0) = false := by rw [bne, h2]; rfl
      have H2 := Lib.hid hb2
      clear hb2
      go_enter Tryd.func20, Tryd.ntmps20
      go_wp2_with fail
      clear h2 h3
      go_loopw [4, 5] (fun v iv wr => ∃ k i g cp : Nat, Hid (i = 2 * k) ∧ Hid (okTo s k) ∧ v = .slice (some ⟨g, 0, none⟩) k cp ∧ iv = .int .i64 (i : Int) ∧ i ≤ s.size ∧ wr.ownsRow w.heap.size 5 1 v k (vals8 (decL s k)) ∧ Below w.heap.size w wr)
        (fun _ iv _ => s.size - (intOf iv).toNat)
      case atStart => exact ⟨0, 0, w.heap.size, s.size / 2, rfl, (fun j hj => by omega), rfl, rfl, Nat.zero_le _, Hn.out.2, Hn.out.1⟩
      case round =>
        obtain ⟨k, i, g0, cp, hik, hok, rfl, rfl, hk, hown, hbel⟩ := hrel
        have Hr := Lib.hid (And.intro hown hbel)
        clear hown hbel
        by_cases hkl : i < s.size
        · have hkl1 : i + 1 < s.size := by have := hik.out; have := H2.out; omega
          obtain ⟨c, hc, hcb, hidx⟩ := idx_run s i hkl (i : Int) rfl
          obtain ⟨d, hd, hdb, hidx2⟩ := idx_run s (i + 1) hkl1 ((i : Int) + 1) (by omega)
          have Hc := Lib.hid (And.intro hc hd)
          clear hc hd
          have c1 := fun w => index_any c hcb w
          have c2 := fun w => index_any d hdb w
          have hv1 := valOf_lt c
          have hv2 := valOf_lt d
          obtain ⟨p, hp⟩ : ∃ p, valOf c = p := ⟨_, rfl⟩
          obtain ⟨q, hq⟩ : ∃ q, valOf d = q := ⟨_, rfl⟩
          rw [hp] at c1 hv1
          rw [hq] at c2 hv2
          have Hpq := Lib.hid (And.intro hp hq)
          clear hp hq
          by_cases hp0 : p < 0
          · have hbad : ¬ goodS s := fun h => by
              have := (h.2.2 k (by have := hik.out; omega)).1
              rw [← hik.out, ← Hc.out.1, Hpq.out.1] at this
              omega
            have Hbad := Lib.hid (decR_bad hbad)
            clear hbad
            go_wp2_with fail
            refine (c1 _).mono ?_
            rintro e w' ⟨rfl, hw⟩; subst w'
            go_wp2_with fail
            refine (c2 _).mono ?_
            rintro e w' ⟨rfl, hw⟩; subst w'
            go_wp2_with fail
            go_ret2
            exact ⟨ret_dec Hbad.out, Hr.out.2⟩
          · by_cases hq0 : q < 0
            · have hbad : ¬ goodS s := fun h => by
                have := (h.2.2 k (by have := hik.out; omega)).2
                rw [← hik.out, ← Hc.out.2, Hpq.out.2] at this
                omega
              have Hbad := Lib.hid (decR_bad hbad)
              clear hbad
              go_wp2_with fail
              refine (c1 _).mono ?_
              rintro e w' ⟨rfl, hw⟩; subst w'
              go_wp2_with fail
              refine (c2 _).mono ?_
              rintro e w' ⟨rfl, hw⟩; subst w'
              go_wp2_with fail
              go_ret2
              exact ⟨ret_dec Hbad.out, Hr.out.2⟩
            · have hv : 0 ≤ 16 * p + q ∧ 16 * p + q ≤ 255 := by omega
              obtain ⟨v, hve⟩ : ∃ v, v = 16 * p + q := ⟨_, rfl⟩
              have Hv := Lib.hid (And.intro hve (show pairV s k = v by unfold pairV; rw [← hik.out, ← Hc.out.1, ← Hc.out.2, Hpq.out.1, Hpq.out.2, hve]))
              have Hok := Lib.hid (okTo_succ hok.out (by rw [← hik.out, ← Hc.out.1, Hpq.out.1]; omega) (by rw [← hik.out, ← Hc.out.2, Hpq.out.2]; omega))
              clear hve
              have hn63 : k + 1 ≤ maxLen := by have := hik.out; unfold maxLen; omega
              have hnby : (k + 1) * 1 ≤ 140737488355328 := by have := hik.out; omega
              have hbs : w.heap.size ≤ (wr.alloc (.cells #[.int .u8 (16 * p + q)] 5)).heap.size := by
                have := Hr.out.2.size
                have e : (wr.alloc (.cells #[.int .u8 (16 * p + q)] 5)).heap.size = wr.heap.size + 1 := by
                  show (wr.heap.push _).size = _
                  simp
                rw [e]; omega
              have Hown := Lib.hid (show (wr.alloc (.cells #[.int .u8 (16 * p + q)] 5)).ownsRow w.heap.size 5 1 _ _ _ from Hr.out.1.alloc (.cells #[.int .u8 (16 * p + q)] 5))
              have Hnews := Lib.hid (one_cell wr (16 * p + q))
              have Hone := Lib.hid (one_one (16 * p + q))
              have hor := or_nib p q ⟨by omega, hv1.2⟩ ⟨by omega, hv2.2⟩
              have hsh : p * 16 = 16 * p := by omega
              go_wp2_with fail
              refine (c1 _).mono ?_
              rintro e w' ⟨rfl, hw⟩; subst w'
              go_wp2_with fail
              refine (c2 _).mono ?_
              rintro e w' ⟨rfl, hw⟩; subst w'
              go_wp2_with (at_builtin; go_loud (refine wpList_append_lies _ rfl (.tmp 42) (.tmp 48) 22 rfl w.heap.size 5 i0 (.int .u8 0) 1 1 Tryd.underlying22 Hi.out.1 Hi.out.2.1 Hi.out.2.2.1 Hi.out.2.2.2 rfl (by decide) (.slice (some ⟨g0, 0, none⟩) k cp) k (vals8 (decL s k)) rfl Hown.out ⟨wr.heap.size, 0, none⟩ 1 1 [.int .u8 (16 * p + q)] rfl rfl Hnews.out Hone.out (by omega) hn63 hnby hbs _ rfl ?_; intro g cap w1 hown1 hgrow1 hat1 hlt1))
              have H1 := Lib.hid (show w1.ownsRow w.heap.size 5 1 (.slice (some ⟨g, 0, none⟩) (k + 1) cap) (k + 1) (vals8 (decL s (k + 1))) ∧ Below w.heap.size w w1 from ⟨by
                rw [decL_snoc, Hv.out.2, Hv.out.1, vals8_append]
                exact hown1, ((Hr.out.2.alloc Hr.out.2.size _).grown hgrow1 hbs (fun j hj => (Hown.out.lt j hj).1))⟩)
              clear hown1 hgrow1 hat1 hlt1
              go_wp2_with fail
              go_roundw
              case rel => exact ⟨k + 1, i + 2, g, cap, (by have := hik.out; show i + 2 = 2 * (k + 1); omega), Hok.out, rfl, by go_num, by omega, H1.out.1, H1.out.2⟩
              case measure => simp [intOf]; omega
        · have hkk : k = s.size / 2 := by have := hik.out; have := H2.out; omega
          have Hg := Lib.hid (decR_good (s := s) ⟨hb1, H2.out, by rw [← hkk]; exact hok.out⟩)
          have kc : (convert 22 9 (.slice (some ⟨g0, 0, none⟩) k cp)).run Tryd.prog wr = .ok (.string (strOfNums (decL s k))) wr := by
            have ho := Hr.out.1
            exact run_convert_bytes_arg wr 22 5 Tryd.underlying22 Tryd.underlying5 g0 0 k cp (decL s k) (decL_len s k) (fun i hi => by
              have hlen := decL_len s k
              rw [Nat.zero_add, ho.cellAt i (by omega)]
              simp [vals8, List.getElem?_eq_getElem (show i < (decL s k).length by omega)]) 9 Tryd.underlying9
          have Hk := Lib.hid hkk
          clear hkk
          go_wp2_with fail
          go_ret2
          exact ⟨ret_dec (by rw [Hg.out, Hk.out]), Hr.out.2⟩
    · have hbad := Lib.hid (decR_bad (s := s) (fun h => hb2 h.2.1))
      have h1 : ¬ (40000 : Int) < s.size := by omega
      have h2 : ((s.size : Int) % 2 == 0) = false := by rw [beq_eq_false_iff_ne]; omega
      have h3 : ((s.size : Int) % 2 != 0) = true := by rw [bne, h2]; rfl
      go_enter Tryd.func20, Tryd.ntmps20
      go_wp2_with fail
      go_ret2
      exact ⟨ret_dec hbad.out, Below.refl _ _⟩
  · have hbad := Lib.hid (decR_bad (s := s) (fun h => hb1 h.1))
    have h1 : (40000 : Int) < s.size := by omega
    by_cases hb2 : s.size % 2 = 0
    · have h2 : ((s.size : Int) % 2 == 0) = true := by rw [beq_iff_eq]; omega
      have h3 : ((s.size : Int) % 2 != 0) = false := by rw [bne, h2]; rfl
      go_enter Tryd.func20, Tryd.ntmps20
      go_wp2_with fail
      go_ret2
      exact ⟨ret_dec hbad.out, Below.refl _ _⟩
    · have h2 : ((s.size : Int) % 2 == 0) = false := by rw [beq_eq_false_iff_ne]; omega
      have h3 : ((s.size : Int) % 2 != 0) = true := by rw [bne, h2]; rfl
      go_enter Tryd.func20, Tryd.ntmps20
      go_wp2_with fail
      go_ret2
      exact ⟨ret_dec hbad.out, Below.refl _ _⟩
end Go.Proofs.YtgfeahammmfdaaaDoor.Hex
