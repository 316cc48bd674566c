/- Contracts of the model's draws of texts. -/
import Derived.Test.YtgfeahammmfdaaaDoorDrawI
import Derived.Laws.BytesArg
import Derived.Laws.OwnMore
import Derived.Deep.AppendLies
import Derived.OwnWalk
namespace Go.Proofs.YtgfeahammmfdaaaDoor.Drw
open Go.ChangeShapes Go.WideShapes Go.ChangeAt Go.RowKit Go.Proofs.YtgfeahammmfdaaaDoor
set_option linter.unusedVariables false
theorem infoU8 : (Tryd.prog.info? 5).map (fun i => (i.zero, i.size, i.bytes)) = some (some (.int .u8 0), 1, 1) := by kernel_rfl
def bytesV (xs : List Int) : List Value := xs.map (Value.int .u8)
theorem only_grown {B : Nat} {a w w' : World} {row : Option Nat} (h : Only B a w) (hg : w.grownBy w' row) (hr : ∀ k, row = some k → a.heap.size ≤ k) : Only B a w' :=
  ⟨hg.os.trans h.os, hg.tape.trans h.tape, hg.output.trans h.output, Nat.le_trans h.size hg.size, fun k hk hn => (hg.block k (Nat.lt_of_lt_of_le hk h.size) (fun e => by have := hr k e.symm; omega)).trans (h.block k hk hn)⟩
theorem owns_only {B : Nat} {w w' : World} {base e size n : Nat} {v : Value} {xs : List Value} (h : w.ownsRow base e size v n xs) (ho : Only B w w') (hB : B < base) : w'.ownsRow base e size v n xs := by
  refine ⟨h.1, ?_⟩
  rcases h.2 with hn | ⟨g, cap, cur, rfl, hb, hg, rest⟩
  · exact .inl hn
  · exact .inr ⟨g, cap, cur, rfl, hb, (ho.block g (lt_of_block hg) (by omega)).trans hg, rest⟩
theorem cur_grown {base B : Nat} {w w' : World} {row : Option Nat} (hc : Cur base w B) (hg : w.grownBy w' row) (hr : ∀ k, row = some k → B < k) : Cur base w' B := by
  have hB := hc.1
  have hlt := hc.lt
  obtain ⟨_, a, len, cap, zs, i, h, hb, h0, h1, hr', ha⟩ := hc
  exact Cur.mk' hB hr' ha ((Below.refl base w).grown hg (by omega) (fun k hk => by have := hr k hk; omega)) h0 h1 ((hg.block B hlt (fun e => by have := hr B e.symm; omega)).trans hb)
theorem one_cell (wr : World) (x : Int) : ∀ j u, [Value.int .u8 x][j]? = some u → (wr.alloc (.cells #[.int .u8 x] 5)).cell? ((⟨wr.heap.size, 0, none⟩ : Addr).add j) = some u := by
  intro j u hj
  have e : (⟨wr.heap.size, 0, none⟩ : Addr).add j = ⟨wr.heap.size, j, none⟩ := by unfold Addr.add; split <;> simp_all
  rw [e, cell_of_row _ wr.heap.size j #[.int .u8 x] 5 (0, 0) (block_new wr _)]
  simpa using hj
theorem one_one (x : Int) : ∀ u ∈ [Value.int .u8 x], u.oneCell' = true := by
  intro u hu
  simp at hu
  subst hu
  rfl
/-- some text of n bytes has been drawn -/
def TextOut (base B : Nat) (n : Nat) (w : World) (e : Ending) (w' : World) : Prop := ∃ s : ByteArray, s.size = n ∧ e = .returned (.string s) ∧ Cur base w' B ∧ Only B w w'
theorem conv_own {wr : World} {base g cp k : Nat} {xs : List Int} (h : wr.ownsRow base 5 1 (.slice (some ⟨g, 0, none⟩) k cp) k (bytesV xs)) (hl : xs.length = k) :
    (convert 22 9 (.slice (some ⟨g, 0, none⟩) k cp)).run Tryd.prog wr = .ok (.string (strOfNums xs)) wr :=
  run_convert_bytes_arg wr 22 5 Tryd.underlying22 Tryd.underlying5 g 0 k cp xs hl (fun i hi => by
    rw [Nat.zero_add, h.cellAt i (by omega)]
    simp [bytesV, List.getElem?_eq_getElem (show i < xs.length by omega)]) 9 Tryd.underlying9
set_option maxHeartbeats 1000000 in
theorem text_any (base B n : Nat) (w : World) (hc : Cur base w B) (hn : n ≤ 5000) :
    Calls Tryd.prog 47 #[.pointer (some ⟨B, 0, none⟩), .int .i64 (n : Int)] w (TextOut base B n w) := by
  obtain ⟨i0, hi, hz0, hz1, hz2⟩ := info_parts infoU8
  have Hi := Lib.hid (And.intro hi (And.intro hz0 (And.intro hz1 hz2)))
  clear hi hz0 hz1 hz2
  have hBlt := hc.lt
  have Hn := Lib.hid (And.intro (hc.alloc (.cells #[] 5)) (And.intro ((Only.refl B w).alloc (.cells #[] 5)) (World.ownsRow_lit (base := w.heap.size) (e := 5) (size := 1) w #[] 0 (Nat.le_refl _) (Nat.zero_le _) rfl)))
  clear hc
  have e1 : ¬ (5000 : Int) < n := by omega
  go_enter Tryd.func47, Tryd.ntmps47
  go_wp2_with fail
  go_loopw [5, 6] (fun v iv wr => ∃ (k g cp : Nat) (xs : List Int), Hid (xs.length = k) ∧ k ≤ n ∧ v = .slice (some ⟨g, 0, none⟩) k cp ∧ iv = .int .i64 (k : Int) ∧ wr.ownsRow w.heap.size 5 1 v k (bytesV xs) ∧ Cur base wr B ∧ Only B w wr)
    (fun _ iv _ => n - (intOf iv).toNat)
  case atStart => exact ⟨0, w.heap.size, 0, [], rfl, Nat.zero_le _, rfl, rfl, Hn.out.2.2, Hn.out.1, Hn.out.2.1⟩
  case round =>
    obtain ⟨k, g0, cp, xs, hxs, hk, rfl, rfl, hown, hcur, honly⟩ := hrel
    have Hr := Lib.hid (And.intro hown (And.intro hcur honly))
    clear hown hcur honly
    by_cases hkn : k < n
    · have hkn' : (k : Int) < n := by omega
      go_wp2_with fail
      refine (byte_any base B _ Hr.out.2.1).mono ?_
      rintro e w1 ⟨x, x0, x1, rfl, hc1, ho1⟩
      have Hw1 := Lib.hid (And.intro (owns_only Hr.out.1 ho1 hBlt) (And.intro hc1 (Hr.out.2.2.trans ho1)))
      clear hc1 ho1
      have hn63 : k + 1 ≤ maxLen := by unfold maxLen; omega
      have hnby : (k + 1) * 1 ≤ 140737488355328 := by omega
      have hbs : w.heap.size ≤ (w1.alloc (.cells #[.int .u8 x] 5)).heap.size := by
        have := Hw1.out.2.2.size
        have e : (w1.alloc (.cells #[.int .u8 x] 5)).heap.size = w1.heap.size + 1 := by
          show (w1.heap.push _).size = _
          simp
        rw [e]; omega
      have Hown := Lib.hid (show (w1.alloc (.cells #[.int .u8 x] 5)).ownsRow w.heap.size 5 1 _ _ _ from Hw1.out.1.alloc (.cells #[.int .u8 x] 5))
      have Hnews := Lib.hid (one_cell w1 x)
      have Hone := Lib.hid (one_one x)
      go_wp2_with (at_builtin; refine wpList_append_lies _ rfl (.tmp 15) (.tmp 19) 22 rfl w.heap.size 5 i0 (.int .u8 0) 1 1 Tryd.underlying22 Hi.out.1 Hi.out.2.1 Hi.out.2.2.1 Hi.out.2.2.2 rfl (by decide) (.slice (some ⟨g0, 0, none⟩) k cp) k (bytesV xs) rfl Hown.out ⟨w1.heap.size, 0, none⟩ 1 1 [.int .u8 x] rfl rfl Hnews.out Hone.out (by omega) hn63 hnby hbs _ rfl ?_; intro g cap w2 hown1 hgrow1 hat1 hlt1)
      have H2 := Lib.hid (show w2.ownsRow w.heap.size 5 1 (.slice (some ⟨g, 0, none⟩) (k + 1) cap) (k + 1) (bytesV (xs ++ [x])) ∧ Cur base w2 B ∧ Only B w w2 from ⟨by
        unfold bytesV
        rw [List.map_append]
        exact hown1, cur_grown (Hw1.out.2.1.alloc _) hgrow1 (fun j hj => by have := (Hown.out.lt j hj).1; omega), only_grown (Hw1.out.2.2.alloc _) hgrow1 (fun j hj => (Hown.out.lt j hj).1)⟩)
      clear hown1 hgrow1 hat1 hlt1
      go_wp2_with fail
      go_roundw
      case rel => exact ⟨k + 1, g, cap, xs ++ [x], (show (xs ++ [x]).length = k + 1 by rw [List.length_append, hxs.out]; rfl), hkn, rfl, by go_num, H2.out.1, H2.out.2.1, H2.out.2.2⟩
      case measure => simp [intOf]; omega
    · have hkn' : ¬ (k : Int) < n := by omega
      obtain rfl : k = n := by omega
      have kc := conv_own Hr.out.1 hxs.out
      have Hs := Lib.hid (show (strOfNums xs).size = k by rw [strOfNums_size, hxs.out])
      generalize strOfNums xs = s at *
      go_wp2_with fail
      go_ret
      exact ⟨s, Hs.out, rfl, Hr.out.2.1, Hr.out.2.2⟩
/-- some text of n bytes has been made -/
def LongOut (n : Nat) (w : World) (e : Ending) (w' : World) : Prop := ∃ s : ByteArray, s.size = n ∧ e = .returned (.string s) ∧ Below w.heap.size w w'
set_option maxHeartbeats 1000000 in
theorem long_any (n : Nat) (x : Int) (w : World) (hn : n ≤ 100000) :
    Calls Tryd.prog 46 #[.int .i64 (n : Int), .int .u8 x] w (LongOut n w) := by
  obtain ⟨i0, hi, hz0, hz1, hz2⟩ := info_parts infoU8
  have Hi := Lib.hid (And.intro hi (And.intro hz0 (And.intro hz1 hz2)))
  clear hi hz0 hz1 hz2
  obtain ⟨w0, hmk, hown, hgrow⟩ := run_make_full (P := Tryd.prog) w w.heap.size 22 5 i0 (.int .u8 0) 1 Tryd.underlying22 Hi.out.1 Hi.out.2.1 Hi.out.2.2.1 .i64 .i64 n (by rw [Hi.out.2.2.2]; omega) (by unfold maxLen; omega) (Nat.le_refl _)
  have hv0 : (madeCells (Value.int .u8 0).cells (n * 1)).toList = bytesV (List.replicate n 0) := by
    rw [Nat.mul_one]
    show (madeCells #[Value.int .u8 0] n).toList = _
    rw [toList_madeCells_one]
    unfold bytesV
    rw [List.map_replicate]
  rw [hv0] at hown
  have Hn := Lib.hid (And.intro ((Below.refl w.heap.size w).grown hgrow (Nat.le_refl _) (fun j hj => by simp at hj)) hown)
  clear hown hgrow hv0
  go_enter Tryd.func46, Tryd.ntmps46
  go_wp2_with fail
  obtain ⟨gB, hgB⟩ : ∃ gB, gB = w.heap.size := ⟨_, rfl⟩
  rw [← hgB]
  have HgB := Lib.hid hgB
  have Hn2 := Lib.hid (show Below w.heap.size w w0 ∧ w0.ownsRow w.heap.size 5 1 (.slice (some ⟨gB, 0, none⟩) n n) n (bytesV (List.replicate n 0)) from ⟨Hn.out.1, by rw [hgB]; exact Hn.out.2⟩)
  clear hgB Hn
  go_loopw [6] (fun iv wr => ∃ (k : Nat) (xs : List Int), Hid (xs.length = n) ∧ k ≤ n ∧ iv = .int .i64 (k : Int) ∧ wr.ownsRow w.heap.size 5 1 (.slice (some ⟨gB, 0, none⟩) n n) n (bytesV xs) ∧ Below w.heap.size w wr)
    (fun iv _ => n - (intOf iv).toNat)
  case atStart => exact ⟨0, List.replicate n 0, (show (List.replicate n (0 : Int)).length = n from List.length_replicate ..), Nat.zero_le _, rfl, Hn2.out.2, Hn2.out.1⟩
  case round =>
    obtain ⟨k, xs, hxs, hk, rfl, hown, hbel⟩ := hrel
    by_cases hkn : k < n
    · have hkn' : (k : Int) < n := by omega
      have hfz := hown.frozenAt k
      have hst := hown.stored k (.int .u8 x)
      have hlt := hown.lt gB rfl
      have hcl : wr.cell? ⟨gB, k, none⟩ = some ((bytesV xs).getD k (.int .u8 0)) := by
        rw [hown.cellAt k (by omega)]
        rw [List.getD_eq_getElem?_getD, List.getElem?_eq_getElem (show k < (bytesV xs).length by unfold bytesV; rw [List.length_map, hxs.out]; exact hkn)]
        rfl
      obtain ⟨v0, hv0⟩ : ∃ v0, v0 = (bytesV xs).getD k (.int .u8 0) := ⟨_, rfl⟩
      rw [← hv0] at hcl
      have H2 := Lib.hid (show (wr.setCell ⟨gB, k, none⟩ (.int .u8 x)).ownsRow w.heap.size 5 1 (.slice (some ⟨gB, 0, none⟩) n n) n (bytesV (xs.set k x)) ∧ Below w.heap.size w (wr.setCell ⟨gB, k, none⟩ (.int .u8 x)) from ⟨by
        have := hst.1
        unfold bytesV
        rw [List.map_set]
        exact this, hbel.setCell hlt.1 _⟩)
      clear hown hbel hst hlt hv0
      go_wp2_with fail
      go_roundw
      case rel => exact ⟨k + 1, xs.set k x, (show (xs.set k x).length = n by rw [List.length_set]; exact hxs.out), hkn, by go_num, H2.out.1, H2.out.2⟩
      case measure => simp [intOf]; omega
    · have hkn' : ¬ (k : Int) < n := by omega
      have kc := conv_own hown hxs.out
      have Hs := Lib.hid (show (strOfNums xs).size = n by rw [strOfNums_size, hxs.out])
      have Hb := Lib.hid hbel
      clear hown hbel
      generalize strOfNums xs = s at *
      go_wp2_with fail
      go_ret
      exact ⟨s, Hs.out, rfl, Hb.out⟩
end Go.Proofs.YtgfeahammmfdaaaDoor.Drw
