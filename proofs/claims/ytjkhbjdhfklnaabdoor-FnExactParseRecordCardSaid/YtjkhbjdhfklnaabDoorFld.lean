/- SplitFields: plain facts on the fields of a line, and the model. -/
import Derived.Test.YtjkhbjdhfklnaabDoorOnly
import Derived.Test.YtjkhbjdhfklnaabDoorIdx
import Derived.Laws.BytesArg
import Derived.Laws.OwnMore
import Derived.Deep.AppendLies
import Derived.OwnWalk
import Derived.Lib.Fields
namespace Go.Proofs.YtjkhbjdhfklnaabDoor.Fld
open Go.ChangeShapes Go.WideShapes Go.ChangeAt Go.RowKit Go.Proofs.YtjkhbjdhfklnaabDoor
set_option linter.unusedVariables false
def strV (xs : List ByteArray) : List Value := xs.map Value.string
theorem strV_snoc (xs : List ByteArray) (x : ByteArray) : strV (xs ++ [x]) = strV xs ++ [.string x] := by simp [strV]
theorem strV_len (xs : List ByteArray) : (strV xs).length = xs.length := List.length_map ..
def pr (c : Nat) : Prop := 32 ≤ c ∧ c ≤ 126
/-- the bytes ahead of place i can be printed -/
def prs (s : ByteArray) (i : Nat) : Prop := ∀ j, j < i → pr (Dec.byt s j)
def fldS (s : ByteArray) : List ByteArray := (Lib.fields s.data.toList).map fun l => ⟨l.toArray⟩
open Classical in
noncomputable def okF (s : ByteArray) : Bool := if s.size ≤ 600 ∧ prs s s.size ∧ (fldS s).length ≤ 24 then true else false
noncomputable def resF (s : ByteArray) : List ByteArray := if okF s = true then fldS s else []
theorem okF_yes {s : ByteArray} (h1 : s.size ≤ 600) (h2 : prs s s.size) (h3 : (fldS s).length ≤ 24) : okF s = true ∧ resF s = fldS s := by
  have : okF s = true := if_pos ⟨h1, h2, h3⟩
  exact ⟨this, if_pos this⟩
theorem okF_no {s : ByteArray} (h : ¬ (s.size ≤ 600 ∧ prs s s.size ∧ (fldS s).length ≤ 24)) : okF s = false ∧ resF s = [] := by
  have : okF s = false := if_neg h
  exact ⟨this, if_neg (by rw [this]; exact Bool.noConfusion)⟩
theorem sp_of {c : UInt8} (h : pr c.toNat) : Lib.isSp c = decide (c.toNat = 32) := by
  unfold pr at h
  have key : ∀ n : Fin 256, (32 ≤ n.val ∧ n.val ≤ 126) → Lib.isSp (UInt8.ofNat n.val) = decide (n.val = 32) := by decide +kernel
  have := key ⟨c.toNat, c.toNat_lt⟩ h
  rw [show UInt8.ofNat c.toNat = c from UInt8.ofNat_toNat] at this
  exact this
/-- what the model has found at place i, a field having begun at place b -/
def StF (s : ByteArray) (i b : Nat) (O : List ByteArray) : Prop :=
  (i ≤ s.size ∧ b ≤ i ∧ prs s i ∧ fldS s = O ++ (Lib.fieldsGo ((s.data.toList.drop b).take (i - b)) (s.data.toList.drop i)).map fun l => ⟨l.toArray⟩) ∨
  (i = s.size + 1 ∧ prs s s.size ∧ fldS s = O)
theorem stF_zero (s : ByteArray) : StF s 0 0 [] := .inl ⟨Nat.zero_le _, Nat.le_refl _, fun j hj => absurd hj (Nat.not_lt_zero j), rfl⟩
theorem size_len (s : ByteArray) : s.data.toList.length = s.size := Array.length_toList
theorem prs_succ {s : ByteArray} {i : Nat} (h : prs s i) (hc : pr (Dec.byt s i)) : prs s (i + 1) := by
  intro j hj
  by_cases e : j = i
  · subst e; exact hc
  · exact h j (by omega)
theorem drop_byt {s : ByteArray} {i : Nat} (h : i < s.size) : ∃ c : UInt8, c.toNat = Dec.byt s i ∧ s.data.toList.drop i = c :: s.data.toList.drop (i + 1) := by
  have hl := size_len s
  refine ⟨s.data.toList[i]'(by omega), ?_, List.drop_eq_getElem_cons (by omega)⟩
  unfold Dec.byt
  rw [List.getD_eq_getElem?_getD, List.getElem?_eq_getElem (show i < s.data.toList.length by omega)]
  rfl
theorem take_more {s : ByteArray} {i b : Nat} (hb : b ≤ i) (h : i < s.size) {c : UInt8} (hc : s.data.toList.drop i = c :: s.data.toList.drop (i + 1)) :
    (s.data.toList.drop b).take (i + 1 - b) = (s.data.toList.drop b).take (i - b) ++ [c] := by
  have hl := size_len s
  rw [show i + 1 - b = (i - b) + 1 by omega, List.take_add_one, List.getElem?_drop, show b + (i - b) = i by omega]
  have : s.data.toList[i]? = some c := by
    have e := congrArg List.head? hc
    rw [List.head?_drop] at e
    exact e
  rw [this]
  rfl
theorem stF_more {s : ByteArray} {i b : Nat} {O : List ByteArray} (h : StF s i b O) (hi : i < s.size) (hp : pr (Dec.byt s i)) (hn : Dec.byt s i ≠ 32) : StF s (i + 1) b O := by
  rcases h with ⟨h1, h2, h3, h4⟩ | ⟨h1, _, _⟩
  · obtain ⟨c, hc, hd⟩ := drop_byt hi
    refine .inl ⟨hi, by omega, prs_succ h3 hp, ?_⟩
    rw [h4, hd, Lib.fieldsGo_more _ _ _ (by rw [sp_of (by rw [hc]; exact hp)]; exact decide_eq_false (by rw [hc]; exact hn)), take_more h2 hi hd]
  · omega
theorem cur_ne {s : ByteArray} {i b : Nat} (hb : b < i) (hi : i ≤ s.size) : (s.data.toList.drop b).take (i - b) ≠ [] := by
  have hl := size_len s
  intro e
  have := congrArg List.length e
  rw [List.length_take, List.length_drop, hl] at this
  simp at this
  omega
theorem piece {s : ByteArray} {b i : Nat} : (⟨((s.data.toList.drop b).take (i - b)).toArray⟩ : ByteArray) = s.extract b i := by
  have : (s.extract b i).data.toList = (s.data.toList.drop b).take (i - b) := Lib.extract_data s b i
  rw [← this]
theorem stF_space {s : ByteArray} {i b : Nat} {O : List ByteArray} (h : StF s i b O) (hi : i < s.size) (h32 : Dec.byt s i = 32) :
    (b < i → StF s (i + 1) (i + 1) (O ++ [s.extract b i])) ∧ (¬ b < i → StF s (i + 1) (i + 1) O) := by
  have hp : pr (Dec.byt s i) := by rw [h32]; unfold pr; omega
  rcases h with ⟨h1, h2, h3, h4⟩ | ⟨h1, _, _⟩
  · obtain ⟨c, hc, hd⟩ := drop_byt hi
    have hsp : Lib.isSp c = true := by rw [sp_of (by rw [hc]; exact hp)]; exact decide_eq_true (by rw [hc]; exact h32)
    constructor
    · intro hb
      refine .inl ⟨hi, Nat.le_refl _, prs_succ h3 hp, ?_⟩
      rw [h4, hd, Lib.fieldsGo_end _ _ _ hsp (cur_ne hb h1), List.map_cons, piece, Nat.sub_self, List.take_zero, List.append_assoc]
      rfl
    · intro hb
      have e : i - b = 0 := by omega
      refine .inl ⟨hi, Nat.le_refl _, prs_succ h3 hp, ?_⟩
      rw [h4, hd, e, List.take_zero, Lib.fieldsGo_sp _ _ hsp, Nat.sub_self, List.take_zero]
  · omega
theorem stF_end {s : ByteArray} {b : Nat} {O : List ByteArray} (h : StF s s.size b O) : (b < s.size → StF s (s.size + 1) (s.size + 1) (O ++ [s.extract b s.size])) ∧ (¬ b < s.size → StF s (s.size + 1) (s.size + 1) O) := by
  have hl := size_len s
  rcases h with ⟨h1, h2, h3, h4⟩ | ⟨h1, _, _⟩
  · have hd : s.data.toList.drop s.size = [] := List.drop_eq_nil_of_le (by omega)
    rw [hd] at h4
    constructor
    · intro hb
      refine .inr ⟨rfl, h3, ?_⟩
      have hne := cur_ne hb h1
      have hem : ((s.data.toList.drop b).take (s.size - b)).isEmpty = false := by rw [← Bool.not_eq_true, List.isEmpty_iff]; exact hne
      rw [h4]
      unfold Lib.fieldsGo
      rw [hem]
      rw [← piece]
      rfl
    · intro hb
      refine .inr ⟨rfl, h3, ?_⟩
      rw [h4, show s.size - b = 0 by omega, List.take_zero]
      exact List.append_nil O
  · omega
theorem infoS : (Tryd.prog.info? 9).map (fun i => (i.zero, i.size, i.bytes)) = some (some (.string ⟨#[]⟩), 1, 16) := by kernel_rfl
theorem one_str (wr : World) (x : ByteArray) : ∀ j u, [Value.string x][j]? = some u → (wr.alloc (.cells #[.string x] 9)).cell? ((⟨wr.heap.size, 0, none⟩ : Addr).add j) = some u := by
  intro j u hj
  have e : (⟨wr.heap.size, 0, none⟩ : Addr).add j = ⟨wr.heap.size, j, none⟩ := by unfold Addr.add; split <;> simp_all
  rw [e, cell_of_row _ wr.heap.size j #[.string x] 9 (0, 0) (block_new wr _)]
  simpa using hj
theorem one_strs (x : ByteArray) : ∀ u ∈ [Value.string x], u.oneCell' = true := by
  intro u hu
  simp at hu
  subst hu
  rfl
/-- a list of texts of the call's own -/
def Own (base : Nat) (w : World) (v : Value) (xs : List ByteArray) : Prop := w.ownsRow base 9 1 v xs.length (strV xs)
/-- what SplitFields gives -/
def Spl (s : ByteArray) (w : World) (e : Ending) (w' : World) : Prop := ∃ v, e = .returned (.tuple #[v, .bool (okF s)]) ∧ Own w.heap.size w' v (resF s) ∧ Below w.heap.size w w'
theorem spl_mk {s : ByteArray} {w w' : World} {v : Value} {b : Bool} {xs : List ByteArray} (h : okF s = b ∧ resF s = xs) (h1 : Own w.heap.size w' v xs) (h2 : Below w.heap.size w w') : Spl s w (.returned (.tuple #[v, .bool b])) w' :=
  ⟨v, by rw [h.1], by rw [h.2]; exact h1, h2⟩
theorem own_new (base : Nat) (w : World) (h : base ≤ w.heap.size) : Own base (w.alloc (.cells #[] 9)) (.slice (some ⟨w.heap.size, 0, none⟩) 0 0) [] :=
  World.ownsRow_lit (base := base) (e := 9) (size := 1) w #[] 0 h (Nat.zero_le _) rfl
set_option maxRecDepth 20000 in
set_option maxHeartbeats 2000000 in
theorem spec_any (s : ByteArray) (hm : s.size ≤ 1048576) (w : World) : Calls Tryd.prog 17 #[.string s] w (Spl s w) := by
  have Hn := Lib.hid (And.intro ((Below.refl w.heap.size w).alloc (Nat.le_refl _) (.cells #[] 9)) (own_new w.heap.size w (Nat.le_refl _)))
  by_cases h600 : s.size ≤ 600
  · have e1 : ¬ (600 : Int) < s.size := by omega
    obtain ⟨i0, hi, hz0, hz1, hz2⟩ := info_parts infoS
    have Hi := Lib.hid (And.intro hi (And.intro hz0 (And.intro hz1 hz2)))
    clear hi hz0 hz1 hz2
    go_enter Tryd.func17, Tryd.ntmps17
    go_wp2_with fail
    go_loopw [4, 5, 6] (fun v bv iv wr => ∃ (i b k g cp : Nat) (O : List ByteArray), Hid (StF s i b O) ∧ Hid (O.length = k) ∧ k ≤ i ∧ b ≤ i ∧ i ≤ s.size + 1 ∧ v = .slice (some ⟨g, 0, none⟩) k cp ∧ bv = .int .i64 (b : Int) ∧ iv = .int .i64 (i : Int) ∧ wr.ownsRow w.heap.size 9 1 v k (strV O) ∧ Below w.heap.size w wr)
      (fun _ _ iv _ => s.size + 1 - (intOf iv).toNat)
    case atStart => exact ⟨0, 0, 0, w.heap.size, 0, [], stF_zero s, rfl, Nat.le_refl _, Nat.le_refl _, Nat.zero_le _, rfl, rfl, rfl, Hn.out.2, Hn.out.1⟩
    case round =>
      obtain ⟨i, b, k, g0, cp, O, hst, hk, hki, hbi, his, rfl, rfl, rfl, hown, hbel⟩ := hrel
      have Hr := Lib.hid (And.intro hown hbel)
      clear hown hbel
      by_cases hle : i ≤ s.size
      · have hle' : (i : Int) ≤ s.size := by omega
        by_cases hlt : i < s.size
        · have hlt' : (i : Int) < s.size := by omega
          obtain ⟨c, hc, hcb, hidx⟩ := Dec.idx_run s i hlt (i : Int) rfl
          have Hc := Lib.hid hc
          clear hc
          by_cases h32 : (c : Int) < 32
          · have hbad := Lib.hid (okF_no (s := s) (fun h => by have := h.2.1 i hlt; rw [← Hc.out] at this; unfold pr at this; omega))
            have Hz := Lib.hid (And.intro (own_new w.heap.size wr Hr.out.2.size) (Hr.out.2.alloc Hr.out.2.size (.cells #[] 9)))
            go_wp2_with fail
            go_ret2
            exact spl_mk hbad.out Hz.out.1 Hz.out.2
          · by_cases h126 : 126 < (c : Int)
            · have hbad := Lib.hid (okF_no (s := s) (fun h => by have := h.2.1 i hlt; rw [← Hc.out] at this; unfold pr at this; omega))
              have Hz := Lib.hid (And.intro (own_new w.heap.size wr Hr.out.2.size) (Hr.out.2.alloc Hr.out.2.size (.cells #[] 9)))
              go_wp2_with fail
              go_ret2
              exact spl_mk hbad.out Hz.out.1 Hz.out.2
            · by_cases hsp : c = 32
              · have q1 : ((c : Int) == 32) = true := by rw [beq_iff_eq]; omega
                have q2 : ((c : Int) != 32) = false := by rw [bne, q1]; rfl
                have Hs := Lib.hid (stF_space hst.out hlt (by rw [← Hc.out]; exact hsp))
                clear hsp
                by_cases hb : b < i
                · have hb' : (b : Int) < i := by omega
                  have hn63 : k + 1 ≤ maxLen := by unfold maxLen; omega
                  have hnby : (k + 1) * 16 ≤ 140737488355328 := by omega
                  have hbs : w.heap.size ≤ (wr.alloc (.cells #[.string (s.extract b i)] 9)).heap.size := by
                    have := Hr.out.2.size
                    have e : (wr.alloc (.cells #[.string (s.extract b i)] 9)).heap.size = wr.heap.size + 1 := by
                      show (wr.heap.push _).size = _
                      simp
                    rw [e]; omega
                  have Hown := Lib.hid (show (wr.alloc (.cells #[.string (s.extract b i)] 9)).ownsRow w.heap.size 9 1 _ _ _ from Hr.out.1.alloc (.cells #[.string (s.extract b i)] 9))
                  have Hnews := Lib.hid (one_str wr (s.extract b i))
                  have Hone := Lib.hid (one_strs (s.extract b i))
                  have Hn2 := Lib.hid (Hs.out.1 hb)
                  go_wp2_with (at_builtin; refine wpList_append_lies _ rfl (.tmp 48) (.tmp 53) 36 rfl w.heap.size 9 i0 (.string ⟨#[]⟩) 1 16 Tryd.underlying36 Hi.out.1 Hi.out.2.1 Hi.out.2.2.1 Hi.out.2.2.2 rfl (by decide) (.slice (some ⟨g0, 0, none⟩) k cp) k (strV O) rfl Hown.out ⟨wr.heap.size, 0, none⟩ 1 1 [.string (s.extract b i)] rfl rfl Hnews.out Hone.out (by omega) hn63 hnby hbs _ rfl ?_; intro g cap w1 hown1 hgrow1 hat1 hlt1)
                  have H1 := Lib.hid (show w1.ownsRow w.heap.size 9 1 (.slice (some ⟨g, 0, none⟩) (k + 1) cap) (k + 1) (strV (O ++ [s.extract b i])) ∧ Below w.heap.size w w1 from ⟨by
                    rw [strV_snoc]
                    exact hown1, ((Hr.out.2.alloc Hr.out.2.size _).grown hgrow1 hbs (fun j hj => (Hown.out.lt j hj).1))⟩)
                  clear hown1 hgrow1 hat1 hlt1
                  go_wp2_with fail
                  go_roundw
                  case rel => exact ⟨i + 1, i + 1, k + 1, g, cap, O ++ [s.extract b i], Hn2.out, (show (O ++ [s.extract b i]).length = k + 1 by rw [List.length_append, hk.out]; rfl), by omega, Nat.le_refl _, by omega, rfl, by go_num, by go_num, H1.out.1, H1.out.2⟩
                  case measure => simp [intOf]; omega
                · have hb' : ¬ (b : Int) < i := by omega
                  have Hn2 := Lib.hid (Hs.out.2 hb)
                  go_wp2_with fail
                  go_roundw
                  case rel => exact ⟨i + 1, i + 1, k, g0, cp, O, Hn2.out, hk.out, by omega, Nat.le_refl _, by omega, rfl, by go_num, by go_num, Hr.out.1, Hr.out.2⟩
                  case measure => simp [intOf]; omega
              · have q1 : ((c : Int) == 32) = false := by rw [beq_eq_false_iff_ne]; omega
                have q2 : ((c : Int) != 32) = true := by rw [bne, q1]; rfl
                have Hn2 := Lib.hid (stF_more hst.out hlt (by rw [← Hc.out]; unfold pr; omega) (by rw [← Hc.out]; exact hsp))
                clear hsp
                go_wp2_with fail
                go_roundw
                case rel => exact ⟨i + 1, b, k, g0, cp, O, Hn2.out, hk.out, by omega, by omega, by omega, rfl, rfl, by go_num, Hr.out.1, Hr.out.2⟩
                case measure => simp [intOf]; omega
        · have hlt' : ¬ (i : Int) < s.size := by omega
          obtain rfl : i = s.size := by omega
          have Hs := Lib.hid (stF_end hst.out)
          by_cases hb : b < s.size
          · have hb' : (b : Int) < s.size := by omega
            have hn63 : k + 1 ≤ maxLen := by unfold maxLen; omega
            have hnby : (k + 1) * 16 ≤ 140737488355328 := by omega
            have hbs : w.heap.size ≤ (wr.alloc (.cells #[.string (s.extract b s.size)] 9)).heap.size := by
              have := Hr.out.2.size
              have e : (wr.alloc (.cells #[.string (s.extract b s.size)] 9)).heap.size = wr.heap.size + 1 := by
                show (wr.heap.push _).size = _
                simp
              rw [e]; omega
            have Hown := Lib.hid (show (wr.alloc (.cells #[.string (s.extract b s.size)] 9)).ownsRow w.heap.size 9 1 _ _ _ from Hr.out.1.alloc (.cells #[.string (s.extract b s.size)] 9))
            have Hnews := Lib.hid (one_str wr (s.extract b s.size))
            have Hone := Lib.hid (one_strs (s.extract b s.size))
            have Hn2 := Lib.hid (Hs.out.1 hb)
            go_wp2_with (at_builtin; refine wpList_append_lies _ rfl (.tmp 48) (.tmp 53) 36 rfl w.heap.size 9 i0 (.string ⟨#[]⟩) 1 16 Tryd.underlying36 Hi.out.1 Hi.out.2.1 Hi.out.2.2.1 Hi.out.2.2.2 rfl (by decide) (.slice (some ⟨g0, 0, none⟩) k cp) k (strV O) rfl Hown.out ⟨wr.heap.size, 0, none⟩ 1 1 [.string (s.extract b s.size)] rfl rfl Hnews.out Hone.out (by omega) hn63 hnby hbs _ rfl ?_; intro g cap w1 hown1 hgrow1 hat1 hlt1)
            have H1 := Lib.hid (show w1.ownsRow w.heap.size 9 1 (.slice (some ⟨g, 0, none⟩) (k + 1) cap) (k + 1) (strV (O ++ [s.extract b s.size])) ∧ Below w.heap.size w w1 from ⟨by
              rw [strV_snoc]
              exact hown1, ((Hr.out.2.alloc Hr.out.2.size _).grown hgrow1 hbs (fun j hj => (Hown.out.lt j hj).1))⟩)
            clear hown1 hgrow1 hat1 hlt1
            go_wp2_with fail
            go_roundw
            case rel => exact ⟨s.size + 1, s.size + 1, k + 1, g, cap, O ++ [s.extract b s.size], Hn2.out, (show (O ++ [s.extract b s.size]).length = k + 1 by rw [List.length_append, hk.out]; rfl), by omega, Nat.le_refl _, by omega, rfl, by go_num, by go_num, H1.out.1, H1.out.2⟩
            case measure => simp [intOf]
          · have hb' : ¬ (b : Int) < s.size := by omega
            have Hn2 := Lib.hid (Hs.out.2 hb)
            go_wp2_with fail
            go_roundw
            case rel => exact ⟨s.size + 1, s.size + 1, k, g0, cp, O, Hn2.out, hk.out, by omega, Nat.le_refl _, by omega, rfl, by go_num, by go_num, Hr.out.1, Hr.out.2⟩
            case measure => simp [intOf]
      · have hle' : ¬ (i : Int) ≤ s.size := by omega
        have hf : prs s s.size ∧ fldS s = O := by
          rcases hst.out with ⟨h1, _⟩ | ⟨_, h2, h3⟩
          · omega
          · exact ⟨h2, h3⟩
        by_cases h24 : k ≤ 24
        · have h24' : ¬ (24 : Int) < k := by omega
          have hgood := Lib.hid (okF_yes h600 hf.1 (by rw [hf.2, hk.out]; exact h24))
          have Hf := Lib.hid hf
          clear hf
          go_wp2_with fail
          go_ret2
          exact spl_mk ⟨hgood.out.1, hgood.out.2.trans Hf.out.2⟩ (by unfold Own; rw [hk.out]; exact Hr.out.1) Hr.out.2
        · have h24' : (24 : Int) < k := by omega
          have hbad := Lib.hid (okF_no (s := s) (fun h => by have := h.2.2; rw [hf.2, hk.out] at this; omega))
          have Hz := Lib.hid (And.intro (own_new w.heap.size wr Hr.out.2.size) (Hr.out.2.alloc Hr.out.2.size (.cells #[] 9)))
          clear hf
          go_wp2_with fail
          go_ret2
          exact spl_mk hbad.out Hz.out.1 Hz.out.2
  · have e1 : (600 : Int) < s.size := by omega
    have hbad := Lib.hid (okF_no (s := s) (fun h => h600 h.1))
    go_enter Tryd.func17, Tryd.ntmps17
    go_wp2_with fail
    go_ret2
    exact spl_mk hbad.out Hn.out.2 Hn.out.1
end Go.Proofs.YtjkhbjdhfklnaabDoor.Fld
