/- Contracts of MakeSingle, in the model. -/
import Derived.Test.YtkjjeccgmeiniaaSignedS
import Derived.Test.YtkjjeccgmeiniaaFltV
namespace Go.Proofs.Ytkjjeccgmeiniaa.Flt
end Go.Proofs.Ytkjjeccgmeiniaa.Flt
namespace Go.Proofs.Ytkjjeccgmeiniaa.Mth
end Go.Proofs.Ytkjjeccgmeiniaa.Mth
namespace Go.Proofs.Ytkjjeccgmeiniaa.Mks
open Go.ChangeShapes Go.WideShapes Go.ChangeAt Go.RowKit Go.Proofs.Ytkjjeccgmeiniaa Go.Proofs.Ytkjjeccgmeiniaa.Flt Go.Proofs.Ytkjjeccgmeiniaa.Mth
set_option linter.unusedVariables false
/-- what MakeSingle gives -/
def amount (m e : Int) : Nat := scale (floatOfInt .f64 m) e
def made (s : ByteArray) (a : Nat) : Nat × Bool :=
  match floatToFloatBits .f64 a .f32 with
  | some x => if eqW Ieee.double (widen x) a then Sgd.out s x else (0, false)
  | none => (0, false)
def out (s : ByteArray) (m e : Int) : Nat × Bool := if 0 ≤ m ∧ m ≤ 16777215 ∧ -149 ≤ e ∧ e ≤ 127 then made s (amount m e) else (0, false)
theorem amount_nan (m e : Int) : isNaN Ieee.double (amount m e) = false := scale_nan (ofInt_nan m) e
theorem amount_lt (m e : Int) : amount m e < 18446744073709551616 := scale_lt (ofInt_lt m) (ofInt_nan m) e
theorem out_bad (s : ByteArray) (m e : Int) (h1 : (s.toList == [43]) = false) (h2 : (s.toList == [45]) = false) : out s m e = (0, false) := by
  unfold out made
  split
  · split
    · unfold Sgd.out; rw [h1, h2]; simp
    · rfl
  · rfl
theorem in_yes (x a b : Int) (w : World) (h1 : a ≤ x) (h2 : x ≤ b) :
    Calls Try.prog 40 #[.int .i64 x, .int .i64 a, .int .i64 b] w fun e w' => e = .returned (.bool true) ∧ w' = w := by
  go_enter Try.func40, Try.ntmps40
  go_wp2
  go_ret
  exact ⟨rfl, rfl⟩
theorem in_no (x a b : Int) (w : World) (h : ¬ (a ≤ x ∧ x ≤ b)) :
    Calls Try.prog 40 #[.int .i64 x, .int .i64 a, .int .i64 b] w fun e w' => e = .returned (.bool false) ∧ w' = w := by
  by_cases h1 : a ≤ x
  · have h2 : ¬ x ≤ b := fun h2 => h ⟨h1, h2⟩
    have hd : decide (x ≤ b) = false := by simpa using h2
    clear h
    go_enter Try.func40, Try.ntmps40
    go_wp2
    go_ret
    exact ⟨rfl, rfl⟩
  · clear h
    go_enter Try.func40, Try.ntmps40
    go_wp2
    go_ret
    exact ⟨rfl, rfl⟩
def Out (s : ByteArray) (m e : Int) (w : World) (x : Ending) (w' : World) : Prop := x = .returned (.tuple #[.float .f32 (out s m e).1, .bool (out s m e).2]) ∧ ∃ n, w' = w.drewN n
theorem ret_none {s : ByteArray} {m e : Int} {w : World} (h : out s m e = (0, false)) : Out s m e w (.returned (.tuple #[.float .f32 0, .bool false])) w := ⟨by rw [h], 0, rfl⟩
theorem spec_nosign (s : ByteArray) (m e : Int) (w : World) (h1 : (s.toList == [43]) = false) (h2 : (s.toList == [45]) = false) :
    Calls Try.prog 39 #[.string s, .int .i64 m, .int .i64 e] w (Out s m e w) := by
  have Hf := Lib.hid (ret_none (w := w) (out_bad s m e h1 h2))
  go_enter Try.func39, Try.ntmps39
  go_wp2_with fail
  go_ret2
  exact Hf.out
theorem spec_badm (s : ByteArray) (m e : Int) (w : World) (hs : (s.toList == [43]) = true ∨ ((s.toList == [43]) = false ∧ (s.toList == [45]) = true)) (hm : ¬ (0 ≤ m ∧ m ≤ 16777215)) :
    Calls Try.prog 39 #[.string s, .int .i64 m, .int .i64 e] w (Out s m e w) := by
  have Hf := Lib.hid (ret_none (s := s) (e := e) (w := w) (show out s m e = (0, false) by unfold out; rw [if_neg (fun h => hm ⟨h.1, h.2.1⟩)]))
  have Hm := Lib.hid hm
  clear hm
  rcases hs with h1 | ⟨h1, h2⟩
  all_goals
    go_enter Try.func39, Try.ntmps39
    go_wp2_with fail
    refine (in_no _ _ _ _ Hm.out).mono ?_
    rintro e w' ⟨rfl, rfl⟩
    go_wp2_with fail
    go_ret2
    exact Hf.out
theorem spec_bade (s : ByteArray) (m e : Int) (w : World) (hs : (s.toList == [43]) = true ∨ ((s.toList == [43]) = false ∧ (s.toList == [45]) = true)) (hm : 0 ≤ m ∧ m ≤ 16777215) (he : ¬ (-149 ≤ e ∧ e ≤ 127)) :
    Calls Try.prog 39 #[.string s, .int .i64 m, .int .i64 e] w (Out s m e w) := by
  have Hf := Lib.hid (ret_none (s := s) (e := e) (w := w) (show out s m e = (0, false) by unfold out; rw [if_neg (fun h => he ⟨h.2.2.1, h.2.2.2⟩)]))
  have Hm := Lib.hid hm
  have He := Lib.hid he
  clear hm he
  rcases hs with h1 | ⟨h1, h2⟩
  all_goals
    go_enter Try.func39, Try.ntmps39
    go_wp2_with fail
    refine (in_yes _ _ _ _ Hm.out.1 Hm.out.2).mono ?_
    rintro e w' ⟨rfl, rfl⟩
    go_wp2_with fail
    refine (in_no _ _ _ _ He.out).mono ?_
    rintro e w' ⟨rfl, rfl⟩
    go_wp2_with fail
    go_ret2
    exact Hf.out
/-- how the narrowed amount is compared -/
theorem made_cases (s : ByteArray) (a x r : Nat) (n : Nat) (na : isNaN Ieee.double a = false) (ha : a < 18446744073709551616) (hx : x < 4294967296) (hc : (floatToFloatBits .f64 a .f32 = some x ∧ n = 0) ∨ floatToFloatBits .f64 a .f32 = none) (hr : Wid x r) :
    (eqW Ieee.double r a = false ∧ made s a = (0, false)) ∨ (eqW Ieee.double r a = true ∧ made s a = Sgd.out s x) := by
  rcases hc with ⟨h, _⟩ | h
  · have nx := narrow_nan h
    rw [hr.2.2 nx]
    unfold made
    rw [h]
    cases hq : eqW Ieee.double (widen x) a
    · exact .inl ⟨rfl, by simp [hq]⟩
    · exact .inr ⟨rfl, by simp [hq]⟩
  · refine .inl ⟨?_, by unfold made; rw [h]⟩
    cases nx : isNaN Ieee.single x
    · rw [hr.2.2 nx]
      exact narrow_none na ha h (by rw [width_single]; exact hx) nx
    · exact eqW_nan _ (by rw [hr.2.1, nx]; rfl)
set_option maxRecDepth 20000 in
set_option maxHeartbeats 800000 in
theorem spec_good (s : ByteArray) (m e : Int) (w : World) (hs : (s.toList == [43]) = true ∨ ((s.toList == [43]) = false ∧ (s.toList == [45]) = true)) (hm : 0 ≤ m ∧ m ≤ 16777215) (he : -149 ≤ e ∧ e ≤ 127) :
    Calls Try.prog 39 #[.string s, .int .i64 m, .int .i64 e] w (Out s m e w) := by
  have us : (Try.prog.underlying 31).isSome = true := by rw [Try.underlying31]; rfl
  have ud : (Try.prog.underlying 44).isSome = true := by rw [Try.underlying44]; rfl
  obtain ⟨x, n, hx, hcs, kn⟩ := run_narrow_any (P := Try.prog) 44 31 (amount m e) ud Try.underlying31 (amount_nan m e) (amount_lt m e) w
  obtain ⟨r, q, hr, kw⟩ := run_widen_any (P := Try.prog) 31 44 x us Try.underlying44 (w.drewN n)
  have hmade := made_cases s (amount m e) x r n (amount_nan m e) (amount_lt m e) hx hcs hr
  have hne := ne64 r (amount m e)
  have hout : out s m e = made s (amount m e) := by unfold out; rw [if_pos ⟨hm.1, hm.2, he.1, he.2⟩]
  have Hout := Lib.hid hout
  have Hm := Lib.hid hm
  have He := Lib.hid he
  have Kn := Lib.hid kn
  have Kw := Lib.hid kw
  have Hne := Lib.hid hne
  have Hmade := Lib.hid hmade
  obtain ⟨he0, he1⟩ := he
  have Hs := Lib.hid hs
  clear hs hm us ud hcs hr kn kw hne hmade hout hx
  have na0 := Lib.hid (ofInt_nan m)
  rcases Hs.out with h1 | ⟨h1, h2⟩
  all_goals
    go_enter Try.func39, Try.ntmps39
    go_wp2_with fail
    refine (in_yes _ _ _ _ Hm.out.1 Hm.out.2).mono ?_
    rintro e w' ⟨rfl, rfl⟩
    go_wp2_with fail
    refine (in_yes _ _ _ _ He.out.1 He.out.2).mono ?_
    rintro e w' ⟨rfl, rfl⟩
    go_wp2_with fail
    go_loop [8, 9] (fun av kv => ∃ k : Nat, (k : Int) ≤ max e 0 ∧ kv = .int .i64 k ∧ av = .float .f64 (muls k (floatOfInt .f64 m))) (fun _ kv => (e - intOf kv).toNat)
    case atStart => exact ⟨0, by omega, rfl, rfl⟩
    case round =>
      obtain ⟨k, hk, rfl, rfl⟩ := hrel
      by_cases hlt : (k : Int) < e
      · have hk127 : k < 127 := by omega
        have hmul := run_float_arith (P := Try.prog) w' .mul 44 .f64 _ _ _ (mul2_bits (muls_nan na0.out k)).1
        go_wp2
        go_round
        case rel => exact ⟨k + 1, by omega, by go_num, rfl⟩
        case measure => simp [intOf]; omega
      · have Hke := Lib.hid (show k = e.toNat by omega)
        clear hk
        go_wp2_with fail
        have na1 := Lib.hid (muls_nan na0.out k)
        generalize ha1 : muls k (floatOfInt .f64 m) = a1 at *
        have Ha1 := Lib.hid ha1
        clear ha1
        go_loop [8, 10] (fun av kv => ∃ j : Nat, (j : Int) ≤ max (-e) 0 ∧ kv = .int .i64 (-(j : Int)) ∧ av = .float .f64 (divs j a1)) (fun _ kv => (intOf kv - e).toNat)
        case atStart => exact ⟨0, by omega, rfl, rfl⟩
        case round =>
          obtain ⟨j, hj, rfl, rfl⟩ := hrel
          by_cases hlt2 : e < -(j : Int)
          · have hj149 : j < 149 := by omega
            have hmul := run_float_arith (P := Try.prog) w' .quo 44 .f64 _ _ _ (div2_bits (divs_nan na1.out j)).1
            go_wp2
            go_round
            case rel => exact ⟨j + 1, by omega, by congr 1; omega, rfl⟩
            case measure => simp [intOf]; omega
          · have hamt : amount m e = divs j a1 := by
              unfold amount scale
              rw [← Ha1.out, Hke.out, show (-e).toNat = j by omega]
            have kn := Kn.out
            have kw := Kw.out
            have hne := Hne.out
            have hmade := Hmade.out
            rw [hamt] at kn hne hmade
            have Hamt := Lib.hid hamt
            clear hamt hj
            generalize divs j a1 = a2 at *
            rcases hmade with ⟨q1, q2⟩ | ⟨q1, q2⟩
            · rw [q1] at hne
              have Hf := Lib.hid (show out s m e = (0, false) by rw [Hout.out, Hamt.out, q2])
              clear q1 q2
              go_wp2_with fail
              go_ret2
              exact ⟨by rw [Hf.out]; rfl, n + q, rfl⟩
            · rw [q1] at hne
              have Hf := Lib.hid (show out s m e = ((Sgd.out s x).1, true) by
                rw [Hout.out, Hamt.out, q2]
                rcases Hs.out with g1 | ⟨g1, g2⟩
                · unfold Sgd.out; rw [g1]; rfl
                · unfold Sgd.out; rw [g1, g2]; rfl)
              clear q1 q2
              go_wp2_with fail
              refine (Sgd.spec_any s x _).mono ?_
              rintro e w1 ⟨rfl, rfl⟩
              go_wp2_with fail
              go_ret2
              exact ⟨by rw [Hf.out]; rfl, n + q, rfl⟩
theorem spec_any (s : ByteArray) (m e : Int) (w : World) : Calls Try.prog 39 #[.string s, .int .i64 m, .int .i64 e] w (Out s m e w) := by
  cases h1 : (s.toList == [43])
  · cases h2 : (s.toList == [45])
    · exact spec_nosign s m e w h1 h2
    · by_cases hm : 0 ≤ m ∧ m ≤ 16777215
      · by_cases he : -149 ≤ e ∧ e ≤ 127
        · exact spec_good s m e w (.inr ⟨h1, h2⟩) hm he
        · exact spec_bade s m e w (.inr ⟨h1, h2⟩) hm he
      · exact spec_badm s m e w (.inr ⟨h1, h2⟩) hm
  · by_cases hm : 0 ≤ m ∧ m ≤ 16777215
    · by_cases he : -149 ≤ e ∧ e ≤ 127
      · exact spec_good s m e w (.inl h1) hm he
      · exact spec_bade s m e w (.inl h1) hm he
    · exact spec_badm s m e w (.inl h1) hm
theorem made_lt (s : ByteArray) (a : Nat) (ha : a < 18446744073709551616) : (Lit.float .f32 (made s a).1).wf = true := by
  unfold made
  split
  · rename_i x h
    split
    · exact Sgd.out_lt s x (wf_single (floatToFloat_lt h (wf_double ha)))
    · decide
  · decide
theorem out_lt (s : ByteArray) (m e : Int) : (Lit.float .f32 (out s m e).1).wf = true := by
  unfold out
  split
  · exact made_lt s _ (amount_lt m e)
  · decide
end Go.Proofs.Ytkjjeccgmeiniaa.Mks
