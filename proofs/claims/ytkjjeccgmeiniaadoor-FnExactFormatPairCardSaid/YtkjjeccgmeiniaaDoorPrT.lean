/- FormatPair, in the model and in the program: the text of a pair. -/
import Derived.Test.YtkjjeccgmeiniaaDoorDoor
namespace Go.Proofs.YtkjjeccgmeiniaaDoor.Prs
open Go.ChangeShapes Go.WideShapes Go.ChangeAt Go.RowKit Go.Proofs.YtkjjeccgmeiniaaDoor
set_option linter.unusedVariables false
set_option maxRecDepth 20000
theorem bytes_ext {a b : ByteArray} (h : a.data.toList = b.data.toList) : a = b := ByteArray.ext (Array.toList_inj.1 h)
theorem data_add (a b : ByteArray) : (a ++ b).data.toList = a.data.toList ++ b.data.toList := by rw [ByteArray.data_append, Array.toList_append]
/-- in the range of a quantum -/
def inQ (n : Int) : Bool := decide (-1000000000 ≤ n ∧ n ≤ 1000000000)
theorem inQ_iff {n : Int} : inQ n = true ↔ -1000000000 ≤ n ∧ n ≤ 1000000000 := decide_eq_true_iff
/-- a number with its sign -/
def nL (n : Int) : List UInt8 := (if n < 0 then 45 else 43) :: Lib.decDigits n.natAbs
def nB (n : Int) : ByteArray := ⟨(nL n).toArray⟩
theorem nB_data (n : Int) : (nB n).data.toList = nL n := rfl
theorem itoa_size {e : Int} (h0 : -1000000000 ≤ e) (h1 : e ≤ 1000000000) : (⟨(Lib.itoa e).toArray⟩ : ByteArray).size ≤ 30 := by
  have := Lib.itoa_length_le e (by omega) (by omega)
  show (Lib.itoa e).toArray.size ≤ 30
  rw [List.size_toArray]
  omega
theorem nB_size {n : Int} (h0 : -1000000000 ≤ n) (h1 : n ≤ 1000000000) : (nB n).size ≤ 31 := by
  have h := itoa_size (e := (n.natAbs : Int)) (by omega) (by omega)
  rw [show (⟨(Lib.itoa (n.natAbs : Int)).toArray⟩ : ByteArray).size = (Lib.itoa (n.natAbs : Int)).length by show (Lib.itoa _).toArray.size = _; rw [List.size_toArray], Lib.itoa_nonneg] at h
  show (nL n).toArray.size ≤ 31
  rw [List.size_toArray]
  unfold nL
  rw [List.length_cons]
  omega
theorem neg_text {n : Int} (h : n < 0) : (⟨#[45]⟩ ++ (⟨(Lib.itoa (-n)).toArray⟩ : ByteArray)) = nB n := by
  apply bytes_ext
  rw [data_add, nB_data]
  unfold nL
  rw [if_pos h, show -n = ((n.natAbs : Nat) : Int) by omega, Lib.itoa_nonneg]
  rfl
theorem pos_text {n : Int} (h : ¬ n < 0) : (⟨#[43]⟩ ++ (⟨(Lib.itoa n).toArray⟩ : ByteArray)) = nB n := by
  apply bytes_ext
  rw [data_add, nB_data]
  unfold nL
  obtain ⟨k, rfl⟩ := Int.eq_ofNat_of_zero_le (show 0 ≤ n by omega)
  rw [if_neg h, Lib.itoa_nonneg, show ((k : Nat) : Int).natAbs = k by omega]
  rfl
theorem neg_text' {n : Int} (h : n < 0) : (⟨(Lib.itoa n).toArray⟩ : ByteArray) = nB n := by
  apply bytes_ext
  rw [nB_data]
  unfold nL
  rw [if_pos h]
  obtain ⟨k, hk⟩ : ∃ k : Nat, n = -(k : Int) := ⟨n.natAbs, by omega⟩
  subst hk
  rw [Lib.itoa_neg k (by omega), show (-(k : Int)).natAbs = k by omega]
def Txt (n : Int) (w : World) (e : Ending) (w' : World) : Prop := e = .returned (.string (nB n)) ∧ Below w.heap.size w w'
theorem quantum_any (n : Int) (w : World) (h0 : -1000000000 ≤ n) (h1 : n ≤ 1000000000) (htab : Door.Tab w) : Calls Tryd.prog 23 #[.int .i64 n] w (Txt n w) := by
  have Ht := Lib.hid htab
  clear htab
  by_cases hn : n < 0
  · have hf := fun (W : World) h => Door.impl_any (-n) (by omega) (by omega) W h
    unfold Fmi.Out at hf
    have hs := itoa_size (e := -n) (by omega) (by omega)
    have Hx := Lib.hid (neg_text hn)
    have ha := fun W => run_string_add_sum (P := Tryd.prog) (w := W) ⟨#[45]⟩ (⟨(Lib.itoa (-n)).toArray⟩ : ByteArray) (by show 1 + _ ≤ _; omega)
    generalize (⟨(Lib.itoa (-n)).toArray⟩ : ByteArray) = d at *
    clear hs
    go_enter Tryd.func23, Tryd.ntmps23
    go_wp2_with fail
    refine (hf _ Ht.out).mono ?_
    rintro e w1 ⟨rfl, hb1⟩
    have Hb1 := Lib.hid hb1
    clear hb1 hf
    go_wp2_with fail
    go_ret
    exact ⟨ret_string Hx.out, Hb1.out⟩
  · have hf := fun (W : World) h => Door.impl_any n (by omega) (by omega) W h
    unfold Fmi.Out at hf
    have hs := itoa_size (e := n) (by omega) (by omega)
    have Hx := Lib.hid (pos_text hn)
    have ha := fun W => run_string_add_sum (P := Tryd.prog) (w := W) ⟨#[43]⟩ (⟨(Lib.itoa n).toArray⟩ : ByteArray) (by show 1 + _ ≤ _; omega)
    generalize (⟨(Lib.itoa n).toArray⟩ : ByteArray) = d at *
    clear hs
    go_enter Tryd.func23, Tryd.ntmps23
    go_wp2_with fail
    refine (hf _ Ht.out).mono ?_
    rintro e w1 ⟨rfl, hb1⟩
    have Hb1 := Lib.hid hb1
    clear hb1 hf
    go_wp2_with fail
    go_ret
    exact ⟨ret_string Hx.out, Hb1.out⟩
theorem signed_any (n : Int) (w : World) (h0 : -1000000000 ≤ n) (h1 : n ≤ 1000000000) : Calls Tryd.prog 37 #[.int .i64 n] w (Txt n w) := by
  have hf := fun (W : World) => Door.spec_any n (by omega) (by omega) W
  unfold Fmi.Out at hf
  by_cases hn : n < 0
  · have Hx := Lib.hid (neg_text' hn)
    generalize (⟨(Lib.itoa n).toArray⟩ : ByteArray) = d at *
    go_enter Tryd.func37, Tryd.ntmps37
    go_wp2_with fail
    refine (hf _).mono ?_
    rintro e w1 ⟨rfl, hb1⟩
    have Hb1 := Lib.hid hb1
    clear hb1 hf
    go_wp2_with fail
    go_ret
    exact ⟨ret_string Hx.out, Hb1.out⟩
  · have hs := itoa_size (e := n) (by omega) (by omega)
    have Hx := Lib.hid (pos_text hn)
    have ha := fun W => run_string_add_sum (P := Tryd.prog) (w := W) ⟨#[43]⟩ (⟨(Lib.itoa n).toArray⟩ : ByteArray) (by show 1 + _ ≤ _; omega)
    generalize (⟨(Lib.itoa n).toArray⟩ : ByteArray) = d at *
    clear hs
    go_enter Tryd.func37, Tryd.ntmps37
    go_wp2_with fail
    refine (hf _).mono ?_
    rintro e w1 ⟨rfl, hb1⟩
    have Hb1 := Lib.hid hb1
    clear hb1 hf
    go_wp2_with fail
    go_ret
    exact ⟨ret_string Hx.out, Hb1.out⟩
/-- the text of a pair -/
def pairL (re im : Int) : List UInt8 := nL re ++ nL im ++ [105]
def pairB (re im : Int) : ByteArray := if inQ re = true ∧ inQ im = true then ⟨(pairL re im).toArray⟩ else ⟨#[]⟩
theorem pair_text {re im : Int} (h1 : inQ re = true) (h2 : inQ im = true) : (nB re ++ nB im ++ (⟨#[105]⟩ : ByteArray)) = pairB re im := by
  unfold pairB
  rw [if_pos ⟨h1, h2⟩]
  apply bytes_ext
  rw [data_add, data_add]
  rfl
theorem no_text {re im : Int} (h : ¬ (inQ re = true ∧ inQ im = true)) : (⟨#[]⟩ : ByteArray) = pairB re im := by
  unfold pairB
  rw [if_neg h]
theorem isq_any (n : Int) (w : World) :
    Calls Tryd.prog 22 #[.int .i64 n] w fun e w' => e = .returned (.bool (inQ n)) ∧ w' = w := by
  unfold inQ
  by_cases h1 : -1000000000 ≤ n
  · by_cases h2 : n ≤ 1000000000
    · go_enter Tryd.func22, Tryd.ntmps22
      go_wp2
      go_ret
      exact ⟨ret_bool (decide_eq_true ⟨h1, h2⟩).symm, rfl⟩
    · go_enter Tryd.func22, Tryd.ntmps22
      go_wp2
      go_ret
      exact ⟨ret_bool (decide_eq_false (by omega)).symm, rfl⟩
  · go_enter Tryd.func22, Tryd.ntmps22
    go_wp2
    go_ret
    exact ⟨ret_bool (by rw [decide_eq_false (show ¬ (-1000000000 ≤ n) by omega), Bool.false_and]), rfl⟩
theorem in_any (n : Int) (w : World) :
    Calls Tryd.prog 36 #[.int .i64 n, .int .i64 (-1000000000), .int .i64 1000000000] w fun e w' => e = .returned (.bool (inQ n)) ∧ w' = w := by
  unfold inQ
  by_cases h1 : -1000000000 ≤ n
  · by_cases h2 : n ≤ 1000000000
    · go_enter Tryd.func36, Tryd.ntmps36
      go_wp2
      go_ret
      exact ⟨ret_bool (decide_eq_true ⟨h1, h2⟩).symm, rfl⟩
    · go_enter Tryd.func36, Tryd.ntmps36
      go_wp2
      go_ret
      exact ⟨ret_bool (decide_eq_false (by omega)).symm, rfl⟩
  · go_enter Tryd.func36, Tryd.ntmps36
    go_wp2
    go_ret
    exact ⟨ret_bool (by rw [decide_eq_false (show ¬ (-1000000000 ≤ n) by omega), Bool.false_and]), rfl⟩
def Ptx (re im : Int) (w : World) (e : Ending) (w' : World) : Prop := e = .returned (.string (pairB re im)) ∧ Below w.heap.size w w'
/-- two numbers and the last letter, put together -/
theorem adds {re im : Int} (h1 : inQ re = true) (h2 : inQ im = true) :
    (∀ W, (Op.stringOp .add (nB re) (nB im)).run Tryd.prog W = .ok (.string (nB re ++ nB im)) W) ∧ (∀ W, (Op.stringOp .add (nB re ++ nB im) ⟨#[105]⟩).run Tryd.prog W = .ok (.string (nB re ++ nB im ++ ⟨#[105]⟩)) W) := by
  have s1 := nB_size (inQ_iff.1 h1).1 (inQ_iff.1 h1).2
  have s2 := nB_size (inQ_iff.1 h2).1 (inQ_iff.1 h2).2
  have s3 : (nB re ++ nB im).size = (nB re).size + (nB im).size := ByteArray.size_append
  refine ⟨fun W => run_string_add_sum (P := Tryd.prog) (w := W) _ _ (by omega), fun W => run_string_add_sum (P := Tryd.prog) (w := W) _ _ (by rw [s3]; show _ + 1 ≤ _; omega)⟩
set_option maxHeartbeats 800000 in
theorem impl_any (re im : Int) (w : World) (htab : Door.Tab w) : Calls Tryd.prog 9 #[.int .i64 re, .int .i64 im] w (Ptx re im w) := by
  have Ht := Lib.hid htab
  clear htab
  have h1 := fun W => isq_any re W
  have h2 := fun W => isq_any im W
  cases q1 : inQ re
  · have Hx := Lib.hid (no_text (re := re) (im := im) (fun h => by rw [q1] at h; cases h.1))
    rw [q1] at h1
    clear q1 h2
    go_enter Tryd.func9, Tryd.ntmps9
    go_wp2_with fail
    refine (h1 _).mono ?_
    rintro e w' ⟨rfl, hw'⟩
    subst w'
    go_wp2_with fail
    go_ret
    exact ⟨ret_string Hx.out, Below.refl _ _⟩
  · cases q2 : inQ im
    · have Hx := Lib.hid (no_text (re := re) (im := im) (fun h => by rw [q2] at h; cases h.2))
      rw [q1] at h1
      rw [q2] at h2
      clear q1 q2
      go_enter Tryd.func9, Tryd.ntmps9
      go_wp2_with fail
      refine (h1 _).mono ?_
      rintro e w' ⟨rfl, hw'⟩
      subst w'
      go_wp2_with fail
      refine (h2 _).mono ?_
      rintro e w' ⟨rfl, hw'⟩
      subst w'
      go_wp2_with fail
      go_ret
      exact ⟨ret_string Hx.out, Below.refl _ _⟩
    · have Hx := Lib.hid (pair_text q1 q2)
      obtain ⟨a1, a2⟩ := adds q1 q2
      have t1 := fun (W : World) h => quantum_any re W (inQ_iff.1 q1).1 (inQ_iff.1 q1).2 h
      have t2 := fun (W : World) h => quantum_any im W (inQ_iff.1 q2).1 (inQ_iff.1 q2).2 h
      unfold Txt at t1 t2
      rw [q1] at h1
      rw [q2] at h2
      generalize nB re = s at *
      generalize nB im = t at *
      clear q1 q2
      go_enter Tryd.func9, Tryd.ntmps9
      go_wp2_with fail
      refine (h1 _).mono ?_
      rintro e w' ⟨rfl, hw'⟩
      subst w'
      go_wp2_with fail
      refine (h2 _).mono ?_
      rintro e w' ⟨rfl, hw'⟩
      subst w'
      go_wp2_with fail
      refine (t1 _ Ht.out).mono ?_
      rintro e w1 ⟨rfl, hb1⟩
      have Hb1 := Lib.hid hb1
      have Ht1 := Lib.hid (Door.tab_below Ht.out hb1)
      clear hb1 t1
      go_wp2_with fail
      refine (t2 _ Ht1.out).mono ?_
      rintro e w2 ⟨rfl, hb2⟩
      have Hb2 := Lib.hid (Hb1.out.trans (hb2.mono Hb1.out.size))
      clear hb2 t2
      go_wp2_with fail
      go_ret
      exact ⟨ret_string Hx.out, Hb2.out⟩
set_option maxHeartbeats 800000 in
theorem spec_any (re im : Int) (w : World) : Calls Tryd.prog 17 #[.int .i64 re, .int .i64 im] w (Ptx re im w) := by
  have h1 := fun W => in_any re W
  have h2 := fun W => in_any im W
  cases q1 : inQ re
  · have Hx := Lib.hid (no_text (re := re) (im := im) (fun h => by rw [q1] at h; cases h.1))
    rw [q1] at h1
    clear q1 h2
    go_enter Tryd.func17, Tryd.ntmps17
    go_wp2_with fail
    refine (h1 _).mono ?_
    rintro e w' ⟨rfl, hw'⟩
    subst w'
    go_wp2_with fail
    go_ret
    exact ⟨ret_string Hx.out, Below.refl _ _⟩
  · cases q2 : inQ im
    · have Hx := Lib.hid (no_text (re := re) (im := im) (fun h => by rw [q2] at h; cases h.2))
      rw [q1] at h1
      rw [q2] at h2
      clear q1 q2
      go_enter Tryd.func17, Tryd.ntmps17
      go_wp2_with fail
      refine (h1 _).mono ?_
      rintro e w' ⟨rfl, hw'⟩
      subst w'
      go_wp2_with fail
      refine (h2 _).mono ?_
      rintro e w' ⟨rfl, hw'⟩
      subst w'
      go_wp2_with fail
      go_ret
      exact ⟨ret_string Hx.out, Below.refl _ _⟩
    · have Hx := Lib.hid (pair_text q1 q2)
      obtain ⟨a1, a2⟩ := adds q1 q2
      have t1 := fun (W : World) => signed_any re W (inQ_iff.1 q1).1 (inQ_iff.1 q1).2
      have t2 := fun (W : World) => signed_any im W (inQ_iff.1 q2).1 (inQ_iff.1 q2).2
      unfold Txt at t1 t2
      rw [q1] at h1
      rw [q2] at h2
      generalize nB re = s at *
      generalize nB im = t at *
      clear q1 q2
      go_enter Tryd.func17, Tryd.ntmps17
      go_wp2_with fail
      refine (h1 _).mono ?_
      rintro e w' ⟨rfl, hw'⟩
      subst w'
      go_wp2_with fail
      refine (h2 _).mono ?_
      rintro e w' ⟨rfl, hw'⟩
      subst w'
      go_wp2_with fail
      refine (t1 _).mono ?_
      rintro e w1 ⟨rfl, hb1⟩
      have Hb1 := Lib.hid hb1
      clear hb1 t1
      go_wp2_with fail
      refine (t2 _).mono ?_
      rintro e w2 ⟨rfl, hb2⟩
      have Hb2 := Lib.hid (Hb1.out.trans (hb2.mono Hb1.out.size))
      clear hb2 t2
      go_wp2_with fail
      go_ret
      exact ⟨ret_string Hx.out, Hb2.out⟩
end Go.Proofs.YtkjjeccgmeiniaaDoor.Prs
