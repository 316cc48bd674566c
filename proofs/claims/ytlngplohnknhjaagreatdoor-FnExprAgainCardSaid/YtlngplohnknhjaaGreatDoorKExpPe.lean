/- The program's parser: chains, factors, what is enclosed. -/
import Derived.Test.YtlngplohnknhjaaGreatDoorKExpPd
import Derived.Test.YtlngplohnknhjaaGreatDoorKExpRt
namespace Go.Proofs.YtlngplohnknhjaaGreatDoor.Px
open Go.ChangeShapes Go.WideShapes Go.ChangeAt Go.RowKit Go.Proofs.YtlngplohnknhjaaGreatDoor Go.Proofs.YtlngplohnknhjaaGreatDoor.Flt Go.Proofs.YtlngplohnknhjaaGreatDoor.Ex Go.Proofs.YtlngplohnknhjaaGreatDoor.Cpx Go.Proofs.YtlngplohnknhjaaGreatDoor.Sng
set_option linter.unusedVariables false
theorem op_none {w0 : World} {B : Nat} {xs : List Nd} {l : Tx} {s : Nat} (hs : 1 ≤ s ∧ s ≤ 5) {w : World} (h : Ps w0 B xs l w) (ho : opr s l = none) :
    Calls Tryz.prog 62 #[.pointer (some ⟨B, 0, none⟩), .int .i64 (s : Int)] w fun e w' => e = .returned (.tuple #[.int .i64 0, .bool false]) ∧ Ps w0 B xs l w' := by
  have := operator_any w0 B xs l s hs w h
  unfold OprOut at this
  rw [ho] at this
  exact this
theorem op_some {w0 : World} {B : Nat} {xs : List Nd} {l r : Tx} {s : Nat} {k : Int} (hs : 1 ≤ s ∧ s ≤ 5) {w : World} (h : Ps w0 B xs l w) (ho : opr s l = some (k, r)) :
    Calls Tryz.prog 62 #[.pointer (some ⟨B, 0, none⟩), .int .i64 (s : Int)] w fun e w' => e = .returned (.tuple #[.int .i64 k, .bool true]) ∧ Ps w0 B xs r w' := by
  have := operator_any w0 B xs l s hs w h
  unfold OprOut at this
  rw [ho] at this
  exact this
theorem tk_no {w0 : World} {B : Nat} {xs : List Nd} {l p : Tx} {w : World} (h : Ps w0 B xs l w) (ho : tk p l = none) :
    Calls Tryz.prog 76 #[.pointer (some ⟨B, 0, none⟩), .string ⟨p.toArray⟩] w fun e w' => e = .returned (.bool false) ∧ Ps w0 B xs l w' := by
  have := takes_any w0 B xs l p w h
  rw [ho] at this
  exact this
theorem tk_yes {w0 : World} {B : Nat} {xs : List Nd} {l p r : Tx} {w : World} (h : Ps w0 B xs l w) (ho : tk p l = some r) :
    Calls Tryz.prog 76 #[.pointer (some ⟨B, 0, none⟩), .string ⟨p.toArray⟩] w fun e w' => e = .returned (.bool true) ∧ Ps w0 B xs r w' := by
  have := takes_any w0 B xs l p w h
  rw [ho] at this
  exact this
/-! lengths -/
theorem tk_lt {c : UInt8} {p l r : Tx} (h : tk (c :: p) l = some r) : r.length < l.length := by
  unfold tk at h
  split at h
  · rename_i hp
    cases h
    have hk := sk_len l
    have hl : (c :: p).length ≤ (sk l).length := by
      unfold Lib.hasPrefix at hp
      exact (List.isPrefixOf_iff_prefix.1 hp).length_le
    rw [List.length_drop]
    simp at hl ⊢
    omega
  · cases h
theorem opr_lt {k : Nat} {j : Int} {l r : Tx} (h : opr k l = some (j, r)) : r.length < l.length := by
  unfold opr at h
  obtain ⟨a, _, ha⟩ := List.exists_of_findSome?_eq_some h
  rw [Option.map_eq_some_iff] at ha
  obtain ⟨b, hb, e⟩ := ha
  cases e
  obtain ⟨c, p, hc⟩ : ∃ c p, txL j = c :: p := by
    unfold txL
    repeat' split
    all_goals exact ⟨_, _, rfl⟩
  rw [hc] at hb
  exact tk_lt hb
theorem R.len {m : Md} {xs ys : List Nd} {l r : Tx} (h : R m xs l ys r) : r.length ≤ l.length := by
  induction h with
  | four _ ih => exact ih
  | chain _ _ _ _ ih1 ih2 => omega
  | stop _ => exact Nat.le_refl _
  | more ho _ _ _ ih1 ih2 => have := opr_lt ho; omega
  | un ho _ _ ih => have := opr_lt ho; omega
  | fn _ ho ht _ _ ih => have := opr_lt ho; have := tk_lt ht; omega
  | par _ _ ht _ ih => have := tk_lt ht; omega
  | slot _ _ _ ht _ _ => have := tk_lt ht; simp at this; omega
  | real _ _ _ _ hs _ _ _ _ _ =>
    have h2 := congrArg List.length hs
    rw [List.length_append] at h2
    have h3 := Nat.le_trans (Nat.le_of_eq h2.symm) (sk_len _)
    omega
  | imag _ _ _ _ hs _ _ _ _ _ =>
    have h2 := congrArg List.length hs
    rw [List.length_append, List.length_cons] at h2
    have h3 := Nat.le_trans (Nat.le_of_eq h2.symm) (sk_len _)
    omega
  | encl _ ht ih => have := tk_lt ht; omega
/-! contracts -/
def CC (w0 : World) (B : Nat) (fn : FuncId) (args : Array Value) (xs : List Nd) (l : Tx) (ys : List Nd) (r : Tx) : Prop :=
  ∀ w, Ps w0 B xs l w → Calls Tryz.prog fn (#[.pointer (some ⟨B, 0, none⟩)] ++ args) w fun e w' => e = .returned (.tuple #[]) ∧ Ps w0 B ys r w'
abbrev CCh (w0 : World) (B : Nat) (k : Int) := CC w0 B 40 #[.int .i64 k]
abbrev CFa (w0 : World) (B : Nat) := CC w0 B 61 #[]
abbrev CEn (w0 : World) (B : Nat) := CC w0 B 77 #[]
/-- the rounds of a chain's loop -/
inductive LoopS (w0 : World) (B : Nat) (k : Nat) : List Nd → Tx → List Nd → Tx → Prop where
  | stop {xs : List Nd} {l : Tx} : opr k l = none → LoopS w0 B k xs l xs l
  | more {j : Int} {xs ys zs : List Nd} {l r q o : Tx} : opr k l = some (j, r) → q.length ≤ r.length → CCh w0 B ((k : Int) + 1) xs r ys q → ys.length < 60 → LoopS w0 B k (ys ++ [opN j]) q zs o → LoopS w0 B k xs l zs o
/-- the text ahead -/
def tl (B : Nat) (w : World) : Nat := match w.cell? ⟨B, 1, none⟩ with
  | some (.string s) => s.size
  | _ => 0
theorem Ps.tl {w0 : World} {B : Nat} {xs : List Nd} {l : Tx} {w : World} (h : Ps w0 B xs l w) : tl B w = l.length := by
  unfold Px.tl
  rw [h.cell1]
  exact size_tx l
/-- what holds at the loop's head -/
def Pend (w0 : World) (B : Nat) (k : Nat) (zs : List Nd) (o : Tx) (kv okv : Value) (w : World) : Prop :=
  (∃ kk : Int, kv = .int .i64 kk ∧ okv = .bool false ∧ Ps w0 B zs o w) ∨
  ∃ (j : Int) (xs ys : List Nd) (r q : Tx), kv = .int .i64 j ∧ okv = .bool true ∧ Ps w0 B xs r w ∧ q.length ≤ r.length ∧ CCh w0 B ((k : Int) + 1) xs r ys q ∧ ys.length < 60 ∧ LoopS w0 B k (ys ++ [opN j]) q zs o
def mea (B : Nat) (okv : Value) (w : World) : Nat := match okv with
  | .bool true => tl B w + 1
  | _ => 0
/-- an operator ahead: what holds at the loop's head -/
theorem pend_op {w0 : World} {B : Nat} {k : Nat} (hk : 1 ≤ k ∧ k ≤ 3) {xs zs : List Nd} {l o : Tx} (hL : LoopS w0 B k xs l zs o) {w : World} (h : Ps w0 B xs l w) :
    Calls Tryz.prog 62 #[.pointer (some ⟨B, 0, none⟩), .int .i64 (k : Int)] w fun e w' => ∃ kv ok, e = .returned (.tuple #[.int .i64 kv, .bool ok]) ∧ Pend w0 B k zs o (.int .i64 kv) (.bool ok) w' ∧ mea B (.bool ok) w' ≤ l.length := by
  cases hL with
  | stop ho =>
    refine (op_none (by omega) h ho).mono ?_
    rintro e w' ⟨rfl, h'⟩
    exact ⟨0, false, rfl, .inl ⟨0, rfl, rfl, h'⟩, Nat.zero_le _⟩
  | more ho hq hc hy hL =>
    refine (op_some (by omega) h ho).mono ?_
    rintro e w' ⟨rfl, h'⟩
    refine ⟨_, true, rfl, .inr ⟨_, _, _, _, _, rfl, rfl, h', hq, hc, hy, hL⟩, ?_⟩
    show Px.tl B w' + 1 ≤ _
    rw [h'.tl]
    exact opr_lt ho
set_option maxRecDepth 20000 in
set_option maxHeartbeats 1600000 in
theorem chain4_any {w0 : World} {B : Nat} {xs ys : List Nd} {l r : Tx} (hF : CFa w0 B xs l ys r) : CCh w0 B 4 xs l ys r := fun w h => by
  have c := fun W hW => hF W hW
  have H := Lib.hid h
  have HC := Lib.hid c
  clear hF h c
  show Calls Tryz.prog 40 #[.pointer (some ⟨B, 0, none⟩), .int .i64 4] w _
  go_enter Tryz.func40, Tryz.ntmps40
  go_wp2_with fail
  refine (HC.out _ H.out).mono ?_
  rintro e w1 ⟨rfl, h1⟩
  have H1 := Lib.hid h1
  clear h1
  go_wp2_with fail
  exact bodyPost_ret (v := .tuple #[]) (by simp [results, Tryz.results40]) rfl ⟨rfl, H1.out⟩
set_option maxRecDepth 20000 in
set_option maxHeartbeats 1600000 in
theorem chain_any {w0 : World} {B k : Nat} (hk : 1 ≤ k ∧ k ≤ 3) {xs ys zs : List Nd} {l r o : Tx} (hF : CCh w0 B ((k : Int) + 1) xs l ys r) (hL : LoopS w0 B k ys r zs o) : CCh w0 B (k : Int) xs l zs o := fun w h => by
  have H := Lib.hid h
  have HC := Lib.hid hF
  have HL := Lib.hid hL
  have b4 : ((k : Int) == 4) = false := by rw [beq_eq_false_iff_ne]; omega
  have hw1 : IntKind.i64.wrap ((k : Int) + 1) = (k : Int) + 1 := by rw [IntKind.wrap_i64]; omega
  have Hk := Lib.hid hk
  clear hF h hL hk
  show Calls Tryz.prog 40 #[.pointer (some ⟨B, 0, none⟩), .int .i64 (k : Int)] w _
  go_enter Tryz.func40, Tryz.ntmps40
  go_wp2_with fail
  refine (HC.out _ H.out).mono ?_
  rintro e w1 ⟨rfl, h1⟩
  have H1 := Lib.hid h1
  clear h1
  go_wp2_with fail
  refine (pend_op Hk.out HL.out H1.out).mono ?_
  rintro e w2 ⟨kv, ok, rfl, h2, _⟩
  have H2 := Lib.hid h2
  clear h2
  go_wp2_with fail
  go_loopw [4, 5] (fun kv okv wr => Hid (Pend w0 B k zs o kv okv wr)) (fun _ okv wr => mea B okv wr)
  case atStart => exact H2
  case round =>
    rcases hrel.out with ⟨kk, rfl, rfl, hP⟩ | ⟨j, xs1, ys1, r1, q1, rfl, rfl, hP, hq, hc, hy, hL⟩
    · have HP := Lib.hid hP
      clear hP hrel
      go_wp2_with fail
      exact bodyPost_end (v := .tuple #[]) (by simp [results, Tryz.results40]) rfl ⟨rfl, HP.out⟩
    · have hme : mea B (.bool true) wr = r1.length + 1 := by
        show Px.tl B wr + 1 = _
        rw [hP.tl]
      have HP := Lib.hid (And.intro hP (And.intro hq (And.intro hc (And.intro hy hL))))
      clear hP hq hc hy hL hrel
      go_wp2_with fail
      refine (HP.out.2.2.1 _ HP.out.1).mono ?_
      rintro e w1 ⟨rfl, h1⟩
      have H1 := Lib.hid h1
      clear h1
      go_wp2_with fail
      refine (put_any w0 B ys1 q1 (opN j) _ H1.out HP.out.2.2.2.1).mono ?_
      rintro e w2 ⟨rfl, h2⟩
      have H2 := Lib.hid h2
      clear h2
      go_wp2_with fail
      refine (pend_op Hk.out HP.out.2.2.2.2 H2.out).mono ?_
      rintro e w3 ⟨kv3, ok3, rfl, h3, hm3⟩
      have H3 := Lib.hid h3
      have Hm3 := Lib.hid hm3
      clear h3 hm3
      go_wp2_with fail
      go_roundw
      case rel => exact H3
      case measure =>
        have h5 := Hm3.out
        have h6 := HP.out.2.1
        rw [hme]
        show mea B (.bool ok3) _ < _
        omega
set_option maxRecDepth 20000 in
set_option maxHeartbeats 1600000 in
theorem un_any {w0 : World} {B : Nat} {xs ys : List Nd} {l r q : Tx} {j : Int} (ho : opr 4 l = some (j, r)) (hF : CFa w0 B xs r ys q) (hy : ys.length < 60) : CFa w0 B xs l (ys ++ [opN j]) q := fun w h => by
  have HA := Lib.hid (And.intro ho (And.intro hF hy))
  clear ho hF hy
  have H := Lib.hid h
  clear h
  show Calls Tryz.prog 61 #[.pointer (some ⟨B, 0, none⟩)] w _
  go_enter Tryz.func61, Tryz.ntmps61
  go_wp2_with fail
  refine (op_some (s := 4) (by omega) H.out HA.out.1).mono ?_
  rintro e w1 ⟨rfl, h1⟩
  have H1 := Lib.hid h1
  clear h1
  go_wp2_with fail
  refine (HA.out.2.1 _ H1.out).mono ?_
  rintro e w2 ⟨rfl, h2⟩
  have H2 := Lib.hid h2
  clear h2
  go_wp2_with fail
  refine (put_any w0 B ys q (opN j) _ H2.out HA.out.2.2).mono ?_
  rintro e w3 ⟨rfl, h3⟩
  have H3 := Lib.hid h3
  clear h3
  go_wp2_with fail
  exact bodyPost_ret (v := .tuple #[]) (by simp [results, Tryz.results61]) rfl ⟨rfl, H3.out⟩
set_option maxRecDepth 20000 in
set_option maxHeartbeats 1600000 in
theorem fn_any {w0 : World} {B : Nat} {xs ys : List Nd} {l r r1 q : Tx} {j : Int} (h4 : opr 4 l = none) (ho : opr 5 l = some (j, r)) (ht : tk [40] r = some r1) (hF : CEn w0 B xs r1 ys q) (hy : ys.length < 60) : CFa w0 B xs l (ys ++ [opN j]) q := fun w h => by
  have HA := Lib.hid (And.intro h4 (And.intro ho (And.intro ht (And.intro hF hy))))
  clear h4 ho ht hF hy
  have H := Lib.hid h
  clear h
  show Calls Tryz.prog 61 #[.pointer (some ⟨B, 0, none⟩)] w _
  go_enter Tryz.func61, Tryz.ntmps61
  go_wp2_with fail
  refine (op_none (s := 4) (by omega) H.out HA.out.1).mono ?_
  rintro e w1 ⟨rfl, h1⟩
  have H1 := Lib.hid h1
  clear h1
  go_wp2_with fail
  refine (op_some (s := 5) (by omega) H1.out HA.out.2.1).mono ?_
  rintro e w2 ⟨rfl, h2⟩
  have H2 := Lib.hid h2
  clear h2
  go_wp2_with fail
  refine (tk_yes H2.out HA.out.2.2.1).mono ?_
  rintro e w3 ⟨rfl, h3⟩
  have H3 := Lib.hid h3
  clear h3
  go_wp2_with fail
  refine (demand_any _).mono ?_
  rintro e wd ⟨rfl, hwd⟩
  subst wd
  go_wp2_with fail
  refine (HA.out.2.2.2.1 _ H3.out).mono ?_
  rintro e w4 ⟨rfl, h4⟩
  have H4 := Lib.hid h4
  clear h4
  go_wp2_with fail
  refine (put_any w0 B ys q (opN j) _ H4.out HA.out.2.2.2.2).mono ?_
  rintro e w5 ⟨rfl, h5⟩
  have H5 := Lib.hid h5
  clear h5
  go_wp2_with fail
  exact bodyPost_ret (v := .tuple #[]) (by simp [results, Tryz.results61]) rfl ⟨rfl, H5.out⟩
set_option maxRecDepth 20000 in
set_option maxHeartbeats 1600000 in
theorem par_any {w0 : World} {B : Nat} {xs ys : List Nd} {l r q : Tx} (h4 : opr 4 l = none) (h5 : opr 5 l = none) (ht : tk [40] l = some r) (hF : CEn w0 B xs r ys q) : CFa w0 B xs l ys q := fun w h => by
  have HA := Lib.hid (And.intro h4 (And.intro h5 (And.intro ht hF)))
  clear h4 h5 ht hF
  have H := Lib.hid h
  clear h
  show Calls Tryz.prog 61 #[.pointer (some ⟨B, 0, none⟩)] w _
  go_enter Tryz.func61, Tryz.ntmps61
  go_wp2_with fail
  refine (op_none (s := 4) (by omega) H.out HA.out.1).mono ?_
  rintro e w1 ⟨rfl, h1⟩
  have H1 := Lib.hid h1
  clear h1
  go_wp2_with fail
  refine (op_none (s := 5) (by omega) H1.out HA.out.2.1).mono ?_
  rintro e w2 ⟨rfl, h2⟩
  have H2 := Lib.hid h2
  clear h2
  go_wp2_with fail
  refine (tk_yes H2.out HA.out.2.2.1).mono ?_
  rintro e w3 ⟨rfl, h3⟩
  have H3 := Lib.hid h3
  clear h3
  go_wp2_with fail
  refine (HA.out.2.2.2 _ H3.out).mono ?_
  rintro e w4 ⟨rfl, h4⟩
  have H4 := Lib.hid h4
  clear h4
  go_wp2_with fail
  exact bodyPost_end (v := .tuple #[]) (by simp [results, Tryz.results61]) rfl ⟨rfl, H4.out⟩
set_option maxRecDepth 20000 in
set_option maxHeartbeats 1600000 in
theorem slotf_any {w0 : World} {B : Nat} {xs : List Nd} {l r : Tx} {c : UInt8} (h4 : opr 4 l = none) (h5 : opr 5 l = none) (h6 : tk [40] l = none) (h7 : tk [115] l = some (c :: r)) (hc : isD c = true) (hx : xs.length < 60) : CFa w0 B xs l (xs ++ [⟨2, ((c.toNat - 48 : Nat) : Int), 0, 0⟩]) r := fun w h => by
  have HA := Lib.hid (And.intro h4 (And.intro h5 (And.intro h6 (And.intro h7 (And.intro hc hx)))))
  clear h4 h5 h6 h7 hc hx
  obtain ⟨nd, en⟩ : ∃ nd, (⟨2, ((c.toNat - 48 : Nat) : Int), 0, 0⟩ : Nd) = nd := ⟨_, rfl⟩
  have HN := Lib.hid en
  rw [en]
  clear en
  have H := Lib.hid h
  clear h
  show Calls Tryz.prog 61 #[.pointer (some ⟨B, 0, none⟩)] w _
  go_enter Tryz.func61, Tryz.ntmps61
  go_wp2_with fail
  refine (op_none (s := 4) (by omega) H.out HA.out.1).mono ?_
  rintro e w1 ⟨rfl, h1⟩
  have H1 := Lib.hid h1
  clear h1
  go_wp2_with fail
  refine (op_none (s := 5) (by omega) H1.out HA.out.2.1).mono ?_
  rintro e w2 ⟨rfl, h2⟩
  have H2 := Lib.hid h2
  clear h2
  go_wp2_with fail
  refine (tk_no H2.out HA.out.2.2.1).mono ?_
  rintro e w3 ⟨rfl, h3⟩
  have H3 := Lib.hid h3
  clear h3
  go_wp2_with fail
  refine (tk_yes H3.out HA.out.2.2.2.1).mono ?_
  rintro e w4 ⟨rfl, h4⟩
  have H4 := Lib.hid h4
  clear h4
  go_wp2_with fail
  refine (slot_any w0 B xs c r _ H4.out HA.out.2.2.2.2.1 HA.out.2.2.2.2.2).mono ?_
  rintro e w5 ⟨rfl, h5⟩
  have H5 := Lib.hid h5
  clear h5
  go_wp2_with fail
  have H6 := H5.out
  rw [HN.out] at H6
  exact bodyPost_end (v := .tuple #[]) (by simp [results, Tryz.results61]) rfl ⟨rfl, H6⟩
set_option maxRecDepth 20000 in
set_option maxHeartbeats 1600000 in
theorem numf_any {w0 : World} {B : Nat} (HT : ∀ w, Only B w0 w → Door.Tab w) {xs : List Nd} {l t q : Tx} {f : Nat} (h4 : opr 4 l = none) (h5 : opr 5 l = none) (h6 : tk [40] l = none) (h7 : tk [115] l = none) (hs : sk l = t ++ q) (hn : numA (sk l) = t) (hf : f < 2139095040) (hb : bodyL f = t) (hx : xs.length < 60) : CFa w0 B xs l (xs ++ [nmN (Lib.hasPrefix q [105]) f]) (nmR (Lib.hasPrefix q [105]) f q (Lib.trimPrefix q [105])) := fun w h => by
  have HN := Lib.hid (fun w h => number_any w0 B HT xs l t q f w h hx hs hn hf hb)
  have HA := Lib.hid (And.intro h4 (And.intro h5 (And.intro h6 h7)))
  clear h4 h5 h6 h7 hs hn hf hb hx
  obtain ⟨nd, en⟩ : ∃ nd, xs ++ [nmN (Lib.hasPrefix q [105]) f] = nd := ⟨_, rfl⟩
  obtain ⟨rs, er⟩ : ∃ rs, nmR (Lib.hasPrefix q [105]) f q (Lib.trimPrefix q [105]) = rs := ⟨_, rfl⟩
  rw [en, er] at HN ⊢
  clear en er
  have H := Lib.hid h
  clear h
  show Calls Tryz.prog 61 #[.pointer (some ⟨B, 0, none⟩)] w _
  go_enter Tryz.func61, Tryz.ntmps61
  go_wp2_with fail
  refine (op_none (s := 4) (by omega) H.out HA.out.1).mono ?_
  rintro e w1 ⟨rfl, h1⟩
  have H1 := Lib.hid h1
  clear h1
  go_wp2_with fail
  refine (op_none (s := 5) (by omega) H1.out HA.out.2.1).mono ?_
  rintro e w2 ⟨rfl, h2⟩
  have H2 := Lib.hid h2
  clear h2
  go_wp2_with fail
  refine (tk_no H2.out HA.out.2.2.1).mono ?_
  rintro e w3 ⟨rfl, h3⟩
  have H3 := Lib.hid h3
  clear h3
  go_wp2_with fail
  refine (tk_no H3.out HA.out.2.2.2).mono ?_
  rintro e w4 ⟨rfl, h4⟩
  have H4 := Lib.hid h4
  clear h4
  go_wp2_with fail
  refine (HN.out _ H4.out).mono ?_
  rintro e w5 ⟨rfl, h5⟩
  have H5 := Lib.hid h5
  clear h5
  go_wp2_with fail
  exact bodyPost_end (v := .tuple #[]) (by simp [results, Tryz.results61]) rfl ⟨rfl, H5.out⟩
set_option maxRecDepth 20000 in
set_option maxHeartbeats 1600000 in
theorem encl_any {w0 : World} {B : Nat} {xs ys : List Nd} {l r q : Tx} (hF : CCh w0 B 1 xs l ys r) (ht : tk [41] r = some q) : CEn w0 B xs l ys q := fun w h => by
  have HA := Lib.hid (And.intro hF ht)
  clear hF ht
  have H := Lib.hid h
  clear h
  show Calls Tryz.prog 77 #[.pointer (some ⟨B, 0, none⟩)] w _
  go_enter Tryz.func77, Tryz.ntmps77
  go_wp2_with fail
  refine (HA.out.1 _ H.out).mono ?_
  rintro e w1 ⟨rfl, h1⟩
  have H1 := Lib.hid h1
  clear h1
  go_wp2_with fail
  refine (tk_yes H1.out HA.out.2).mono ?_
  rintro e w2 ⟨rfl, h2⟩
  have H2 := Lib.hid h2
  clear h2
  go_wp2_with fail
  refine (demand_any _).mono ?_
  rintro e wd ⟨rfl, hwd⟩
  subst wd
  go_wp2_with fail
  exact bodyPost_end (v := .tuple #[]) (by simp [results, Tryz.results77]) rfl ⟨rfl, H2.out⟩
/-- what the ways of reading do -/
def Does (w0 : World) (B : Nat) : Md → List Nd → Tx → List Nd → Tx → Prop
  | .chain k => CCh w0 B (k : Int)
  | .loop k => LoopS w0 B k
  | .factor => CFa w0 B
  | .encl => CEn w0 B
theorem does_succ {w0 : World} {B k : Nat} {xs ys : List Nd} {l r : Tx} (h : Does w0 B (.chain (k + 1)) xs l ys r) : CCh w0 B ((k : Int) + 1) xs l ys r := by
  have h' : CCh w0 B ((k + 1 : Nat) : Int) xs l ys r := h
  rw [show ((k + 1 : Nat) : Int) = (k : Int) + 1 from Int.natCast_succ k] at h'
  exact h'
theorem does {w0 : World} {B : Nat} (HT : ∀ w, Only B w0 w → Door.Tab w) {m : Md} {xs ys : List Nd} {l r : Tx} (h : R m xs l ys r) : Does w0 B m xs l ys r := by
  induction h with
  | four _ ih => exact chain4_any ih
  | chain h1 h2 _ _ ih1 ih2 => exact chain_any ⟨h1, h2⟩ (does_succ ih1) ih2
  | stop ho => exact .stop ho
  | more ho hR hy _ ih1 ih2 => exact .more ho hR.len (does_succ ih1) hy ih2
  | un ho _ hy ih => exact un_any ho ih hy
  | fn h4 ho ht _ hy ih => exact fn_any h4 ho ht ih hy
  | par h4 h5 ht _ ih => exact par_any h4 h5 ht ih
  | slot h4 h5 h6 h7 hc hx => exact slotf_any h4 h5 h6 h7 hc hx
  | real h4 h5 h6 h7 hs hn hf hb hi hx =>
    have := numf_any HT h4 h5 h6 h7 hs hn hf hb hx
    unfold nmN nmR at this
    rw [if_neg (fun e => by rcases hi with hi | hi; exact e.2 hi; rw [hi] at e; cases e.1), if_neg (fun e => by rcases hi with hi | hi; exact e.2 hi; rw [hi] at e; cases e.1)] at this
    exact this
  | imag h4 h5 h6 h7 hs hn hf hb hi hx =>
    have := numf_any HT h4 h5 h6 h7 hs hn hf hb hx
    unfold nmN nmR at this
    rw [(pre_cons _ _).1, if_pos ⟨rfl, hi⟩, if_pos ⟨rfl, hi⟩, (pre_cons _ _).2] at this
    exact this
  | encl _ ht ih => exact encl_any ih ht
end Go.Proofs.YtlngplohnknhjaaGreatDoor.Px
