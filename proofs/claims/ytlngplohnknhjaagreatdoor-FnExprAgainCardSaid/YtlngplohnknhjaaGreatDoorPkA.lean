/- Several texts in one: Only, FmtInt, FltA, FltB, FltC, FltD, FltW, FltE, FltV, FltF, FltG, FltQ, FltM, Quo, ExpP, MathZ, Math. Lemmas of this proof; no further condition. -/
import Derived.WalkKit
import Derived.WalkLawsBesides
import Derived.Below
import Derived.OneCell
import Derived.ProofKit
import Derived.ChangeSame
import Derived.Lib.Hide
import Derived.Handy
import Derived.Test.YtlngplohnknhjaaGreatDoorChecked
import Derived.Lib.ItoaNum
import Derived.Lib.ItoaMem
import Derived.Lib.ItoaLen
import Derived.Outline
import Ieee.Arith
import Derived.Laws.FloatBits
import Derived.Laws.FloatArith
import Derived.Laws.Entries
import Derived.Laws.ComplexQuo
import Derived.KernelRfl
/- What is kept when one block alone turns. No program stands here. -/
namespace Go.Proofs.YtlngplohnknhjaaGreatDoor
open Go.RowKit
theorem ret_bool {a b : Bool} (h : a = b) : Ending.returned (.bool a) = .returned (.bool b) := by rw [h]
theorem ret_int {k : IntKind} {a b : Int} (h : a = b) : Ending.returned (.int k a) = .returned (.int k b) := by rw [h]
theorem ret_string {a b : ByteArray} (h : a = b) : Ending.returned (.string a) = .returned (.string b) := by rw [h]
/-- block 'B' alone has turned, of what was there -/
structure Only (B : Nat) (w w' : World) : Prop where
  os : w'.os = w.os
  tape : w'.tape = w.tape
  output : w'.output = w.output
  size : w.heap.size ≤ w'.heap.size
  block : ∀ k, k < w.heap.size → k ≠ B → w'.heap[k]? = w.heap[k]?
theorem Only.refl (B : Nat) (w : World) : Only B w w := ⟨rfl, rfl, rfl, Nat.le_refl _, fun _ _ _ => rfl⟩
theorem Only.trans {B : Nat} {a b c : World} (h : Only B a b) (k : Only B b c) : Only B a c :=
  ⟨k.os.trans h.os, k.tape.trans h.tape, k.output.trans h.output, Nat.le_trans h.size k.size, fun i hi hn => (k.block i (Nat.lt_of_lt_of_le hi h.size) hn).trans (h.block i hi hn)⟩
theorem Only.drewN {B : Nat} {a w : World} (h : Only B a w) (n : Nat) : Only B a (w.drewN n) := ⟨h.os, h.tape, h.output, h.size, h.block⟩
theorem Only.setCell {B : Nat} {a w : World} (h : Only B a w) (o : Nat) (u : Value) : Only B a (w.setCell ⟨B, o, none⟩ u) :=
  h.trans ⟨rfl, rfl, rfl, by simp [World.setCell], fun k _ hn => Below.heap_setCell _ _ _ _ hn⟩
theorem Only.of_below {B : Nat} {a w : World} (h : Below a.heap.size a w) : Only B a w := ⟨h.os, h.tape, h.output, h.size, fun k hk _ => h.block k hk⟩
theorem Only.alloc {B : Nat} {a w : World} (h : Only B a w) (o : Obj) : Only B a (w.alloc o) := h.trans (Only.of_below ((Below.refl _ _).alloc (Nat.le_refl _) _))
theorem Only.below {B base : Nat} {a w : World} (h : Only B a w) (hB : base ≤ B) (hb : base ≤ a.heap.size) : Below base a w := ⟨h.os, h.tape, h.output, h.size, fun k hk => h.block k (by omega) (by omega)⟩
theorem Only.cell {B : Nat} {w w' : World} (h : Only B w w') {p : Addr} (hp : p.block < w.heap.size) (hn : p.block ≠ B) : w'.cell? p = w.cell? p := World.cell?_of_block (w := w) (h.block p.block hp hn)
theorem block_setCell {w : World} {b o : Nat} {c : Array Value} {t : TypeId} {fz : Nat × Nat} (h : w.heap[b]? = some (.cells c t fz)) (u : Value) : (w.setCell ⟨b, o, none⟩ u).heap[b]? = some (.cells (c.setIfInBounds o u) t fz) := by
  have hlt := lt_of_block h
  have h' : w.heap[b] = .cells c t fz := by simpa [Array.getElem?_eq_getElem hlt] using h
  show (w.heap.modify b _)[b]? = _
  rw [Array.getElem?_eq_getElem (by simpa using hlt), Array.getElem_modify_self, h']
  rfl
theorem block_new (w : World) (o : Obj) : (w.alloc o).heap[w.heap.size]? = some o := by
  show (w.heap.push o)[w.heap.size]? = _
  simp
theorem lt_of_cell {w : World} {p : Addr} {v : Value} (h : w.cell? p = some v) : p.block < w.heap.size := by
  unfold World.cell? at h
  cases hb : w.heap[p.block]? with
  | none => rw [hb] at h; cases h
  | some o => exact lt_of_block hb
end Go.Proofs.YtlngplohnknhjaaGreatDoor

/- The contract of the model's FormatInt: the decimal numeral. -/
namespace Go.Proofs.YtlngplohnknhjaaGreatDoor.Fmi
open Go.ChangeShapes Go.WideShapes Go.ChangeAt Go.RowKit Go.Proofs.YtlngplohnknhjaaGreatDoor
set_option linter.unusedVariables false
theorem figure_any (d : Int) (w : World) (h0 : 0 ≤ d) (h1 : d ≤ 9) :
    Calls Tryz.prog 162 #[.int .i64 d] w fun e w' => e = .returned (.int .u8 (48 + d)) ∧ w' = w := by
  go_enter Tryz.func162, Tryz.ntmps162
  go_wp2
  go_ret
  exact ⟨rfl, rfl⟩
theorem conv_one (w : World) (v : Nat) : (convert 22 9 (.slice (some ⟨w.heap.size, 0, none⟩) 1 1)).run Tryz.prog (w.alloc (.cells #[.int .u8 (48 + (v : Int) % 10)] 5)) = .ok (.string ⟨#[UInt8.ofNat (48 + v % 10)]⟩) (w.alloc (.cells #[.int .u8 (48 + (v : Int) % 10)] 5)) := by
  refine run_convert_bytes_back (P := Tryz.prog) _ 22 9 5 ⟨w.heap.size, 0, none⟩ 1 [UInt8.ofNat (48 + v % 10)] Tryz.underlying22 Tryz.underlying5 Tryz.underlying9 (fun j hj => ?_)
  obtain rfl : j = 0 := by simp at hj; omega
  show World.cell? _ ⟨w.heap.size, 0, none⟩ = _
  simp only [World.cell?, block_new]
  have h : (UInt8.ofNat (48 + v % 10)).toNat = 48 + v % 10 := by
    rw [UInt8.toNat_ofNat']; exact Nat.mod_eq_of_lt (by omega)
  simp
  omega
/-- the digits, none of 0 -/
def pre (v : Nat) : List UInt8 := if v = 0 then [] else Lib.decDigits v
theorem pre_step {v : Nat} (h : 0 < v) : pre v = pre (v / 10) ++ [UInt8.ofNat (48 + v % 10)] := by
  unfold pre
  rw [if_neg (by omega), Lib.decDigits]
  by_cases h10 : v < 10
  · rw [dif_pos h10, if_pos (by omega), Nat.mod_eq_of_lt h10]; rfl
  · rw [dif_neg h10, if_neg (by omega)]
def Out (n : Int) (w : World) (e : Ending) (w' : World) : Prop := e = .returned (.string ⟨(Lib.itoa n).toArray⟩) ∧ Below w.heap.size w w'
theorem zero (w : World) : Calls Tryz.prog 153 #[.int .i64 0] w (Out 0 w) := by
  have Hf := Lib.hid (show (⟨#[48]⟩ : ByteArray) = ⟨(Lib.itoa 0).toArray⟩ by rw [show (0 : Int) = ((0 : Nat) : Int) from rfl, Lib.itoa_nonneg, Lib.decDigits_one (by omega)]; rfl)
  go_enter Tryz.func153, Tryz.ntmps153
  go_wp2
  go_ret
  exact ⟨ret_string Hf.out, Below.refl _ _⟩
theorem pre_len (v : Nat) : (pre v).length ≤ v := by
  induction v using Nat.strongRecOn with
  | _ v ih =>
    by_cases h : 0 < v
    · rw [pre_step h, List.length_append]
      have := ih (v / 10) (by omega)
      simp only [List.length_cons, List.length_nil]
      omega
    · obtain rfl : v = 0 := by omega
      exact Nat.le_refl _
theorem pre_len21 (u : Nat) (h1 : u ≤ 9223372036854775808) : (pre u).length ≤ 21 := by
  by_cases h : u = 0
  · rw [h]; exact Nat.zero_le _
  · have e : pre u = Lib.decDigits u := if_neg h
    have e2 := Lib.itoa_length_le (-(u : Int)) (by omega) (by omega)
    rw [Lib.itoa_neg u (by omega), List.length_cons] at e2
    rw [e]
    omega
def seen (s : ByteArray) : List UInt8 := s.data.toList
theorem seen_add (a b : ByteArray) : seen (a ++ b) = seen a ++ seen b := by
  unfold seen; rw [ByteArray.data_append, Array.toList_append]
theorem seen_size (s : ByteArray) : (seen s).length = s.size := rfl
set_option maxHeartbeats 800000 in
theorem pos (u : Nat) (w : World) (h0 : 0 < u) (h1 : u ≤ 9223372036854775807) : Calls Tryz.prog 153 #[.int .i64 (u : Int)] w (Out u w) := by
  have hz : ((u : Int) == 0) = false := beq_eq_false_iff_ne.2 (by omega)
  have hneg : ¬ (u : Int) < 0 := by omega
  go_enter Tryz.func153, Tryz.ntmps153
  go_wp2_with fail
  go_loopw [0, 4] (fun nv sv wr => ∃ v : Nat, ∃ s : ByteArray, v ≤ u ∧ Hid (pre v ++ seen s = pre u) ∧ nv = .int .i64 (v : Int) ∧ sv = .string s ∧ Below w.heap.size w wr) (fun nv _ _ => (intOf nv).toNat)
  case atStart =>
    refine ⟨u, ⟨#[]⟩, Nat.le_refl _, ?_, rfl, rfl, Below.refl _ _⟩
    show pre u ++ [] = pre u
    exact List.append_nil _
  case round =>
    obtain ⟨v, s, hv, hpre, rfl, rfl, hb⟩ := hrel
    have Hb := Lib.hid hb
    clear hb
    by_cases hv0 : 0 < v
    · have hne : ((v : Int) == 0) = false := beq_eq_false_iff_ne.2 (by omega)
      have hne' : ((v : Int) != 0) = true := by rw [bne_iff_ne]; omega
      go_wp2_with fail
      refine (figure_any _ _ (by omega) (by omega)).mono ?_
      rintro e w2 ⟨rfl, rfl⟩
      have hconv := conv_one w2 v
      obtain ⟨b, hbe⟩ : ∃ b : ByteArray, b = ⟨#[UInt8.ofNat (48 + v % 10)]⟩ := ⟨_, rfl⟩
      have hsb : seen b = [UInt8.ofNat (48 + v % 10)] := by rw [hbe]; rfl
      rw [← hbe] at hconv
      have hlen : b.size + s.size ≤ 9223372036854775807 := by
        have e1 := congrArg List.length hpre.out
        rw [List.length_append, pre_step hv0, List.length_append, seen_size] at e1
        have e2 := pre_len u
        have e3 : b.size = 1 := by rw [← seen_size, hsb]; rfl
        simp only [List.length_cons, List.length_nil] at e1
        omega
      have hadd := fun w => run_string_add_sum (P := Tryz.prog) (w := w) b s hlen
      have Hn := Lib.hid hlen
      have Hs := Lib.hid hsb
      clear hbe hsb hlen
      go_wp2_with fail
      refine ⟨⟨v / 10, _, by omega, ?_, ?_, rfl, ?_⟩, ?_⟩
      · show pre (v / 10) ++ seen (b ++ s) = pre u
        rw [seen_add, Hs.out, ← List.append_assoc, ← pre_step hv0]
        exact hpre.out
      · rw [Int.natCast_ediv]; rfl
      · exact Hb.out.alloc Hb.out.size _
      · simp only [intOf]; omega
    · obtain rfl : v = 0 := by omega
      have hs : s = ⟨(Lib.itoa (u : Int)).toArray⟩ := by
        have e1 := hpre.out
        rw [Lib.itoa_nonneg]
        have e2 : pre u = Lib.decDigits u := if_neg (by omega)
        have e3 : pre 0 = [] := rfl
        rw [e2, e3, List.nil_append] at e1
        rw [← e1]
        rfl
      have Hf := Lib.hid hs
      clear hs
      go_wp2_with fail
      go_ret
      exact ⟨ret_string Hf.out, Hb.out⟩
set_option maxHeartbeats 800000 in
theorem neg (u : Nat) (w : World) (h0 : 0 < u) (h1 : u ≤ 9223372036854775808) : Calls Tryz.prog 153 #[.int .i64 (-(u : Int))] w (Out (-(u : Int)) w) := by
  have hz : ((-(u : Int)) == 0) = false := beq_eq_false_iff_ne.2 (by omega)
  have hneg : -(u : Int) < 0 := by omega
  go_enter Tryz.func153, Tryz.ntmps153
  go_wp2_with fail
  go_loopw [0, 4] (fun nv sv wr => ∃ v : Nat, ∃ s : ByteArray, v ≤ u ∧ Hid (pre v ++ seen s = pre u) ∧ nv = .int .i64 (-(v : Int)) ∧ sv = .string s ∧ Below w.heap.size w wr) (fun nv _ _ => (intOf nv).natAbs)
  case atStart =>
    refine ⟨u, ⟨#[]⟩, Nat.le_refl _, ?_, rfl, rfl, Below.refl _ _⟩
    show pre u ++ [] = pre u
    exact List.append_nil _
  case round =>
    obtain ⟨v, s, hv, hpre, rfl, rfl, hb⟩ := hrel
    have Hb := Lib.hid hb
    clear hb
    by_cases hv0 : 0 < v
    · have hne : ((-(v : Int)) == 0) = false := beq_eq_false_iff_ne.2 (by omega)
      have hne' : ((-(v : Int)) != 0) = true := by rw [bne_iff_ne]; omega
      have hdiv : (-(v : Int)).tdiv 10 = -((v : Int) / 10) := by
        rw [Int.neg_tdiv, Int.tdiv_eq_ediv_of_nonneg (by omega)]
      by_cases hm : (v : Int) % 10 = 0
      · have hmod : (-(v : Int)).tmod 10 = (v : Int) % 10 := by
          rw [Int.neg_tmod, Int.tmod_eq_emod_of_nonneg (by omega)]; omega
        have hlt : ¬ (v : Int) % 10 < 0 := by omega
        clear hm
        go_wp2_with fail
        refine (figure_any _ _ (by omega) (by omega)).mono ?_
        rintro e w2 ⟨rfl, rfl⟩
        have hconv := conv_one w2 v
        obtain ⟨b, hbe⟩ : ∃ b : ByteArray, b = ⟨#[UInt8.ofNat (48 + v % 10)]⟩ := ⟨_, rfl⟩
        have hsb : seen b = [UInt8.ofNat (48 + v % 10)] := by rw [hbe]; rfl
        rw [← hbe] at hconv
        have hlen : b.size + s.size ≤ 9223372036854775807 := by
          have e1 := congrArg List.length hpre.out
          rw [List.length_append, pre_step hv0, List.length_append, seen_size] at e1
          have e2 := pre_len21 u h1
          have e3 : b.size = 1 := by rw [← seen_size, hsb]; rfl
          simp only [List.length_cons, List.length_nil] at e1
          omega
        have hadd := fun w => run_string_add_sum (P := Tryz.prog) (w := w) b s hlen
        have Hn := Lib.hid hlen
        have Hs := Lib.hid hsb
        clear hbe hsb hlen
        go_wp2_with fail
        refine ⟨⟨v / 10, _, by omega, ?_, ?_, rfl, ?_⟩, ?_⟩
        · show pre (v / 10) ++ seen (b ++ s) = pre u
          rw [seen_add, Hs.out, ← List.append_assoc, ← pre_step hv0]
          exact hpre.out
        · rw [Int.natCast_ediv]; rfl
        · exact Hb.out.alloc Hb.out.size _
        · simp only [intOf]; omega
      · have hmod : (-(v : Int)).tmod 10 = -((v : Int) % 10) := by
          rw [Int.neg_tmod, Int.tmod_eq_emod_of_nonneg (by omega)]
        have hlt : -((v : Int) % 10) < 0 := by omega
        go_wp2_with fail
        refine (figure_any _ _ (by omega) (by omega)).mono ?_
        rintro e w2 ⟨rfl, rfl⟩
        have hconv := conv_one w2 v
        obtain ⟨b, hbe⟩ : ∃ b : ByteArray, b = ⟨#[UInt8.ofNat (48 + v % 10)]⟩ := ⟨_, rfl⟩
        have hsb : seen b = [UInt8.ofNat (48 + v % 10)] := by rw [hbe]; rfl
        rw [← hbe] at hconv
        have hlen : b.size + s.size ≤ 9223372036854775807 := by
          have e1 := congrArg List.length hpre.out
          rw [List.length_append, pre_step hv0, List.length_append, seen_size] at e1
          have e2 := pre_len21 u h1
          have e3 : b.size = 1 := by rw [← seen_size, hsb]; rfl
          simp only [List.length_cons, List.length_nil] at e1
          omega
        have hadd := fun w => run_string_add_sum (P := Tryz.prog) (w := w) b s hlen
        have Hn := Lib.hid hlen
        have Hs := Lib.hid hsb
        clear hbe hsb hlen
        go_wp2_with fail
        refine ⟨⟨v / 10, _, by omega, ?_, ?_, rfl, ?_⟩, ?_⟩
        · show pre (v / 10) ++ seen (b ++ s) = pre u
          rw [seen_add, Hs.out, ← List.append_assoc, ← pre_step hv0]
          exact hpre.out
        · rw [Int.natCast_ediv]; rfl
        · exact Hb.out.alloc Hb.out.size _
        · simp only [intOf]; omega
    · obtain rfl : v = 0 := by omega
      have hs : seen s = Lib.decDigits u := by
        have e1 := hpre.out
        have e2 : pre u = Lib.decDigits u := if_neg (by omega)
        have e3 : pre 0 = [] := rfl
        rw [e2, e3, List.nil_append] at e1
        exact e1
      obtain ⟨m, hme⟩ : ∃ m : ByteArray, m = ⟨#[45]⟩ := ⟨_, rfl⟩
      have hlen : m.size + s.size ≤ 9223372036854775807 := by
        have e1 := congrArg List.length hpre.out
        rw [List.length_append, seen_size] at e1
        have e2 := pre_len21 u h1
        have e3 : m.size = 1 := by rw [hme]; rfl
        omega
      have hadd := fun w => run_string_add_sum (P := Tryz.prog) (w := w) m s hlen
      have Hf := Lib.hid (show m ++ s = ⟨(Lib.itoa (-(u : Int))).toArray⟩ by
        rw [Lib.itoa_neg u h0, ← hs, hme]
        apply ByteArray.ext
        apply Array.toList_inj.1
        show seen (_ ++ s) = _
        rw [seen_add]
        rfl)
      rw [hme] at hadd Hf
      clear hs hlen hme
      go_wp2_with fail
      go_ret
      exact ⟨ret_string Hf.out, Hb.out⟩
end Go.Proofs.YtlngplohnknhjaaGreatDoor.Fmi

/- Plain facts on words of a floating point format: their order is that of whole numbers. No program stands here. -/
namespace Go.Proofs.YtlngplohnknhjaaGreatDoor.Flt
open Ieee

def rung (f : Format) (w : Nat) : Nat := w % f.signWeight
def sgn (f : Format) (w : Nat) : Bool := w / f.signWeight % 2 == 1
/-- the amount of a rung, in units of the least place; that of infinity goes on where the finite ones end -/
def mg (f : Format) (r : Nat) : Nat := if r < f.binade then r else (f.binade + r % f.binade) * 2 ^ (r / f.binade - 1)
def sv (f : Format) (w : Nat) : Int := if sgn f w then -(mg f (rung f w) : Int) else mg f (rung f w)
def isNaN (f : Format) (w : Nat) : Bool := decide (f.infRung < rung f w)
def isInf (f : Format) (w : Nat) : Bool := decide (rung f w = f.infRung)
def isFin (f : Format) (w : Nat) : Bool := decide (rung f w < f.infRung)

theorem binade_pos (f : Format) : 0 < f.binade := Nat.two_pow_pos _

theorem mg_succ (f : Format) (r : Nat) : mg f r < mg f (r + 1) := by
  have hB := binade_pos f
  unfold mg
  generalize f.binade = B at *
  by_cases h1 : r + 1 < B
  · rw [if_pos (by omega), if_pos h1]; omega
  · rw [if_neg h1]
    have hd := Nat.div_add_mod (r + 1) B
    have hd' := Nat.div_add_mod r B
    have hm := Nat.mod_lt r hB
    have hm' := Nat.mod_lt (r + 1) hB
    by_cases h2 : r < B
    · rw [if_pos h2]
      have : r + 1 = B := by omega
      subst this
      simp
    · rw [if_neg h2]
      have q1 : 1 ≤ r / B := (Nat.le_div_iff_mul_le hB).2 (by omega)
      by_cases h3 : r % B + 1 < B
      · have e1 : (r + 1) / B = r / B := by
          rw [Nat.div_eq_iff hB]
          constructor
          · rw [Nat.mul_comm]; omega
          · rw [Nat.mul_comm]; omega
        have e2 : (r + 1) % B = r % B + 1 := by rw [e1] at hd; omega
        rw [e1, e2]
        exact Nat.mul_lt_mul_of_pos_right (by omega) (Nat.two_pow_pos _)
      · have e1 : (r + 1) / B = r / B + 1 := by
          rw [Nat.div_eq_iff hB, Nat.add_mul]
          rw [Nat.mul_comm] at hd'
          constructor <;> omega
        have e2 : (r + 1) % B = 0 := by
          rw [e1, Nat.mul_add] at hd; omega
        rw [e1, e2]
        have e3 : 2 ^ (r / B + 1 - 1) = 2 * 2 ^ (r / B - 1) := by
          rw [← Nat.pow_succ']; congr 1; omega
        rw [e3, Nat.add_zero, ← Nat.mul_assoc]
        exact Nat.mul_lt_mul_of_pos_right (by omega) (Nat.two_pow_pos _)

theorem mg_lt (f : Format) {r s : Nat} (h : r < s) : mg f r < mg f s := by
  induction s with
  | zero => omega
  | succ s ih =>
    by_cases e : r = s
    · subst e; exact mg_succ f r
    · exact Nat.lt_trans (ih (by omega)) (mg_succ f s)
theorem mg_le (f : Format) {r s : Nat} (h : r ≤ s) : mg f r ≤ mg f s := by
  by_cases e : r = s
  · subst e; exact Nat.le_refl _
  · exact Nat.le_of_lt (mg_lt f (by omega))
theorem mg_lt_iff (f : Format) {r s : Nat} : mg f r < mg f s ↔ r < s :=
  ⟨fun h => by by_cases e : r < s; exact e; exact absurd (mg_le f (Nat.le_of_not_lt e)) (by omega), mg_lt f⟩
theorem mg_le_iff (f : Format) {r s : Nat} : mg f r ≤ mg f s ↔ r ≤ s :=
  ⟨fun h => by by_cases e : r ≤ s; exact e; exact absurd (mg_lt f (Nat.lt_of_not_le e)) (by omega), mg_le f⟩
theorem mg_inj (f : Format) {r s : Nat} : mg f r = mg f s ↔ r = s :=
  ⟨fun h => Nat.le_antisymm ((mg_le_iff f).1 (by omega)) ((mg_le_iff f).1 (by omega)), fun h => by rw [h]⟩
theorem mg_zero (f : Format) : mg f 0 = 0 := by unfold mg; rw [if_pos (binade_pos f)]
theorem mg_eq_zero (f : Format) {r : Nat} : mg f r = 0 ↔ r = 0 := by
  have := mg_inj f (r := r) (s := 0); rw [mg_zero] at this; exact this

/-- how a word reads -/
inductive Reads (f : Format) (w : Nat) : Prop
  | fin (m e : Nat) (hr : rung f w < f.infRung) (hm : m * 2 ^ e = mg f (rung f w)) (h : f.read w = .number (sgn f w) m (f.leastPlace + (e : Int)))
  | inf (hr : rung f w = f.infRung) (h : f.read w = .infinity (sgn f w))
  | nan (t : Nat) (hr : f.infRung < rung f w) (h : f.read w = .nan (sgn f w) t)

theorem infRung_ge (f : Format) (hf : 1 ≤ f.exponentBits) : f.binade ≤ f.infRung := by
  unfold Format.infRung
  have : 2 ^ 1 ≤ 2 ^ f.exponentBits := Nat.pow_le_pow_right (by omega) hf
  exact Nat.le_mul_of_pos_left _ (by omega)

theorem reads (f : Format) (hf : 1 ≤ f.exponentBits) (w : Nat) : Reads f w := by
  have hB := infRung_ge f hf
  by_cases h1 : rung f w < f.binade
  · refine .fin (rung f w) 0 (by omega) (by unfold mg; rw [if_pos h1]; simp) ?_
    unfold rung at h1
    simp only [Format.read, h1, if_true, sgn, rung]; simp
  · by_cases h2 : rung f w < f.infRung
    · refine .fin (f.binade + rung f w % f.binade) (rung f w / f.binade - 1) h2 (by unfold mg; rw [if_neg h1]) ?_
      unfold rung at h1 h2
      simp only [Format.read, h1, h2, if_true, if_false, sgn, rung]
    · by_cases h3 : rung f w = f.infRung
      · refine .inf h3 ?_
        unfold rung at h1 h2 h3
        unfold Format.read
        simp only
        rw [if_neg h1, if_neg h2, if_pos h3]; rfl
      · refine .nan (rung f w - f.infRung) (by omega) ?_
        unfold rung at h1 h2 h3
        simp only [Format.read, h1, h2, h3, if_false, sgn, rung]

theorem compare_mul (x y : Int) (c : Nat) (hc : 0 < c) : compare (x * (c : Int)) (y * (c : Int)) = compare x y := by
  have hc' : (0 : Int) < c := by omega
  show compareOfLessAndEq _ _ = compareOfLessAndEq _ _
  unfold compareOfLessAndEq
  have h1 : x * (c : Int) < y * (c : Int) ↔ x < y := Int.mul_lt_mul_right hc'
  have h2 : x * (c : Int) = y * (c : Int) ↔ x = y := ⟨fun h => Int.eq_of_mul_eq_mul_right (by omega) h, fun h => by rw [h]⟩
  simp only [h1, h2]

theorem signed_mul (s : Bool) (m e k : Nat) : signed s m (e + k) = signed s m e * (2 ^ k : Nat) := by
  unfold signed
  cases s
  · simp only [Bool.false_eq_true, if_false]; rw [Nat.shiftLeft_eq, Nat.shiftLeft_eq, Nat.pow_add, ← Nat.mul_assoc, Int.natCast_mul]
  · simp only [if_true]; rw [Nat.shiftLeft_eq, Nat.shiftLeft_eq, Nat.pow_add, ← Nat.mul_assoc, Int.natCast_mul, Int.neg_mul]
theorem signed_eq (s : Bool) (m e : Nat) : signed s m e = if s then -((m * 2 ^ e : Nat) : Int) else ((m * 2 ^ e : Nat) : Int) := by
  unfold signed; rw [Nat.shiftLeft_eq]

theorem order_num (s t : Bool) (m n : Nat) (L : Int) (i j : Nat) :
    Datum.order (.number s m (L + (i : Int))) (.number t n (L + (j : Int))) = some (compare (signed s m i) (signed t n j)) := by
  simp only [Datum.order]
  by_cases h : i ≤ j
  · have e : min (L + (i : Int)) (L + (j : Int)) = L + (i : Int) := by omega
    rw [e, show (L + (i : Int) - (L + (i : Int))).toNat = 0 by omega, show (L + (j : Int) - (L + (i : Int))).toNat = j - i by omega]
    have h1 := signed_mul s m 0 i
    have h2 := signed_mul t n (j - i) i
    rw [Nat.zero_add] at h1
    rw [Nat.sub_add_cancel h] at h2
    rw [h1, h2, compare_mul _ _ _ (Nat.two_pow_pos _)]
  · have e : min (L + (i : Int)) (L + (j : Int)) = L + (j : Int) := by omega
    rw [e, show (L + (j : Int) - (L + (j : Int))).toNat = 0 by omega, show (L + (i : Int) - (L + (j : Int))).toNat = i - j by omega]
    have h1 := signed_mul t n 0 j
    have h2 := signed_mul s m (i - j) j
    rw [Nat.zero_add] at h1
    rw [Nat.sub_add_cancel (by omega)] at h2
    rw [h1, h2, compare_mul _ _ _ (Nat.two_pow_pos _)]

theorem sv_num (f : Format) (w m e : Nat) (h : m * 2 ^ e = mg f (rung f w)) : signed (sgn f w) m e = sv f w := by
  rw [signed_eq, h]; rfl

theorem compare_lt {x y : Int} (h : x < y) : compare x y = .lt := by show compareOfLessAndEq _ _ = _; simp [compareOfLessAndEq, h]
theorem compare_gt {x y : Int} (h : y < x) : compare x y = .gt := by
  have h1 : ¬ x < y := by omega
  have h2 : x ≠ y := by omega
  show compareOfLessAndEq _ _ = _; simp [compareOfLessAndEq, h1, h2]
theorem compare_eq {x y : Int} (h : x = y) : compare x y = .eq := by subst h; show compareOfLessAndEq _ _ = _; simp [compareOfLessAndEq]
theorem compare_eq_iff {x y : Int} : compare x y = .eq ↔ x = y := by
  constructor
  · intro h
    rcases Int.lt_trichotomy x y with h1 | h1 | h1
    · rw [compare_lt h1] at h; cases h
    · exact h1
    · rw [compare_gt h1] at h; cases h
  · exact compare_eq
theorem compare_lt_iff {x y : Int} : compare x y = .lt ↔ x < y := by
  constructor
  · intro h
    rcases Int.lt_trichotomy x y with h1 | h1 | h1
    · exact h1
    · rw [compare_eq h1] at h; cases h
    · rw [compare_gt h1] at h; cases h
  · exact compare_lt
theorem compare_gt_iff {x y : Int} : compare x y = .gt ↔ y < x := by
  constructor
  · intro h
    rcases Int.lt_trichotomy x y with h1 | h1 | h1
    · rw [compare_lt h1] at h; cases h
    · rw [compare_eq h1] at h; cases h
    · exact h1
  · exact compare_gt

theorem order_nan_left (f : Format) (hf : 1 ≤ f.exponentBits) {a : Nat} (b : Nat) (ha : isNaN f a = true) : f.order a b = none := by
  unfold isNaN at ha
  have ha := of_decide_eq_true ha
  rcases reads f hf a with ⟨m, e, hr, _, _⟩ | ⟨hr, _⟩ | ⟨t, hr, h⟩
  · omega
  · omega
  · unfold Format.order; rw [h]; rfl
theorem order_nan_right (f : Format) (hf : 1 ≤ f.exponentBits) (a : Nat) {b : Nat} (hb : isNaN f b = true) : f.order a b = none := by
  unfold isNaN at hb
  have hb := of_decide_eq_true hb
  rcases reads f hf b with ⟨m, e, hr, _, _⟩ | ⟨hr, _⟩ | ⟨t, hr, h⟩
  · omega
  · omega
  · unfold Format.order; rw [h]; cases f.read a <;> rfl

/-- The order of two words that are no NaNs is that of their amounts with sign. -/
theorem order_sv (f : Format) (hf : 1 ≤ f.exponentBits) {a b : Nat} (ha : isNaN f a = false) (hb : isNaN f b = false) : f.order a b = some (compare (sv f a) (sv f b)) := by
  unfold isNaN at ha hb
  have ha := of_decide_eq_false ha
  have hb := of_decide_eq_false hb
  have hI : 0 < mg f f.infRung := by have := mg_lt f (r := 0) (s := f.infRung) (by have := infRung_ge f hf; have := binade_pos f; omega); omega
  unfold Format.order
  rcases reads f hf a with ⟨m, e, hr, hm, h⟩ | ⟨hr, h⟩ | ⟨t, hr, h⟩
  · rcases reads f hf b with ⟨n, k, hr', hm', h'⟩ | ⟨hr', h'⟩ | ⟨t, hr', h'⟩
    · rw [h, h', order_num, sv_num f a m e hm, sv_num f b n k hm']
    · rw [h, h']
      have hl := mg_lt f hr
      have : sv f b = if sgn f b then -(mg f f.infRung : Int) else mg f f.infRung := by unfold sv; rw [hr']
      rw [this]
      simp only [Datum.order]
      cases hs : sgn f b <;> simp only [Bool.false_eq_true, if_false, if_true]
      · congr 1; symm; apply compare_lt; unfold sv; split <;> omega
      · congr 1; symm; apply compare_gt; unfold sv; split <;> omega
    · omega
  · have hA : sv f a = if sgn f a then -(mg f f.infRung : Int) else mg f f.infRung := by unfold sv; rw [hr]
    rcases reads f hf b with ⟨n, k, hr', hm', h'⟩ | ⟨hr', h'⟩ | ⟨t, hr', h'⟩
    · rw [h, h', hA]
      have hl := mg_lt f hr'
      simp only [Datum.order]
      cases hs : sgn f a <;> simp only [Bool.false_eq_true, if_false, if_true]
      · congr 1; symm; apply compare_gt; unfold sv; split <;> omega
      · congr 1; symm; apply compare_lt; unfold sv; split <;> omega
    · have hB : sv f b = if sgn f b then -(mg f f.infRung : Int) else mg f f.infRung := by unfold sv; rw [hr']
      rw [h, h', hA, hB]
      simp only [Datum.order]
      cases sgn f a <;> cases sgn f b <;> simp only [Bool.false_eq_true, if_false, if_true]
      · congr 1; symm; exact compare_eq rfl
      · congr 1; symm; apply compare_gt; omega
      · congr 1; symm; apply compare_lt; omega
      · congr 1; symm; exact compare_eq rfl
    · omega
  · omega
end Go.Proofs.YtlngplohnknhjaaGreatDoor.Flt

/- Plain facts on rounding to the nearest, ties to even: over whole numbers and their quotients. No program stands here. -/
namespace Go.Proofs.YtlngplohnknhjaaGreatDoor.Flt
open Ieee

/-- n / d as the nearest whole number, of two the even one -/
def rne (n d : Nat) : Nat := n / d + (decide (d < 2 * (n % d)) || (d == 2 * (n % d) && n / d % 2 == 1)).toNat

theorem rne_mono {n d n' d' : Nat} (hd : 0 < d) (hd' : 0 < d') (h : n * d' ≤ n' * d) : rne n d ≤ rne n' d' := by
  have e := Nat.div_add_mod n d
  have e' := Nat.div_add_mod n' d'
  have l := Nat.mod_lt n hd
  have l' := Nat.mod_lt n' hd'
  unfold rne
  generalize n / d = q at *
  generalize n' / d' = q' at *
  generalize n % d = r at *
  generalize n' % d' = r' at *
  subst e; subst e'
  have hq : q ≤ q' := by
    refine Nat.le_of_not_lt fun hlt => ?_
    have h1 : (q' + 1) * (d * d') ≤ q * (d * d') := Nat.mul_le_mul_right _ hlt
    have h2 : r' * d < d' * d := Nat.mul_lt_mul_of_pos_right l' hd
    have h3 : (d * q + r) * d' = q * (d * d') + r * d' := by grind
    have h4 : (d' * q' + r') * d = q' * (d * d') + r' * d := by grind
    have h5 : (q' + 1) * (d * d') = q' * (d * d') + d' * d := by grind
    omega
  by_cases hlt : q < q'
  · have : (decide (d < 2 * r) || (d == 2 * r && q % 2 == 1)).toNat ≤ 1 := Bool.toNat_le _
    omega
  · obtain rfl : q = q' := by omega
    have h3 : r * d' ≤ r' * d := by
      have h3 : (d * q + r) * d' = q * (d * d') + r * d' := by grind
      have h4 : (d' * q + r') * d = q * (d * d') + r' * d := by grind
      omega
    have hb : (decide (d < 2 * r) || (d == 2 * r && q % 2 == 1)) = true → (decide (d' < 2 * r') || (d' == 2 * r' && q % 2 == 1)) = true := by
      intro hb
      by_cases c : d < 2 * r
      · have h4 : d * d' < 2 * r * d' := Nat.mul_lt_mul_of_pos_right c hd'
        have h5 : d' * d < (2 * r') * d := by grind
        have h6 := Nat.lt_of_mul_lt_mul_right h5
        simp [h6]
      · simp only [decide_eq_true_eq, Bool.or_eq_true, Bool.and_eq_true, beq_iff_eq, c, false_or] at hb ⊢
        obtain ⟨c1, c2⟩ := hb
        have h5 : d' * d ≤ (2 * r') * d := by
          have : d * d' = 2 * r * d' := by rw [← c1]
          grind
        have h6 := Nat.le_of_mul_le_mul_right h5 hd
        omega
    refine Nat.add_le_add_left ?_ q
    cases hx : (decide (d < 2 * r) || (d == 2 * r && q % 2 == 1))
    · simp
    · rw [hb hx]; exact Nat.le_refl _

theorem rne_congr {n d n' d' : Nat} (hd : 0 < d) (hd' : 0 < d') (h : n * d' = n' * d) : rne n d = rne n' d' :=
  Nat.le_antisymm (rne_mono hd hd' (Nat.le_of_eq h)) (rne_mono hd' hd (Nat.le_of_eq h.symm))
theorem rne_one (n : Nat) : rne n 1 = n := by unfold rne; simp [Nat.mod_one]
theorem rne_exact {n d : Nat} (k : Nat) (hd : 0 < d) (h : n = k * d) : rne n d = k := by
  rw [← rne_one k]; exact rne_congr hd (by omega) (by omega)
theorem rne_le {n d : Nat} (k : Nat) (hd : 0 < d) (h : n ≤ k * d) : rne n d ≤ k := by
  rw [← rne_one k]; exact rne_mono hd (by omega) (by omega)
theorem rne_ge {n d : Nat} (k : Nat) (hd : 0 < d) (h : k * d ≤ n) : k ≤ rne n d := by
  rw [← rne_one k]; exact rne_mono (by omega) hd (by omega)

theorem cut_even (neg : Bool) (n drop : Nat) : Toward.even.cut neg n drop = rne n (2 ^ drop) := by
  unfold Toward.cut
  simp only [Nat.shiftLeft_eq, Nat.one_mul]
  have key : ∀ g, Toward.even.cut neg n drop = rne n g → Toward.even.cut neg n drop = rne n g := fun _ h => h
  by_cases h : drop ≤ n.log2 + 2
  · rw [Nat.min_eq_left h]; rfl
  · rw [Nat.min_eq_right (by omega)]
    have hn : n < 2 ^ (n.log2 + 1) := Nat.lt_log2_self
    have h2 : 2 ^ (n.log2 + 2) = 2 * 2 ^ (n.log2 + 1) := by rw [← Nat.pow_succ']
    have h3 : 2 ^ (n.log2 + 2) ≤ 2 ^ drop := Nat.pow_le_pow_right (by omega) (by omega)
    unfold rne
    rw [Nat.div_eq_of_lt (by omega), Nat.mod_eq_of_lt (by omega), Nat.div_eq_of_lt (show n < 2 ^ drop by omega), Nat.mod_eq_of_lt (show n < 2 ^ drop by omega)]
    congr 1
    have a1 : ¬ 2 ^ (n.log2 + 2) < 2 * n := by omega
    have a2 : ¬ 2 ^ drop < 2 * n := by omega
    simp [a1, a2]

/-- how many binades N / D lies above the least one -/
def ex (f : Format) (N D : Nat) : Nat := (N / D).log2 - f.fractionBits
/-- the rung nearest to N / D units of the least place -/
def rr (f : Format) (N D : Nat) : Nat := ex f N D * f.binade + rne N (D * 2 ^ ex f N D)

theorem log2_mono {a b : Nat} (h : a ≤ b) : a.log2 ≤ b.log2 := by
  by_cases ha : a = 0
  · subst ha; simp
  · exact (Nat.le_log2 (by omega)).2 (Nat.le_trans (Nat.log2_self_le ha) h)

theorem div_mono {N D N' D' : Nat} (hD : 0 < D) (hD' : 0 < D') (h : N * D' ≤ N' * D) : N / D ≤ N' / D' := by
  rw [Nat.le_div_iff_mul_le hD']
  have h1 : N / D * D ≤ N := Nat.div_mul_le_self N D
  have h2 : N / D * D' * D ≤ N' * D := by
    calc N / D * D' * D = N / D * D * D' := by grind
      _ ≤ N * D' := Nat.mul_le_mul_right _ h1
      _ ≤ N' * D := h
  exact Nat.le_of_mul_le_mul_right h2 hD

theorem ex_mono (f : Format) {N D N' D' : Nat} (hD : 0 < D) (hD' : 0 < D') (h : N * D' ≤ N' * D) : ex f N D ≤ ex f N' D' := by
  unfold ex; have := log2_mono (div_mono hD hD' h); omega

theorem ex_lt (f : Format) {N D : Nat} (hD : 0 < D) : N < 2 * f.binade * (D * 2 ^ ex f N D) := by
  unfold ex Format.binade
  have h1 : N / D < 2 ^ ((N / D).log2 + 1) := Nat.lt_log2_self
  rw [Nat.div_lt_iff_lt_mul hD] at h1
  refine Nat.lt_of_lt_of_le h1 ?_
  have e : 2 * 2 ^ f.fractionBits * (D * 2 ^ ((N / D).log2 - f.fractionBits)) = 2 ^ (f.fractionBits + 1 + ((N / D).log2 - f.fractionBits)) * D := by
    rw [Nat.pow_add, Nat.pow_add]; grind
  rw [e]
  exact Nat.mul_le_mul_right _ (Nat.pow_le_pow_right (by omega) (by omega))
theorem ex_ge (f : Format) {N D : Nat} (h : 0 < ex f N D) : f.binade * (D * 2 ^ ex f N D) ≤ N := by
  unfold ex Format.binade at *
  have hne : N / D ≠ 0 := by intro e; rw [e] at h; simp at h
  have h1 := Nat.log2_self_le hne
  have h2 : N / D * D ≤ N := Nat.div_mul_le_self N D
  refine Nat.le_trans ?_ h2
  have e : 2 ^ f.fractionBits * (D * 2 ^ ((N / D).log2 - f.fractionBits)) = 2 ^ (f.fractionBits + ((N / D).log2 - f.fractionBits)) * D := by
    rw [Nat.pow_add]; grind
  rw [e]
  exact Nat.mul_le_mul_right _ (Nat.le_trans (Nat.pow_le_pow_right (by omega) (by omega)) h1)

theorem rr_mono (f : Format) {N D N' D' : Nat} (hD : 0 < D) (hD' : 0 < D') (h : N * D' ≤ N' * D) : rr f N D ≤ rr f N' D' := by
  have he := ex_mono f hD hD' h
  have hp : ∀ k : Nat, 0 < 2 ^ k := fun k => Nat.two_pow_pos k
  unfold rr
  by_cases hlt : ex f N D < ex f N' D'
  · have h1 := rne_le (2 * f.binade) (Nat.mul_pos hD (hp (ex f N D))) (Nat.le_of_lt (ex_lt f hD))
    have h2 := rne_ge f.binade (Nat.mul_pos hD' (hp (ex f N' D'))) (ex_ge f (by omega))
    have h3 : (ex f N D + 1) * f.binade ≤ ex f N' D' * f.binade := Nat.mul_le_mul_right _ hlt
    rw [Nat.add_mul] at h3
    omega
  · have e : ex f N D = ex f N' D' := by omega
    rw [← e]
    refine Nat.add_le_add_left (rne_mono (Nat.mul_pos hD (hp _)) (Nat.mul_pos hD' (hp _)) ?_) _
    rw [← Nat.mul_assoc, ← Nat.mul_assoc]
    exact Nat.mul_le_mul_right _ h
theorem rr_congr (f : Format) {N D N' D' : Nat} (hD : 0 < D) (hD' : 0 < D') (h : N * D' = N' * D) : rr f N D = rr f N' D' :=
  Nat.le_antisymm (rr_mono f hD hD' (Nat.le_of_eq h)) (rr_mono f hD' hD (Nat.le_of_eq h.symm))

/-- a rung's binade and significand -/
def qq (f : Format) (r : Nat) : Nat := r / f.binade - 1
def ss (f : Format) (r : Nat) : Nat := if r < f.binade then r else f.binade + r % f.binade
theorem mg_ss (f : Format) (r : Nat) : mg f r = ss f r * 2 ^ qq f r := by
  unfold mg ss qq
  by_cases h : r < f.binade
  · rw [if_pos h, if_pos h, Nat.div_eq_of_lt h]; simp
  · rw [if_neg h, if_neg h]
theorem rung_ss (f : Format) (r : Nat) : r = qq f r * f.binade + ss f r := by
  unfold ss qq
  have hB := binade_pos f
  by_cases h : r < f.binade
  · rw [if_pos h, Nat.div_eq_of_lt h]; simp
  · rw [if_neg h]
    have h1 := Nat.div_add_mod r f.binade
    have h2 : 1 ≤ r / f.binade := (Nat.le_div_iff_mul_le hB).2 (by omega)
    obtain ⟨k, hk⟩ : ∃ k, r / f.binade = k + 1 := ⟨r / f.binade - 1, by omega⟩
    rw [hk] at h1 ⊢
    rw [Nat.mul_add, Nat.mul_comm] at h1
    simp only [Nat.add_sub_cancel]
    omega
theorem ss_lt (f : Format) (r : Nat) : ss f r < 2 * f.binade := by
  unfold ss
  have hB := binade_pos f
  split
  · omega
  · have := Nat.mod_lt r hB; omega
theorem ss_ge (f : Format) (r : Nat) (h : 0 < qq f r) : f.binade ≤ ss f r := by
  unfold ss qq at *
  have hB := binade_pos f
  split
  · rename_i hl; rw [Nat.div_eq_of_lt hl] at h; simp at h
  · omega

theorem ex_mg (f : Format) (r : Nat) : ex f (mg f r) 1 = qq f r := by
  unfold ex
  rw [Nat.div_one, mg_ss]
  have h1 := ss_lt f r
  have h2 := ss_ge f r
  unfold Format.binade at h1 h2
  by_cases h0 : ss f r = 0
  · rw [h0]; simp
    by_cases hq : 0 < qq f r
    · have := h2 hq; have := Nat.two_pow_pos f.fractionBits; omega
    · omega
  · have hne : ss f r * 2 ^ qq f r ≠ 0 := Nat.ne_of_gt (Nat.mul_pos (by omega) (Nat.two_pow_pos _))
    have up : (ss f r * 2 ^ qq f r).log2 < f.fractionBits + 1 + qq f r := by
      rw [Nat.log2_lt hne, Nat.pow_add, Nat.pow_succ]
      exact Nat.mul_lt_mul_of_pos_right (by omega) (Nat.two_pow_pos _)
    by_cases hq : 0 < qq f r
    · have lo : f.fractionBits + qq f r ≤ (ss f r * 2 ^ qq f r).log2 := by
        rw [Nat.le_log2 hne, Nat.pow_add]
        exact Nat.mul_le_mul_right _ (h2 hq)
      omega
    · omega
/-- what a format has is rounded to itself -/
theorem rr_mg (f : Format) (r : Nat) : rr f (mg f r) 1 = r := by
  unfold rr
  rw [ex_mg]
  have h : rne (mg f r) (1 * 2 ^ qq f r) = ss f r := rne_exact _ (by rw [Nat.one_mul]; exact Nat.two_pow_pos _) (by rw [mg_ss, Nat.one_mul])
  rw [h]; exact (rung_ss f r).symm
theorem rr_exact (f : Format) {N D : Nat} (r : Nat) (hD : 0 < D) (h : N = mg f r * D) : rr f N D = r := by
  have h1 := rr_congr f hD (Nat.zero_lt_one) (show N * 1 = mg f r * D by omega)
  rw [rr_mg] at h1; exact h1
theorem rr_le (f : Format) {N D : Nat} (r : Nat) (hD : 0 < D) (h : N ≤ mg f r * D) : rr f N D ≤ r := by
  have h1 := rr_mono f hD (Nat.zero_lt_one) (show N * 1 ≤ mg f r * D by omega)
  rw [rr_mg] at h1; exact h1
theorem rr_ge (f : Format) {N D : Nat} (r : Nat) (hD : 0 < D) (h : mg f r * D ≤ N) : r ≤ rr f N D := by
  have h1 := rr_mono f (Nat.zero_lt_one) hD (show mg f r * D ≤ N * 1 by omega)
  rw [rr_mg] at h1; exact h1

theorem log2_shift {m : Nat} (hm : m ≠ 0) (k : Nat) : (m * 2 ^ k).log2 = m.log2 + k := by
  have hne : m * 2 ^ k ≠ 0 := Nat.ne_of_gt (Nat.mul_pos (by omega) (Nat.two_pow_pos _))
  rw [Nat.log2_eq_iff hne]
  have h1 := Nat.log2_self_le hm
  have h2 : m < 2 ^ (m.log2 + 1) := Nat.lt_log2_self
  constructor
  · rw [Nat.pow_add]; exact Nat.mul_le_mul_right _ h1
  · rw [show m.log2 + k + 1 = m.log2 + 1 + k by omega, Nat.pow_add _ (m.log2 + 1)]; exact Nat.mul_lt_mul_of_pos_right h2 (Nat.two_pow_pos _)
theorem log2_div (m k : Nat) : (m / 2 ^ k).log2 = m.log2 - k := by
  by_cases hm : m = 0
  · subst hm; simp
  have h1 := Nat.log2_self_le hm
  have h2 : m < 2 ^ (m.log2 + 1) := Nat.lt_log2_self
  by_cases h : k ≤ m.log2
  · have hq : m / 2 ^ k ≠ 0 := by
      have : 1 ≤ m / 2 ^ k := (Nat.le_div_iff_mul_le (Nat.two_pow_pos _)).2 (by rw [Nat.one_mul]; exact Nat.le_trans (Nat.pow_le_pow_right (by omega) h) h1)
      omega
    rw [Nat.log2_eq_iff hq]
    constructor
    · rw [Nat.le_div_iff_mul_le (Nat.two_pow_pos _), ← Nat.pow_add, Nat.sub_add_cancel h]; exact h1
    · rw [Nat.div_lt_iff_lt_mul (Nat.two_pow_pos _), ← Nat.pow_add, show m.log2 - k + 1 + k = m.log2 + 1 by omega]; exact h2
  · rw [Nat.div_eq_of_lt (Nat.lt_of_lt_of_le h2 (Nat.pow_le_pow_right (by omega) (by omega)))]
    simp; omega

/-- 'nearest' by rungs -/
theorem nearest_rr (f : Format) (neg : Bool) (m : Nat) (p : Int) :
    f.nearest neg m p = f.word neg (min (rr f (m * 2 ^ (p - f.leastPlace).toNat) (2 ^ (f.leastPlace - p).toNat)) f.infRung) := by
  unfold Format.nearest
  by_cases hm : m = 0
  · subst hm
    rw [if_pos rfl]
    have : rr f (0 * 2 ^ (p - f.leastPlace).toNat) (2 ^ (f.leastPlace - p).toNat) = 0 := rr_exact f 0 (Nat.two_pow_pos _) (by rw [mg_zero]; simp)
    rw [this]; simp
  · rw [if_neg hm]
    simp only [cut_even, Nat.shiftLeft_eq]
    generalize hL : f.leastPlace = L
    have hx : ex f (m * 2 ^ (p - L).toNat) (2 ^ (L - p).toNat) = (max (p + m.log2 - f.fractionBits) L - L).toNat := by
      unfold ex
      rw [log2_div, log2_shift hm]
      omega
    unfold rr
    rw [hx]
    congr 2
    congr 1
    refine rne_congr (Nat.two_pow_pos _) (Nat.mul_pos (Nat.two_pow_pos _) (Nat.two_pow_pos _)) ?_
    rw [← Nat.pow_add, Nat.mul_assoc, Nat.mul_assoc, ← Nat.pow_add, ← Nat.pow_add]
    congr 2
    omega
end Go.Proofs.YtlngplohnknhjaaGreatDoor.Flt

/- Plain facts on words: sign and rung, the sign turned, equal words, widening. No program stands here. -/
namespace Go.Proofs.YtlngplohnknhjaaGreatDoor.Flt
open Ieee

theorem sw_pos (f : Format) : 0 < f.signWeight := Nat.two_pow_pos _
theorem rung_lt (f : Format) (w : Nat) : rung f w < f.signWeight := Nat.mod_lt _ (sw_pos f)
theorem sgn_word (f : Format) (s : Bool) {r : Nat} (h : r < f.signWeight) : sgn f (f.word s r) = s := by
  have hp := sw_pos f
  unfold sgn Format.word
  cases s
  · simp [Nat.div_eq_of_lt h]
  · rw [if_pos rfl, Nat.add_div_left _ hp, Nat.div_eq_of_lt h]; rfl
theorem rung_word (f : Format) (s : Bool) {r : Nat} (h : r < f.signWeight) : rung f (f.word s r) = r := by
  unfold rung Format.word
  cases s
  · simp [Nat.mod_eq_of_lt h]
  · rw [if_pos rfl, Nat.add_mod_left, Nat.mod_eq_of_lt h]
theorem two_sw (f : Format) : 2 ^ f.width = 2 * f.signWeight := by
  unfold Format.width Format.signWeight
  rw [Nat.add_assoc, Nat.add_comm 1, Nat.pow_succ, Nat.mul_comm]
theorem word_eq (f : Format) {w : Nat} (h : w < 2 ^ f.width) : w = f.word (sgn f w) (rung f w) := by
  rw [two_sw] at h
  have hp := sw_pos f
  unfold sgn rung Format.word
  by_cases c : w < f.signWeight
  · simp [Nat.div_eq_of_lt c, Nat.mod_eq_of_lt c]
  · have e1 : w / f.signWeight = 1 := by rw [Nat.div_eq_iff hp]; omega
    have e2 := Nat.div_add_mod w f.signWeight
    rw [e1] at e2 ⊢
    simp; omega
theorem word_inj (f : Format) {a b : Nat} (ha : a < 2 ^ f.width) (hb : b < 2 ^ f.width) (hs : sgn f a = sgn f b) (hr : rung f a = rung f b) : a = b := by
  rw [word_eq f ha, word_eq f hb, hs, hr]

theorem sv_eq_zero (f : Format) {w : Nat} : sv f w = 0 ↔ rung f w = 0 := by
  rw [← mg_eq_zero f]; unfold sv; split <;> omega
theorem sv_inj (f : Format) {a b : Nat} (ha : a < 2 ^ f.width) (hb : b < 2 ^ f.width) (h0 : rung f a ≠ 0) (h : sv f a = sv f b) : a = b := by
  have hz : sv f a ≠ 0 := fun e => h0 ((sv_eq_zero f).1 e)
  have hk : sgn f a = sgn f b ∧ mg f (rung f a) = mg f (rung f b) := by
    unfold sv at h hz
    cases h1 : sgn f a <;> cases h2 : sgn f b <;> simp only [h1, h2, Bool.false_eq_true, if_false, if_true] at h hz <;> first | (refine ⟨rfl, ?_⟩; omega) | omega
  exact word_inj f ha hb hk.1 ((mg_inj f).1 hk.2)

/-- A word that equals itself is no NaN. -/
theorem order_self (f : Format) (hf : 1 ≤ f.exponentBits) (a : Nat) : f.order a a = if isNaN f a then none else some .eq := by
  cases h : isNaN f a
  · rw [order_sv f hf h h, compare_eq rfl]; rfl
  · rw [order_nan_left f hf a h]; rfl

/-- the same: equal with the same sign of 0, or both NaN -/
def sameW (f : Format) (a b : Nat) : Bool := if isNaN f a || isNaN f b then isNaN f a && isNaN f b else a == b
theorem sameW_refl (f : Format) (a : Nat) : sameW f a a = true := by unfold sameW; cases isNaN f a <;> simp
theorem sameW_symm (f : Format) (a b : Nat) : sameW f a b = sameW f b a := by
  unfold sameW; cases isNaN f a <;> cases isNaN f b <;> simp [Bool.beq_comm]

/-! the sign turned -/
theorem xor_top (n w : Nat) (h : w < 2 ^ n) : w ^^^ 2 ^ n = 2 ^ n + w := by
  have h1 := Nat.two_pow_add_eq_or_of_lt h 1
  rw [Nat.mul_one] at h1
  rw [h1]
  apply Nat.eq_of_testBit_eq
  intro i
  rw [Nat.testBit_xor, Nat.testBit_or, Nat.testBit_two_pow]
  by_cases e : n = i
  · subst e; simp [Nat.testBit_lt_two_pow h]
  · simp [e]
theorem xor_top' (n w : Nat) (h : w < 2 ^ n) : (2 ^ n + w) ^^^ 2 ^ n = w := by
  rw [← xor_top n w h, Nat.xor_assoc, Nat.xor_self, Nat.xor_zero]
theorem neg_word (f : Format) (s : Bool) {r : Nat} (h : r < f.signWeight) : f.word s r ^^^ 2 ^ (f.exponentBits + f.fractionBits) = f.word (!s) r := by
  unfold Format.word Format.signWeight at *
  cases s
  · simp [xor_top _ _ h]
  · simp [xor_top' _ _ h]
theorem neg_eq (k : FloatKind) {w : Nat} (h : w < 2 ^ k.format.width) : Op.negFloat k w = k.format.word (!sgn k.format w) (rung k.format w) := by
  unfold Op.negFloat
  rw [word_eq k.format h]
  rw [neg_word _ _ (rung_lt _ _), sgn_word _ _ (rung_lt _ _), rung_word _ _ (rung_lt _ _)]
theorem word_lt' (f : Format) (s : Bool) {r : Nat} (h : r < f.signWeight) : f.word s r < 2 ^ f.width := Format.word_lt f s h
theorem neg_lt (k : FloatKind) {w : Nat} (h : w < 2 ^ k.format.width) : Op.negFloat k w < 2 ^ k.format.width := by
  rw [neg_eq k h]; exact word_lt' _ _ (rung_lt _ _)
theorem sgn_neg (k : FloatKind) {w : Nat} (h : w < 2 ^ k.format.width) : sgn k.format (Op.negFloat k w) = !sgn k.format w := by
  rw [neg_eq k h, sgn_word _ _ (rung_lt _ _)]
theorem rung_neg (k : FloatKind) {w : Nat} (h : w < 2 ^ k.format.width) : rung k.format (Op.negFloat k w) = rung k.format w := by
  rw [neg_eq k h, rung_word _ _ (rung_lt _ _)]
theorem sv_neg (k : FloatKind) {w : Nat} (h : w < 2 ^ k.format.width) : sv k.format (Op.negFloat k w) = - sv k.format w := by
  unfold sv; rw [sgn_neg k h, rung_neg k h]; cases sgn k.format w <;> simp
theorem isNaN_neg (k : FloatKind) {w : Nat} (h : w < 2 ^ k.format.width) : isNaN k.format (Op.negFloat k w) = isNaN k.format w := by
  unfold isNaN; rw [rung_neg k h]
theorem neg_neg (k : FloatKind) {w : Nat} (h : w < 2 ^ k.format.width) : Op.negFloat k (Op.negFloat k w) = w := by
  refine word_inj k.format (neg_lt k (neg_lt k h)) h ?_ ?_
  · rw [sgn_neg k (neg_lt k h), sgn_neg k h, Bool.not_not]
  · rw [rung_neg k (neg_lt k h), rung_neg k h]

/-- every significand at every place above the least is of some rung -/
theorem mg_small (f : Format) {s : Nat} (h : s < 2 * f.binade) : mg f s = s := by
  have hB := binade_pos f
  unfold mg
  by_cases c : s < f.binade
  · rw [if_pos c]
  · have e1 : s / f.binade = 1 := by rw [Nat.div_eq_iff hB]; omega
    have e2 := Nat.div_add_mod s f.binade
    rw [e1] at e2
    rw [if_neg c, e1]; simp; omega
theorem mg_surj (f : Format) (q : Nat) : ∀ s, s < 2 * f.binade → ∃ r, mg f r = s * 2 ^ q := by
  have hB := binade_pos f
  induction q with
  | zero => intro s h; exact ⟨s, by rw [mg_small f h]; simp⟩
  | succ q ih =>
    intro s h
    by_cases c : s < f.binade
    · obtain ⟨r, hr⟩ := ih (2 * s) (by omega)
      exact ⟨r, by rw [hr, Nat.pow_succ]; grind⟩
    · refine ⟨(q + 1) * f.binade + s, ?_⟩
      have e1 : ((q + 1) * f.binade + s) / f.binade = q + 2 := by
        rw [Nat.div_eq_iff hB]
        have : (q + 2) * f.binade = (q + 1) * f.binade + f.binade := by grind
        omega
      have e2 := Nat.div_add_mod ((q + 1) * f.binade + s) f.binade
      rw [e1] at e2
      unfold mg
      have : f.binade ≤ (q + 1) * f.binade := Nat.le_mul_of_pos_left _ (by omega)
      rw [if_neg (by omega), e1]
      have e3 : f.binade * (q + 2) = (q + 1) * f.binade + f.binade := by grind
      have e4 : f.binade + ((q + 1) * f.binade + s) % f.binade = s := by omega
      rw [e4]; rfl

/-! the two formats -/
theorem hs : 1 ≤ single.exponentBits := by decide
theorem hd : 1 ≤ double.exponentBits := by decide
theorem least_single : single.leastPlace = -149 := by decide
theorem least_double : double.leastPlace = -1074 := by decide
theorem inf_lt (f : Format) : f.infRung < f.signWeight := f.infRung_lt
theorem inf_single : single.infRung = 2139095040 := by decide
theorem sw_single : single.signWeight = 2147483648 := by decide
theorem inf_double : double.infRung = 9218868437227405312 := by decide
theorem sw_double : double.signWeight = 9223372036854775808 := by decide
theorem width_single : 2 ^ single.width = 4294967296 := by decide
theorem width_double : 2 ^ double.width = 18446744073709551616 := by decide
theorem binade_single : single.binade = 8388608 := by decide
theorem binade_double : double.binade = 4503599627370496 := by decide

theorem nearest_exact (f : Format) (s : Bool) (m : Nat) (p : Int) (r : Nat) (hr : r ≤ f.infRung) (h : m * 2 ^ (p - f.leastPlace).toNat = mg f r * 2 ^ (f.leastPlace - p).toNat) : f.nearest s m p = f.word s r := by
  rw [nearest_rr, rr_exact f r (Nat.two_pow_pos _) h, Nat.min_eq_left hr]

/-- the places between the two formats' least; and the binades of the doubles: kept behind names, so that no power is reckoned out -/
def W : Nat := 925
def Z : Nat := 2046
theorem W_eq : W = 925 := rfl
theorem Z_eq : Z = 2046 := rfl

/-- widening keeps sign and amount -/
theorem qq_lt_single {r : Nat} (h : r < single.infRung) : qq single r ≤ 253 := by
  unfold qq
  rw [inf_single] at h
  have : r / single.binade < 255 := by rw [Nat.div_lt_iff_lt_mul (binade_pos _), binade_single]; omega
  omega
theorem mg_inf_double : mg double double.infRung = 4503599627370496 * 2 ^ Z := by
  unfold mg
  rw [if_neg (by decide), show double.infRung % double.binade = 0 by decide, show double.infRung / double.binade - 1 = Z by decide, binade_double, Nat.add_zero]
theorem widen_rung {r : Nat} (h : r < single.infRung) : ∃ d, d < double.infRung ∧ mg double d = mg single r * 2 ^ W := by
  have h1 := ss_lt single r
  have h2 := qq_lt_single h
  obtain ⟨d, hdd⟩ := mg_surj double (qq single r + W) (ss single r) (by rw [binade_single] at h1; rw [binade_double]; omega)
  have e : mg double d = mg single r * 2 ^ W := by rw [hdd, mg_ss single, Nat.pow_add, Nat.mul_assoc]
  refine ⟨d, ?_, e⟩
  rw [← mg_lt_iff double, hdd, mg_inf_double]
  calc ss single r * 2 ^ (qq single r + W) ≤ ss single r * 2 ^ (253 + W) := Nat.mul_le_mul_left _ (Nat.pow_le_pow_right (by omega) (by omega))
    _ < 4503599627370496 * 2 ^ (253 + W) := Nat.mul_lt_mul_of_pos_right (by rw [binade_single] at h1; omega) (Nat.two_pow_pos _)
    _ ≤ 4503599627370496 * 2 ^ Z := Nat.mul_le_mul_left _ (Nat.pow_le_pow_right (by omega) (by rw [W_eq, Z_eq]; omega))
/-- the rung of the widened number -/
def wr (r : Nat) : Nat := rr double (mg single r * 2 ^ W) 1
theorem wr_spec {r : Nat} (h : r < single.infRung) : wr r < double.infRung ∧ mg double (wr r) = mg single r * 2 ^ W := by
  obtain ⟨d, h1, h2⟩ := widen_rung h
  have : wr r = d := by unfold wr; exact rr_exact double d (by omega) (by omega)
  rw [this]; exact ⟨h1, h2⟩
/-- the word of the widened number: of a single that is no NaN -/
def widen (b : Nat) : Nat := double.word (sgn single b) (if rung single b < single.infRung then wr (rung single b) else double.infRung)

theorem isInf_read (f : Format) (hf : 1 ≤ f.exponentBits) (s : Bool) {r : Nat} (h : r < f.infRung) : (f.read (f.word s r)).isInfinity = false := by
  have hl := inf_lt f
  rcases reads f hf (f.word s r) with ⟨m, e, hr, _, h'⟩ | ⟨hr, _⟩ | ⟨t, hr, _⟩
  · rw [h']; rfl
  · rw [rung_word f s (by omega)] at hr; omega
  · rw [rung_word f s (by omega)] at hr; omega

theorem widen_bits {b : Nat} (h : isNaN single b = false) : floatToFloatBits .f32 b .f64 = some (widen b) := by
  unfold isNaN at h
  have h := of_decide_eq_false h
  unfold floatToFloatBits widen
  rw [if_neg (by decide)]
  have hdec : FloatKind.f32.decode b = single.read b := rfl
  rw [hdec]
  rcases reads single hs b with ⟨m, e, hr, hm, h'⟩ | ⟨hr, h'⟩ | ⟨t, hr, _⟩
  · rw [h', if_pos hr]
    obtain ⟨w1, w2⟩ := wr_spec hr
    have hn : FloatKind.f64.encode (.number (sgn single b) m (single.leastPlace + (e : Int))) = double.word (sgn single b) (wr (rung single b)) := by
      show double.nearest _ _ _ = _
      refine nearest_exact double _ _ _ _ (Nat.le_of_lt w1) ?_
      rw [w2, ← hm, least_single, least_double, show (-149 + (e : Int) - -1074).toNat = e + W by rw [W_eq]; omega, show (-1074 - (-149 + (e : Int))).toNat = 0 by omega, Nat.pow_add]
      grind
    simp only [hn]
    have hi : (FloatKind.f64.decode (double.word (sgn single b) (wr (rung single b)))).isInfinity = false := isInf_read double hd _ w1
    rw [hi]; rfl
  · rw [h', if_neg (by omega)]; rfl
  · omega
theorem widen_lt (b : Nat) : widen b < 2 ^ double.width := by
  unfold widen
  have := inf_lt double
  refine word_lt' _ _ ?_
  split
  · rename_i hr; have := (wr_spec hr).1; omega
  · exact inf_lt double
theorem sgn_widen (b : Nat) : sgn double (widen b) = sgn single b := by
  unfold widen
  have := inf_lt double
  refine sgn_word _ _ ?_
  split
  · rename_i hr; have := (wr_spec hr).1; omega
  · exact inf_lt double
theorem rung_widen (b : Nat) : rung double (widen b) = if rung single b < single.infRung then wr (rung single b) else double.infRung := by
  unfold widen
  have := inf_lt double
  refine rung_word _ _ ?_
  split
  · rename_i hr; have := (wr_spec hr).1; omega
  · exact inf_lt double
theorem isNaN_widen (b : Nat) : isNaN double (widen b) = false := by
  unfold isNaN
  rw [rung_widen]
  refine decide_eq_false ?_
  split
  · rename_i hr; have := (wr_spec hr).1; omega
  · omega
/-- the amount of a widened finite number -/
theorem sv_widen {b : Nat} (h : rung single b < single.infRung) : sv double (widen b) = sv single b * 2 ^ W := by
  unfold sv
  rw [sgn_widen, rung_widen, if_pos h, (wr_spec h).2]
  cases sgn single b <;> simp [Int.neg_mul]
theorem wr_inj {r s : Nat} (hr : r < single.infRung) (hs' : s < single.infRung) (h : wr r = wr s) : r = s := by
  have h1 := (wr_spec hr).2
  have h2 := (wr_spec hs').2
  rw [h, h2] at h1
  exact ((mg_inj single).1 (Nat.eq_of_mul_eq_mul_right (Nat.two_pow_pos _) h1)).symm
theorem widen_inj {a b : Nat} (ha : a < 2 ^ single.width) (hb : b < 2 ^ single.width) (na : isNaN single a = false) (nb : isNaN single b = false) : widen a = widen b ↔ a = b := by
  constructor
  · intro h
    unfold isNaN at na nb
    have na := of_decide_eq_false na
    have nb := of_decide_eq_false nb
    have h1 : sgn single a = sgn single b := by rw [← sgn_widen a, ← sgn_widen b, h]
    have h2 := rung_widen a
    rw [h, rung_widen b] at h2
    refine word_inj single ha hb h1 ?_
    by_cases ca : rung single a < single.infRung <;> by_cases cb : rung single b < single.infRung
    · rw [if_pos ca, if_pos cb] at h2; exact (wr_inj cb ca h2).symm
    · rw [if_pos ca, if_neg cb] at h2; have := (wr_spec ca).1; omega
    · rw [if_neg ca, if_pos cb] at h2; have := (wr_spec cb).1; omega
    · omega
  · intro h; rw [h]
end Go.Proofs.YtlngplohnknhjaaGreatDoor.Flt

/- Plain facts on words of the two formats: equality, zeros, the same. No program stands here. -/
namespace Go.Proofs.YtlngplohnknhjaaGreatDoor.Flt
open Ieee

/-- equal, by the order of words (two zeros are equal; a NaN equals nothing) -/
def eqW (f : Format) (a b : Nat) : Bool := !isNaN f a && !isNaN f b && decide (sv f a = sv f b)
def ltW (f : Format) (a b : Nat) : Bool := !isNaN f a && !isNaN f b && decide (sv f a < sv f b)
theorem order_eqW (f : Format) (hf : 1 ≤ f.exponentBits) (a b : Nat) : (f.order a b == some .eq) = eqW f a b := by
  unfold eqW
  cases na : isNaN f a
  · cases nb : isNaN f b
    · rw [order_sv f hf na nb]
      by_cases h : sv f a = sv f b
      · rw [compare_eq h, decide_eq_true h]; rfl
      · rw [decide_eq_false h]
        simp only [Option.some_beq_some, Bool.not_false, Bool.and_self, Bool.and_false, beq_eq_false_iff_ne]
        exact fun e => h (compare_eq_iff.1 e)
    · rw [order_nan_right f hf a nb]; rfl
  · rw [order_nan_left f hf b na]; rfl
theorem order_ltW (f : Format) (hf : 1 ≤ f.exponentBits) (a b : Nat) : (f.order a b == some .lt) = ltW f a b := by
  unfold ltW
  cases na : isNaN f a
  · cases nb : isNaN f b
    · rw [order_sv f hf na nb]
      by_cases h : sv f a < sv f b
      · rw [compare_lt h, decide_eq_true h]; rfl
      · rw [decide_eq_false h]
        simp only [Option.some_beq_some, Bool.not_false, Bool.and_self, Bool.and_false, beq_eq_false_iff_ne]
        exact fun e => h (compare_lt_iff.1 e)
    · rw [order_nan_right f hf a nb]; rfl
  · rw [order_nan_left f hf b na]; rfl
theorem order_gtW (f : Format) (hf : 1 ≤ f.exponentBits) (a b : Nat) : (f.order a b == some .gt) = ltW f b a := by
  unfold ltW
  cases na : isNaN f a
  · cases nb : isNaN f b
    · rw [order_sv f hf na nb]
      by_cases h : sv f b < sv f a
      · rw [compare_gt h, decide_eq_true h]; rfl
      · rw [decide_eq_false h]
        simp only [Option.some_beq_some, Bool.not_false, Bool.and_self, Bool.and_false, beq_eq_false_iff_ne]
        exact fun e => h (compare_gt_iff.1 e)
    · rw [order_nan_right f hf a nb]; rfl
  · rw [order_nan_left f hf b na]; simp

theorem eq64 (a b : Nat) : (FloatKind.f64.format.order a b == some .eq) = eqW double a b := order_eqW double hd a b
theorem ne64 (a b : Nat) : (FloatKind.f64.format.order a b != some .eq) = !eqW double a b := by rw [← eq64]; rfl
theorem lt64 (a b : Nat) : (FloatKind.f64.format.order a b == some .lt) = ltW double a b := order_ltW double hd a b
theorem gt64 (a b : Nat) : (FloatKind.f64.format.order a b == some .gt) = ltW double b a := order_gtW double hd a b
theorem eq32 (a b : Nat) : (FloatKind.f32.format.order a b == some .eq) = eqW single a b := order_eqW single hs a b
theorem ne32 (a b : Nat) : (FloatKind.f32.format.order a b != some .eq) = !eqW single a b := by rw [← eq32]; rfl
theorem lt32 (a b : Nat) : (FloatKind.f32.format.order a b == some .lt) = ltW single a b := order_ltW single hs a b
theorem gt32 (a b : Nat) : (FloatKind.f32.format.order a b == some .gt) = ltW single b a := order_gtW single hs a b

theorem eqW_self (f : Format) (a : Nat) : eqW f a a = !isNaN f a := by unfold eqW; cases isNaN f a <;> simp
theorem eqW_nan (f : Format) {a b : Nat} (h : (isNaN f a || isNaN f b) = true) : eqW f a b = false := by
  unfold eqW; cases ha : isNaN f a <;> cases hb : isNaN f b <;> simp_all
theorem rung_zero (f : Format) : rung f 0 = 0 := Nat.zero_mod _
theorem sv_zero (f : Format) : sv f 0 = 0 := (sv_eq_zero f).2 (rung_zero f)
theorem nan_zero (f : Format) : isNaN f 0 = false := by
  unfold isNaN; rw [rung_zero]
  exact decide_eq_false (by omega)
theorem eqW_zero (f : Format) {a : Nat} (na : isNaN f a = false) : eqW f a 0 = decide (rung f a = 0) := by
  unfold eqW; rw [na, nan_zero f, sv_zero]
  by_cases h : rung f a = 0
  · rw [decide_eq_true h, decide_eq_true ((sv_eq_zero f).2 h)]; rfl
  · rw [decide_eq_false h, decide_eq_false (fun e => h ((sv_eq_zero f).1 e))]; rfl
theorem isNaN_rung0 (f : Format) {a : Nat} (h : rung f a = 0) : isNaN f a = false := by
  unfold isNaN; rw [h]; exact decide_eq_false (by omega)
theorem zeros64 {a : Nat} (ha : a < 18446744073709551616) (h : rung double a = 0) : a = 0 ∨ a = 9223372036854775808 := by
  unfold rung at h; rw [sw_double] at h; omega
theorem zeros32 {a : Nat} (ha : a < 4294967296) (h : rung single a = 0) : a = 0 ∨ a = 2147483648 := by
  unfold rung at h; rw [sw_single] at h; omega
/-- the same, where equal: the same sign -/
theorem sgn_same (f : Format) {a b : Nat} (ha : a < 2 ^ f.width) (hb : b < 2 ^ f.width) (h : sv f a = sv f b) : (sgn f a == sgn f b) = (a == b) := by
  by_cases h0 : rung f a = 0
  · have h1 : rung f b = 0 := (sv_eq_zero _).1 (by rw [← h]; exact (sv_eq_zero _).2 h0)
    rw [Bool.eq_iff_iff, beq_iff_eq, beq_iff_eq]
    exact ⟨fun hs => word_inj _ ha hb hs (by rw [h0, h1]), fun e => by rw [e]⟩
  · have := sv_inj _ ha hb h0 h
    subst this; simp
theorem sgn_neg_sv (f : Format) {a : Nat} (h0 : rung f a ≠ 0) : sgn f a = decide (sv f a < 0) := by
  have := (mg_eq_zero f (r := rung f a))
  unfold sv
  cases h : sgn f a
  · simp only [Bool.false_eq_true, if_false]; symm; exact decide_eq_false (by omega)
  · simp only [if_true]; symm; exact decide_eq_true (by omega)
theorem lt_single {a : Nat} (w : (Lit.float .f32 a).wf = true) : a < 4294967296 := by simpa [Lit.wf] using w
theorem lt_single' {a : Nat} (w : (Lit.float .f32 a).wf = true) : a < 2 ^ single.width := by rw [width_single]; exact lt_single w
theorem wf_single {a : Nat} (h : a < 4294967296) : (Lit.float .f32 a).wf = true := by simpa [Lit.wf] using h
theorem widen_wl (a : Nat) : widen a < 18446744073709551616 := by have := widen_lt a; rw [width_double] at this; exact this
theorem sameW_widen {a b : Nat} (wa : (Lit.float .f32 a).wf = true) (wb : (Lit.float .f32 b).wf = true) (na : isNaN single a = false) (nb : isNaN single b = false) : sameW double (widen a) (widen b) = sameW single a b := by
  unfold sameW
  rw [isNaN_widen, isNaN_widen, na, nb]
  simp only [Bool.or_self, Bool.false_eq_true, if_false]
  rw [Bool.eq_iff_iff, beq_iff_eq, beq_iff_eq]
  exact widen_inj (lt_single' wa) (lt_single' wb) na nb
theorem sameW_of_nan (f : Format) {a b : Nat} (h : (isNaN f a || isNaN f b) = true) : sameW f a b = (isNaN f a && isNaN f b) := by unfold sameW; rw [h]; rfl
theorem sameW_of_ne (f : Format) {a b : Nat} (na : isNaN f a = false) (nb : isNaN f b = false) (h : sv f a ≠ sv f b) : sameW f a b = false := by
  unfold sameW; rw [na, nb]
  exact beq_eq_false_iff_ne.2 (fun e => h (by rw [e]))
theorem sameW_of_eq (f : Format) {a b : Nat} (na : isNaN f a = false) (nb : isNaN f b = false) : sameW f a b = (a == b) := by
  unfold sameW; rw [na, nb]; rfl
theorem sameW_iff (f : Format) {a b : Nat} : sameW f a b = true ↔ (isNaN f a = true ∧ isNaN f b = true) ∨ (isNaN f a = false ∧ isNaN f b = false ∧ a = b) := by
  unfold sameW; cases isNaN f a <;> cases isNaN f b <;> simp
end Go.Proofs.YtlngplohnknhjaaGreatDoor.Flt

/- What the operations on floats give at any program: widening, also of a NaN. -/
namespace Go.Proofs.YtlngplohnknhjaaGreatDoor.Flt
open Ieee Go.RowKit

def nan64 (t : Nat) : Nat := (t % 2) * 2 ^ 63 + 0x7ff0000000000000 + 1 + (t / 2) % (2 ^ 52 - 1)
theorem nan64_isNaN (t : Nat) : isNaN double (nan64 t) = true ∧ nan64 t < 2 ^ double.width := by
  have h1 : t % 2 < 2 := Nat.mod_lt _ (by omega)
  have h2 : (t / 2) % (2 ^ 52 - 1) < 2 ^ 52 - 1 := Nat.mod_lt _ (by omega)
  unfold nan64 isNaN rung
  rw [inf_double, sw_double, width_double]
  generalize t % 2 = x at *
  generalize (t / 2) % _ = y at *
  obtain rfl | rfl : x = 0 ∨ x = 1 := by omega
  · refine ⟨decide_eq_true ?_, ?_⟩ <;> omega
  · refine ⟨decide_eq_true ?_, ?_⟩ <;> omega
def nan32 (t : Nat) : Nat := (t % 2) * 2 ^ 31 + 0x7f800000 + 1 + (t / 2) % (2 ^ 23 - 1)
theorem nan32_isNaN (t : Nat) : isNaN single (nan32 t) = true ∧ nan32 t < 2 ^ single.width := by
  have h1 : t % 2 < 2 := Nat.mod_lt _ (by omega)
  have h2 : (t / 2) % (2 ^ 23 - 1) < 2 ^ 23 - 1 := Nat.mod_lt _ (by omega)
  unfold nan32 isNaN rung
  rw [inf_single, sw_single, width_single]
  generalize t % 2 = x at *
  generalize (t / 2) % _ = y at *
  obtain rfl | rfl : x = 0 ∨ x = 1 := by omega
  · refine ⟨decide_eq_true ?_, ?_⟩ <;> omega
  · refine ⟨decide_eq_true ?_, ?_⟩ <;> omega

section
variable {P : Program}
theorem run_widen (src dst : TypeId) (b : Nat) (hs' : (P.underlying src).isSome = true) (hd' : P.underlying dst = some (.float .f64)) (h : isNaN single b = false) (w : World) :
    (convert src dst (.float .f32 b)).run P w = .ok (.float .f64 (widen b)) w :=
  run_convert_float_float w src dst .f32 .f64 b (widen b) hs' hd' (widen_bits h)
theorem run_widen_nan (src dst : TypeId) (b : Nat) (hs' : (P.underlying src).isSome = true) (hd' : P.underlying dst = some (.float .f64)) (h : isNaN single b = true) (w : World) :
    (convert src dst (.float .f32 b)).run P w = .ok (.float .f64 (nan64 (w.tape w.drawn (.nanConv .f64 b)))) w.drew := by
  obtain ⟨u, hs''⟩ := Option.isSome_iff_exists.1 hs'
  unfold isNaN at h
  have h := of_decide_eq_true h
  have hdec : ∃ s t, FloatKind.f32.decode b = .nan s t := by
    rcases reads single hs b with ⟨m, e, hr, _, _⟩ | ⟨hr, _⟩ | ⟨t, hr, h'⟩
    · omega
    · omega
    · exact ⟨_, _, h'⟩
  obtain ⟨s, t, he⟩ := hdec
  cases u <;> simp [convert, run_underlying hs'', run_underlying hd', Conv.floatToFloat, he, Question.forced, Question.cut, nan64]
theorem run_widen_nan' (src dst : TypeId) (b : Nat) (hs' : (P.underlying src).isSome = true) (hd' : P.underlying dst = some (.float .f64)) (h : isNaN single b = true) (w : World) :
    ∃ r, isNaN double r = true ∧ r < 18446744073709551616 ∧ (convert src dst (.float .f32 b)).run P w = .ok (.float .f64 r) w.drew :=
  ⟨_, (nan64_isNaN _).1, by have := (nan64_isNaN (w.tape w.drawn (.nanConv .f64 b))).2; rw [width_double] at this; exact this, run_widen_nan src dst b hs' hd' h w⟩
/-- 'r' is what widening 'b' may give -/
def Wid (b r : Nat) : Prop := r < 18446744073709551616 ∧ isNaN double r = isNaN single b ∧ (isNaN single b = false → r = widen b)
theorem run_widen_any (src dst : TypeId) (b : Nat) (hs' : (P.underlying src).isSome = true) (hd' : P.underlying dst = some (.float .f64)) (w : World) :
    ∃ r n, Wid b r ∧ (convert src dst (.float .f32 b)).run P w = .ok (.float .f64 r) (w.drewN n) := by
  cases h : isNaN single b
  · refine ⟨widen b, 0, ⟨widen_wl b, ?_, fun _ => rfl⟩, run_widen src dst b hs' hd' h w⟩
    rw [isNaN_widen, h]
  · obtain ⟨r, h1, h2, h3⟩ := run_widen_nan' src dst b hs' hd' h w
    exact ⟨r, 1, ⟨h2, by rw [h1, h], fun e => by rw [h] at e; cases e⟩, h3⟩
end
theorem sameW_wid {a b r s : Nat} (wa : (Lit.float .f32 a).wf = true) (wb : (Lit.float .f32 b).wf = true) (hr : Wid a r) (hs' : Wid b s) : sameW double r s = sameW single a b := by
  obtain ⟨_, r1, r2⟩ := hr
  obtain ⟨_, s1, s2⟩ := hs'
  cases na : isNaN single a <;> cases nb : isNaN single b
  · rw [r2 na, s2 nb]; exact sameW_widen wa wb na nb
  all_goals (unfold sameW; rw [r1, s1, na, nb]; rfl)
theorem sgn_wid {a r : Nat} (na : isNaN single a = false) (hr : Wid a r) : sgn double r = sgn single a := by
  rw [hr.2.2 na, sgn_widen]
@[go_sem] theorem run_store_float (P : Program) (w : World) (a : Addr) (m : Mode) (k : FloatKind) (b : Nat) : (store a (.float k b) m).run P w = stored P w a (.float k b) m := run_store P w a _ m rfl
@[go_sem] theorem run_store_complex (P : Program) (w : World) (a : Addr) (m : Mode) (k : FloatKind) (x y : Nat) : (store a (.complex k x y) m).run P w = stored P w a (.complex k x y) m := run_store P w a _ m rfl
@[go_sem] theorem run_neg_float (P : Program) (w : World) (k : FloatKind) (x : Nat) : (Op.unary .neg (.float k x)).run P w = .ok (.float k (Op.negFloat k x)) w := rfl
theorem drew_eq (w : World) : w.drew = w.drewN 1 := rfl
end Go.Proofs.YtlngplohnknhjaaGreatDoor.Flt

/- Plain facts on doubles: twice and half of a number, scaling, narrowing to a single. No program stands here. -/
namespace Go.Proofs.YtlngplohnknhjaaGreatDoor.Flt
open Ieee

/-- what is written of a number or of an infinity is no NaN -/
theorem nearest_rung (f : Format) (s : Bool) (m : Nat) (p : Int) : rung f (f.nearest s m p) = min (rr f (m * 2 ^ (p - f.leastPlace).toNat) (2 ^ (f.leastPlace - p).toNat)) f.infRung ∧ sgn f (f.nearest s m p) = s := by
  have hl := inf_lt f
  rw [nearest_rr]
  exact ⟨rung_word f s (by omega), sgn_word f s (by omega)⟩
theorem nearest_nan (f : Format) (s : Bool) (m : Nat) (p : Int) : isNaN f (f.nearest s m p) = false := by
  unfold isNaN; rw [(nearest_rung f s m p).1]; exact decide_eq_false (by omega)
theorem write_nan (f : Format) (d : Datum) (h : d.isNaN = false) : isNaN f (f.write d) = false := by
  cases d with
  | number s m p => exact nearest_nan f s m p
  | infinity s => 
    show isNaN f (f.word s f.infRung) = false
    unfold isNaN; rw [rung_word f s (inf_lt f)]; exact decide_eq_false (by omega)
  | nan s t => cases h

theorem read_two : double.read 4611686018427387904 = .number false 4503599627370496 (-51) := by decide
/-- twice, half -/
def mul2 (a : Nat) : Nat := (double.mul a 4611686018427387904).getD 0
def div2 (a : Nat) : Nat := (double.div a 4611686018427387904).getD 0
theorem product_two {a : Nat} (na : isNaN double a = false) : ∃ d : Datum, (double.read a).product (.number false 4503599627370496 (-51)) = some d ∧ d.isNaN = false := by
  unfold isNaN at na
  have na := of_decide_eq_false na
  rcases reads double hd a with ⟨m, e, hr, _, h⟩ | ⟨hr, h⟩ | ⟨t, hr, h⟩
  · rw [h]; exact ⟨_, rfl, rfl⟩
  · rw [h]; exact ⟨_, rfl, rfl⟩
  · omega
theorem quotient_two {a : Nat} (na : isNaN double a = false) : ∃ d : Datum, (double.read a).quotient 54 (.number false 4503599627370496 (-51)) = some d ∧ d.isNaN = false := by
  unfold isNaN at na
  have na := of_decide_eq_false na
  rcases reads double hd a with ⟨m, e, hr, _, h⟩ | ⟨hr, h⟩ | ⟨t, hr, h⟩
  · rw [h]; exact ⟨_, rfl, rfl⟩
  · rw [h]; exact ⟨_, rfl, rfl⟩
  · omega
theorem mul2_bits {a : Nat} (na : isNaN double a = false) : floatBits .mul .f64 a 4611686018427387904 = some (mul2 a) ∧ isNaN double (mul2 a) = false := by
  obtain ⟨d, h1, h2⟩ := product_two na
  have h3 : double.mul a 4611686018427387904 = some (double.write d) := by unfold Format.mul; rw [read_two, h1]; rfl
  have h4 : mul2 a = double.write d := by unfold mul2; rw [h3]; rfl
  rw [h4]
  exact ⟨h3, write_nan double d h2⟩
theorem div2_bits {a : Nat} (na : isNaN double a = false) : floatBits .quo .f64 a 4611686018427387904 = some (div2 a) ∧ isNaN double (div2 a) = false := by
  obtain ⟨d, h1, h2⟩ := quotient_two na
  have h3 : double.div a 4611686018427387904 = some (double.write d) := by
    unfold Format.div; rw [read_two]
    show (((double.read a).quotient 54 (.number false 4503599627370496 (-51))).map double.write) = _
    rw [h1]; rfl
  have h4 : div2 a = double.write d := by unfold div2; rw [h3]; rfl
  rw [h4]
  exact ⟨h3, write_nan double d h2⟩
def muls : Nat → Nat → Nat
  | 0, a => a
  | k + 1, a => mul2 (muls k a)
def divs : Nat → Nat → Nat
  | 0, a => a
  | k + 1, a => div2 (divs k a)
theorem muls_nan {a : Nat} (na : isNaN double a = false) (k : Nat) : isNaN double (muls k a) = false := by
  induction k with
  | zero => exact na
  | succ k ih => exact (mul2_bits ih).2
theorem divs_nan {a : Nat} (na : isNaN double a = false) (k : Nat) : isNaN double (divs k a) = false := by
  induction k with
  | zero => exact na
  | succ k ih => exact (div2_bits ih).2
theorem muls_succ' (k a : Nat) : muls k (mul2 a) = muls (k + 1) a := by
  induction k with
  | zero => rfl
  | succ k ih => show mul2 (muls k (mul2 a)) = _; rw [ih]; rfl
theorem divs_succ' (k a : Nat) : divs k (div2 a) = divs (k + 1) a := by
  induction k with
  | zero => rfl
  | succ k ih => show div2 (divs k (div2 a)) = _; rw [ih]; rfl
/-- times 2 to the power of e -/
def scale (a : Nat) (e : Int) : Nat := divs (-e).toNat (muls e.toNat a)
theorem scale_nan {a : Nat} (na : isNaN double a = false) (e : Int) : isNaN double (scale a e) = false := divs_nan (muls_nan na _) _
theorem ofInt_nan (n : Int) : isNaN double (floatOfInt .f64 n) = false := nearest_nan double _ _ _
theorem mul2_lt (a : Nat) (na : isNaN double a = false) : mul2 a < 18446744073709551616 := by
  have := double.mul_lt (mul2_bits na).1; rw [width_double] at this; exact this
theorem div2_lt (a : Nat) (na : isNaN double a = false) : div2 a < 18446744073709551616 := by
  have := double.div_lt (div2_bits na).1; rw [width_double] at this; exact this
theorem muls_lt {a : Nat} (ha : a < 18446744073709551616) (na : isNaN double a = false) (k : Nat) : muls k a < 18446744073709551616 := by
  cases k with
  | zero => exact ha
  | succ k => exact mul2_lt _ (muls_nan na k)
theorem divs_lt {a : Nat} (ha : a < 18446744073709551616) (na : isNaN double a = false) (k : Nat) : divs k a < 18446744073709551616 := by
  cases k with
  | zero => exact ha
  | succ k => exact div2_lt _ (divs_nan na k)
theorem scale_lt {a : Nat} (ha : a < 18446744073709551616) (na : isNaN double a = false) (e : Int) : scale a e < 18446744073709551616 := divs_lt (muls_lt ha na _) (muls_nan na _) _
theorem ofInt_lt (n : Int) : floatOfInt .f64 n < 18446744073709551616 := by
  have := floatOfInt_wf .f64 n; simpa [Lit.wf] using this

/-! narrowing -/
/-- a double that is some single, widened, is narrowed to it; what is narrowed to no single equals none -/
theorem mg_inf_single : mg single single.infRung = 8388608 * 2 ^ 254 := by
  unfold mg
  rw [if_neg (by decide), show single.infRung % single.binade = 0 by decide, show single.infRung / single.binade - 1 = 254 by decide, binade_single, Nat.add_zero]
theorem narrow_widen {x : Nat} (hx : x < 2 ^ single.width) (nx : isNaN single x = false) : floatToFloatBits .f64 (widen x) .f32 = some x := by
  have hl := inf_lt single
  unfold isNaN at nx
  have nx := of_decide_eq_false nx
  unfold floatToFloatBits
  rw [if_neg (by decide)]
  have hdec : FloatKind.f64.decode (widen x) = double.read (widen x) := rfl
  rw [hdec]
  by_cases hf : rung single x < single.infRung
  · have hrw : rung double (widen x) = wr (rung single x) := by rw [rung_widen, if_pos hf]
    obtain ⟨w1, w2⟩ := wr_spec hf
    rcases reads double hd (widen x) with ⟨m, e, hr, hm, h⟩ | ⟨hr, _⟩ | ⟨t, hr, _⟩
    · rw [h]
      have hn : FloatKind.f32.encode (.number (sgn double (widen x)) m (double.leastPlace + (e : Int))) = x := by
        show single.nearest _ _ _ = _
        rw [nearest_exact single _ _ _ (rung single x) (Nat.le_of_lt hf), sgn_widen, ← word_eq single hx]
        rw [hrw, w2] at hm
        rw [least_single, least_double]
        by_cases he : e ≤ W
        · rw [show (-1074 + (e : Int) - -149).toNat = 0 by rw [W_eq] at he; omega, show (-149 - (-1074 + (e : Int))).toNat = W - e by rw [W_eq] at *; omega]
          have : m * 2 ^ e = (mg single (rung single x) * 2 ^ (W - e)) * 2 ^ e := by rw [hm, Nat.mul_assoc, ← Nat.pow_add, Nat.sub_add_cancel he]
          rw [Nat.eq_of_mul_eq_mul_right (Nat.two_pow_pos _) this]; simp
        · rw [show (-1074 + (e : Int) - -149).toNat = e - W by rw [W_eq] at *; omega, show (-149 - (-1074 + (e : Int))).toNat = 0 by rw [W_eq] at he; omega]
          have : (m * 2 ^ (e - W)) * 2 ^ W = mg single (rung single x) * 2 ^ W := by rw [← hm, Nat.mul_assoc, ← Nat.pow_add, Nat.sub_add_cancel (by omega)]
          rw [Nat.eq_of_mul_eq_mul_right (Nat.two_pow_pos _) this]; simp
      simp only [hn]
      have hi : (FloatKind.f32.decode x).isInfinity = false := by
        show (single.read x).isInfinity = false
        rw [word_eq single hx]; exact isInf_read single hs _ hf
      rw [hi]; rfl
    · omega
    · omega
  · have hx' : rung single x = single.infRung := by omega
    have hrw : rung double (widen x) = double.infRung := by rw [rung_widen, if_neg hf]
    rcases reads double hd (widen x) with ⟨m, e, hr, hm, h⟩ | ⟨hr, h⟩ | ⟨t, hr, _⟩
    · omega
    · rw [h]
      show some (single.word (sgn double (widen x)) single.infRung) = some x
      rw [sgn_widen, ← hx', ← word_eq single hx]
    · omega
/-- where narrowing is told, the widened answer equals the number exactly if the number is a widened one -/
theorem narrow_none {a : Nat} (na : isNaN double a = false) (ha : a < 18446744073709551616) (h : floatToFloatBits .f64 a .f32 = none) {x : Nat} (hx : x < 2 ^ single.width) (nx : isNaN single x = false) : eqW double (widen x) a = false := by
  have ha' : a < 2 ^ double.width := by rw [width_double]; exact ha
  unfold eqW
  rw [isNaN_widen, na]
  simp only [Bool.not_false, Bool.true_and]
  refine decide_eq_false fun e => ?_
  by_cases h0 : rung double (widen x) = 0
  · have h1 : rung double a = 0 := (sv_eq_zero _).1 (by rw [← e]; exact (sv_eq_zero _).2 h0)
    rcases zeros64 ha h1 with rfl | rfl
    · exact absurd h (by decide)
    · exact absurd h (by decide)
  · have := sv_inj double (widen_lt x) ha' h0 e
    rw [← this, narrow_widen hx nx] at h; cases h
theorem floatToFloat_lt {a x : Nat} (h : floatToFloatBits .f64 a .f32 = some x) (ha : (Lit.float .f64 a).wf = true) : x < 4294967296 := by
  have := floatToFloatBits_wf ha h; simpa [Lit.wf] using this
theorem narrow_nan {a x : Nat} (h : floatToFloatBits .f64 a .f32 = some x) : isNaN single x = false := by
  unfold floatToFloatBits at h
  rw [if_neg (by decide)] at h
  split at h
  · cases h
  · cases h; exact write_nan single _ rfl
  · split at h
    · cases h
    · cases h; exact write_nan single _ rfl
theorem wf_double {a : Nat} (h : a < 18446744073709551616) : (Lit.float .f64 a).wf = true := by simpa [Lit.wf] using h
theorem lt_double {a : Nat} (w : (Lit.float .f64 a).wf = true) : a < 18446744073709551616 := by simpa [Lit.wf] using w
end Go.Proofs.YtlngplohnknhjaaGreatDoor.Flt

/- What narrowing and the four operations give at any program, whatever the operands. -/
namespace Go.Proofs.YtlngplohnknhjaaGreatDoor.Flt
open Ieee Go.RowKit
section
variable {P : Program}
theorem run_narrow_any (src dst : TypeId) (a : Nat) (hs' : (P.underlying src).isSome = true) (hd' : P.underlying dst = some (.float .f32)) (na : isNaN double a = false) (ha : a < 18446744073709551616) (w : World) :
    ∃ x n, x < 4294967296 ∧ ((floatToFloatBits .f64 a .f32 = some x ∧ n = 0) ∨ floatToFloatBits .f64 a .f32 = none) ∧ (convert src dst (.float .f64 a)).run P w = .ok (.float .f32 x) (w.drewN n) := by
  cases h : floatToFloatBits .f64 a .f32 with
  | some x => exact ⟨x, 0, floatToFloat_lt h (wf_double ha), .inl ⟨rfl, rfl⟩, run_convert_float_float w src dst .f64 .f32 a x hs' hd' h⟩
  | none =>
    obtain ⟨u, hs''⟩ := Option.isSome_iff_exists.1 hs'
    refine ⟨(w.tape w.drawn (.floatToFloat a)) % 2 ^ 32, 1, Nat.mod_lt _ (by omega), .inr rfl, ?_⟩
    unfold isNaN at na
    have na := of_decide_eq_false na
    unfold floatToFloatBits at h
    rw [if_neg (by decide)] at h
    rcases reads double hd a with ⟨m, e, hr, _, h'⟩ | ⟨hr, h'⟩ | ⟨t, hr, h'⟩
    · have hdec : FloatKind.f64.decode a = .number (sgn double a) m (double.leastPlace + (e : Int)) := h'
      rw [hdec] at h
      simp only at h
      split at h
      · rename_i hi
        cases u <;> simp [convert, run_underlying hs'', run_underlying hd', Conv.floatToFloat, hdec, hi, Question.forced, Question.cut] <;> rfl
      · cases h
    · have hdec : FloatKind.f64.decode a = .infinity (sgn double a) := h'
      rw [hdec] at h; cases h
    · omega
/-- what an operation gives: its bits, or some NaN -/
theorem run_float_any (op : BinOp) (hop : op = .add ∨ op = .sub ∨ op = .mul ∨ op = .quo) (t : TypeId) (k : FloatKind) (x y : Nat) (w : World) :
    ∃ r n, (Lit.float k r).wf = true ∧ (floatBits op k x y = some r ∨ (floatBits op k x y = none ∧ isNaN k.format r = true)) ∧ (binOp op t (.float k x) (.float k y)).run P w = .ok (.float k r) (w.drewN n) := by
  cases h : floatBits op k x y with
  | some r => exact ⟨r, 0, floatBits_wf h, .inl rfl, run_float_arith w op t k x y r h⟩
  | none =>
    refine ⟨(Question.nanBits k x y).cut (w.tape w.drawn (.nanBits k x y)), 1, ?_, .inr ⟨rfl, ?_⟩, ?_⟩
    · cases k
      · have := (nan32_isNaN (w.tape w.drawn (.nanBits .f32 x y))).2
        rw [width_single] at this
        exact wf_single this
      · have := (nan64_isNaN (w.tape w.drawn (.nanBits .f64 x y))).2
        rw [width_double] at this
        exact wf_double this
    · cases k
      · exact (nan32_isNaN (w.tape w.drawn (.nanBits .f32 x y))).1
      · exact (nan64_isNaN (w.tape w.drawn (.nanBits .f64 x y))).1
    · have hf : (Question.nanBits k x y).forced = false := rfl
      unfold floatBits at h
      rcases hop with rfl | rfl | rfl | rfl <;> simp only at h <;> simp [binOp, Op.floatArith, h, hf] <;> rfl
end
end Go.Proofs.YtlngplohnknhjaaGreatDoor.Flt

/- Plain facts on doubles that are a whole number below 2 to the 53 times a power of two. No program stands here. -/
namespace Go.Proofs.YtlngplohnknhjaaGreatDoor.Flt
open Ieee

theorem pow_cancel {m n a b : Nat} (h : m * 2 ^ a = n * 2 ^ b) (hab : b ≤ a) : m * 2 ^ (a - b) = n := by
  have e : m * 2 ^ (a - b) * 2 ^ b = n * 2 ^ b := by rw [Nat.mul_assoc, ← Nat.pow_add, Nat.sub_add_cancel hab]; exact h
  exact Nat.eq_of_mul_eq_mul_right (Nat.two_pow_pos _) e
theorem nearest_exact' (f : Format) (s : Bool) (m a b r : Nat) (hr : r ≤ f.infRung) (h : m * 2 ^ a = mg f r * 2 ^ b) : f.nearest s m (f.leastPlace + (a : Int) - (b : Int)) = f.word s r := by
  refine nearest_exact f s m _ r hr ?_
  by_cases hab : b ≤ a
  · rw [show (f.leastPlace + (a : Int) - (b : Int) - f.leastPlace).toNat = a - b by omega, show (f.leastPlace - (f.leastPlace + (a : Int) - (b : Int))).toNat = 0 by omega, Nat.pow_zero, Nat.mul_one]
    exact pow_cancel h hab
  · rw [show (f.leastPlace + (a : Int) - (b : Int) - f.leastPlace).toNat = 0 by omega, show (f.leastPlace - (f.leastPlace + (a : Int) - (b : Int))).toNat = b - a by omega, Nat.pow_zero, Nat.mul_one]
    exact (pow_cancel h.symm (by omega)).symm
theorem reads_fin (f : Format) {w : Nat} (h : rung f w < f.infRung) : f.read w = .number (sgn f w) (ss f (rung f w)) (f.leastPlace + (qq f (rung f w) : Int)) := by
  unfold ss qq
  by_cases h1 : rung f w < f.binade
  · rw [if_pos h1, Nat.div_eq_of_lt h1]
    unfold rung at h1
    simp only [Format.read, h1, if_true, sgn, rung]; simp
  · rw [if_neg h1]
    unfold rung at h h1
    simp only [Format.read, h1, h, if_true, if_false, sgn, rung]

theorem pow_up (k : Nat) : 9007199254740992 * 2 ^ k = 4503599627370496 * 2 ^ (k + 1) := by
  rw [Nat.pow_succ]
  generalize 2 ^ k = y
  omega
/-- 2 to the power of 51, of 52: behind names -/
def P51 : Nat := 2251799813685248
def P52 : Nat := 4503599627370496
theorem P52_eq : P52 = 2 * P51 := rfl
theorem P51_pow : 2 ^ 51 = P51 := rfl
theorem read_two' : double.read 4611686018427387904 = .number false P52 (-51) := read_two
/-- the word of m times 2 to the power of q, in units of the least place of the singles -/
def A (m q : Nat) : Nat := rr double (m * 2 ^ (W + q)) 1
theorem A_spec {m q : Nat} (hm : m < 9007199254740992) (hq : q ≤ 1000) : A m q < double.infRung ∧ mg double (A m q) = m * 2 ^ (W + q) := by
  obtain ⟨r, hr⟩ := mg_surj double (W + q) m (by rw [binade_double]; omega)
  have e : A m q = r := by unfold A; exact rr_exact double r (by omega) (by omega)
  rw [e]
  refine ⟨?_, hr⟩
  rw [← mg_lt_iff double, hr, mg_inf_double]
  calc m * 2 ^ (W + q) ≤ m * 2 ^ (W + 1000) := Nat.mul_le_mul_left _ (Nat.pow_le_pow_right (by omega) (by omega))
    _ < 9007199254740992 * 2 ^ (W + 1000) := Nat.mul_lt_mul_of_pos_right hm (Nat.two_pow_pos _)
    _ = 4503599627370496 * 2 ^ (W + 1000 + 1) := pow_up _
    _ ≤ 4503599627370496 * 2 ^ Z := Nat.mul_le_mul_left _ (Nat.pow_le_pow_right (by omega) (by rw [W_eq, Z_eq]; omega))
theorem A_lt {m q : Nat} (hm : m < 9007199254740992) (hq : q ≤ 1000) : A m q < 9218868437227405312 := by
  have := (A_spec hm hq).1; rw [inf_double] at this; exact this
theorem rung_A {m q : Nat} (hm : m < 9007199254740992) (hq : q ≤ 1000) : rung double (A m q) = A m q := by
  have := A_lt hm hq
  unfold rung; rw [sw_double]; exact Nat.mod_eq_of_lt (by omega)
theorem sgn_A {m q : Nat} (hm : m < 9007199254740992) (hq : q ≤ 1000) : sgn double (A m q) = false := by
  have := A_lt hm hq
  unfold sgn; rw [sw_double, Nat.div_eq_of_lt (by omega)]; rfl
theorem nan_A {m q : Nat} (hm : m < 9007199254740992) (hq : q ≤ 1000) : isNaN double (A m q) = false := by
  have := (A_spec hm hq).1
  unfold isNaN; rw [rung_A hm hq]; exact decide_eq_false (by omega)
theorem sv_A {m q : Nat} (hm : m < 9007199254740992) (hq : q ≤ 1000) : sv double (A m q) = ((m * 2 ^ (W + q) : Nat) : Int) := by
  unfold sv; rw [sgn_A hm hq, rung_A hm hq, (A_spec hm hq).2]; rfl
theorem A_up (m q : Nat) : A (2 * m) q = A m (q + 1) := by
  unfold A
  rw [show 2 * m * 2 ^ (W + q) = m * 2 ^ (W + (q + 1)) by rw [← Nat.add_assoc, Nat.pow_succ _ (W + q)]; grind]
theorem A_shift (m k q : Nat) : A (m * 2 ^ k) q = A m (q + k) := by
  unfold A
  rw [Nat.mul_assoc, ← Nat.pow_add, show k + (W + q) = W + (q + k) by omega]
theorem A_zero (q : Nat) : A 0 q = 0 := by
  unfold A; exact rr_exact double 0 (by omega) (by rw [mg_zero]; simp)
theorem product_num (s t : Bool) (m n : Nat) (i j : Int) : Datum.product (.number s m i) (.number t n j) = some (.number (s ^^ t) (m * n) (i + j)) := rfl
theorem write_num (f : Format) (s : Bool) (m : Nat) (i : Int) : f.write (.number s m i) = f.nearest s m i := rfl
theorem word_false (f : Format) (r : Nat) : f.word false r = r := rfl
theorem mul_two_pow (m y : Nat) : m * (y * 2) = 2 * (m * y) := by rw [Nat.mul_comm y 2, Nat.mul_left_comm]
theorem A_two {m q : Nat} (hm : m < 9007199254740992) (hq : q + 1 ≤ 1000) : mg double (A m (q + 1)) = 2 * mg double (A m q) := by
  rw [(A_spec hm hq).2, (A_spec hm (show q ≤ 1000 by omega)).2, ← Nat.add_assoc, Nat.pow_succ _ (W + q), mul_two_pow]
theorem P_two (s y P : Nat) : s * (2 * P) * y = 2 * (s * y) * P := by
  rw [Nat.mul_left_comm, Nat.mul_assoc 2, Nat.mul_assoc 2, Nat.mul_right_comm s P y]
theorem mul2_read {w s : Nat} {e : Nat} (h : double.read w = .number false s (double.leastPlace + (e : Int))) : double.mul w 4611686018427387904 = some (double.nearest false (s * P52) (double.leastPlace + (e : Int) - ((51 : Nat) : Int))) := by
  unfold Format.mul
  rw [read_two', h, product_num, Option.map_some, write_num, Bool.xor_self]
  rw [show double.leastPlace + (e : Int) + -51 = double.leastPlace + (e : Int) - ((51 : Nat) : Int) by omega]
theorem mul2_near {s e r : Nat} (hr : r ≤ double.infRung) (h : mg double r = 2 * (s * 2 ^ e)) : double.nearest false (s * P52) (double.leastPlace + (e : Int) - ((51 : Nat) : Int)) = r := by
  rw [nearest_exact' double false (s * P52) e 51 r hr, word_false]
  rw [h, P52_eq, P51_pow, P_two]
theorem mul2_A {m q : Nat} (hm : m < 9007199254740992) (hq : q + 1 ≤ 1000) : mul2 (A m q) = A m (q + 1) := by
  have hs := A_spec hm (show q ≤ 1000 by omega)
  have ht := A_spec hm hq
  have hrd := reads_fin double (w := A m q) (by rw [rung_A hm (by omega)]; exact hs.1)
  rw [rung_A hm (by omega), sgn_A hm (by omega)] at hrd
  have h2 := A_two hm hq
  rw [mg_ss double (A m q)] at h2
  unfold mul2
  rw [mul2_read hrd, mul2_near (Nat.le_of_lt ht.1) h2, Option.getD_some]
theorem P52_pow : 2 ^ 52 = P52 := rfl
theorem P52_log : P52.log2 = 52 := by decide
theorem P52_pos : 0 < P52 := by decide
theorem quot_two (s : Nat) (i : Int) (mo : Nat) (h : 54 + 52 - s.log2 = mo + 52) : Datum.quotient 54 (.number false s i) (.number false P52 (-51)) = some (.number false (2 * (s * 2 ^ mo)) (i - -51 - ((mo + 52 : Nat) : Int) - 1)) := by
  have hne : ¬ P52 = 0 := by have := P52_pos; omega
  unfold Datum.quotient
  simp only
  rw [if_neg hne, P52_log, h, Nat.shiftLeft_eq, Nat.pow_add, P52_pow, ← Nat.mul_assoc, Nat.mul_div_cancel _ P52_pos, Nat.mul_mod_left, Bool.xor_self]
  rfl
theorem div2_read {w s : Nat} {e mo : Nat} (h : double.read w = .number false s (double.leastPlace + (e : Int))) (hmo : 54 + 52 - s.log2 = mo + 52) : double.div w 4611686018427387904 = some (double.nearest false (2 * (s * 2 ^ mo)) (double.leastPlace + ((e + 50 : Nat) : Int) - ((mo + 52 : Nat) : Int))) := by
  unfold Format.div
  rw [read_two', h, show double.fractionBits + 2 = 54 by decide, quot_two s _ mo hmo, Option.map_some, write_num]
  rw [show double.leastPlace + (e : Int) - -51 - ((mo + 52 : Nat) : Int) - 1 = double.leastPlace + ((e + 50 : Nat) : Int) - ((mo + 52 : Nat) : Int) by omega]
def P50 : Nat := 1125899906842624
theorem P50_pow : 2 ^ 50 = P50 := rfl
theorem P52_four : P52 = 4 * P50 := rfl
theorem P_half (s y x R P : Nat) (h : s * y = 2 * R) : 2 * (s * x) * (y * P) = R * (x * (4 * P)) := by
  have e : 2 * (s * x) * (y * P) = (s * y) * (2 * (x * P)) := by grind
  rw [e, h]
  grind
theorem div2_near {s e mo r : Nat} (hr : r ≤ double.infRung) (h : 2 * mg double r = s * 2 ^ e) : double.nearest false (2 * (s * 2 ^ mo)) (double.leastPlace + ((e + 50 : Nat) : Int) - ((mo + 52 : Nat) : Int)) = r := by
  rw [nearest_exact' double false _ (e + 50) (mo + 52) r hr, word_false]
  rw [Nat.pow_add 2 e 50, Nat.pow_add 2 mo 52, P52_pow, P50_pow, P52_four]
  exact P_half s (2 ^ e) (2 ^ mo) (mg double r) P50 h.symm
theorem div2_A {m q : Nat} (hm : m < 9007199254740992) (hq : q + 1 ≤ 1000) : div2 (A m (q + 1)) = A m q := by
  have hs := A_spec hm hq
  have ht := A_spec hm (show q ≤ 1000 by omega)
  have hrd := reads_fin double (w := A m (q + 1)) (by rw [rung_A hm (by omega)]; exact hs.1)
  rw [rung_A hm (by omega), sgn_A hm (by omega)] at hrd
  have hlt := ss_lt double (A m (q + 1))
  rw [binade_double] at hlt
  have h2 := A_two hm hq
  rw [mg_ss double (A m (q + 1))] at h2
  have hl : (ss double (A m (q + 1))).log2 ≤ 52 := by
    by_cases h0 : ss double (A m (q + 1)) = 0
    · rw [h0]; simp
    · have := (Nat.log2_lt h0 (k := 53)).2 (by omega); omega
  unfold div2
  rw [div2_read hrd (mo := 54 - (ss double (A m (q + 1))).log2) (by omega), div2_near (Nat.le_of_lt ht.1) h2.symm, Option.getD_some]
theorem muls_A {m q : Nat} (hm : m < 9007199254740992) (k : Nat) (hq : q + k ≤ 1000) : muls k (A m q) = A m (q + k) := by
  induction k with
  | zero => rfl
  | succ k ih => show mul2 (muls k (A m q)) = _; rw [ih (by omega), mul2_A hm (by omega)]; rfl
theorem divs_A {m q : Nat} (hm : m < 9007199254740992) (k : Nat) (hq : q + k ≤ 1000) : divs k (A m (q + k)) = A m q := by
  induction k generalizing q with
  | zero => rfl
  | succ k ih => show div2 (divs k (A m (q + (k + 1)))) = _; rw [show q + (k + 1) = (q + 1) + k by omega, ih (by omega), div2_A hm (by omega)]
theorem scale_up {m q : Nat} (hm : m < 9007199254740992) (hq : q + 1 ≤ 1000) : scale (A m q) 1 = A m (q + 1) := mul2_A hm hq
theorem scale_down {m q : Nat} (hm : m < 9007199254740992) (hq : q + 1 ≤ 1000) : scale (A m (q + 1)) (-1) = A m q := div2_A hm hq
theorem scale_A {m : Nat} (hm : m < 9007199254740992) {q : Nat} {e : Int} (h0 : 0 ≤ (q : Int) + e) (h1 : (q : Int) + max e 0 ≤ 1000) : scale (A m q) e = A m ((q : Int) + e).toNat := by
  unfold scale
  by_cases he : 0 ≤ e
  · rw [show (-e).toNat = 0 by omega, muls_A hm _ (by omega), show q + e.toNat = ((q : Int) + e).toNat by omega]; rfl
  · rw [show e.toNat = 0 by omega]
    show divs _ (A m q) = _
    obtain ⟨k, hk⟩ : ∃ k, (-e).toNat = k := ⟨_, rfl⟩
    rw [hk, show A m q = A m (((q : Int) + e).toNat + k) by congr 1; omega, divs_A hm _ (by omega)]

/-! comparing with a power of two -/
theorem A_cmp {m q n c : Nat} (hm : m < 9007199254740992) (hq : q ≤ 1000) (hc : c < 9218868437227405312) (hn : mg double c = 2 ^ (W + n)) :
    ltW double (A m q) c = decide (m * 2 ^ q < 2 ^ n) ∧ ltW double c (A m q) = decide (2 ^ n < m * 2 ^ q) ∧ eqW double (A m q) c = decide (m * 2 ^ q = 2 ^ n) := by
  have hcr : rung double c = c := by unfold rung; rw [sw_double]; exact Nat.mod_eq_of_lt (by omega)
  have hcs : sgn double c = false := by unfold sgn; rw [sw_double, Nat.div_eq_of_lt (by omega)]; rfl
  have hcn : isNaN double c = false := by unfold isNaN; rw [hcr, inf_double]; exact decide_eq_false (by omega)
  have hcv : sv double c = ((1 * 2 ^ n * 2 ^ W : Nat) : Int) := by unfold sv; rw [hcs, hcr, hn, Nat.pow_add]; simp [Nat.mul_comm]
  have hav : sv double (A m q) = ((m * 2 ^ q * 2 ^ W : Nat) : Int) := by rw [sv_A hm hq, Nat.pow_add, show m * (2 ^ W * 2 ^ q) = m * 2 ^ q * 2 ^ W by grind]
  have hp : 0 < 2 ^ W := Nat.two_pow_pos _
  unfold ltW eqW
  rw [nan_A hm hq, hcn, hcv, hav, Nat.one_mul]
  simp only [Bool.not_false, Bool.true_and]
  have l1 : (((m * 2 ^ q * 2 ^ W : Nat) : Int) < ((2 ^ n * 2 ^ W : Nat) : Int)) ↔ m * 2 ^ q < 2 ^ n := by
    rw [Int.ofNat_lt]; exact Nat.mul_lt_mul_right hp
  have l2 : (((2 ^ n * 2 ^ W : Nat) : Int) < ((m * 2 ^ q * 2 ^ W : Nat) : Int)) ↔ 2 ^ n < m * 2 ^ q := by
    rw [Int.ofNat_lt]; exact Nat.mul_lt_mul_right hp
  have l3 : (((m * 2 ^ q * 2 ^ W : Nat) : Int) = ((2 ^ n * 2 ^ W : Nat) : Int)) ↔ m * 2 ^ q = 2 ^ n := by
    rw [Int.ofNat_inj]; exact ⟨fun h => Nat.eq_of_mul_eq_mul_right hp h, fun h => by rw [h]⟩
  exact ⟨decide_eq_decide.2 l1, decide_eq_decide.2 l2, decide_eq_decide.2 l3⟩
theorem A_eq {m q n p : Nat} (hm : m < 9007199254740992) (hq : q ≤ 1000) (hn : n < 9007199254740992) (hp : p ≤ 1000) : eqW double (A m q) (A n p) = decide (m * 2 ^ q = n * 2 ^ p) := by
  have hw : 0 < 2 ^ W := Nat.two_pow_pos _
  unfold eqW
  rw [nan_A hm hq, nan_A hn hp, sv_A hm hq, sv_A hn hp]
  simp only [Bool.not_false, Bool.true_and]
  refine decide_eq_decide.2 ?_
  rw [Int.ofNat_inj, Nat.pow_add, Nat.pow_add, show m * (2 ^ W * 2 ^ q) = m * 2 ^ q * 2 ^ W by grind, show n * (2 ^ W * 2 ^ p) = n * 2 ^ p * 2 ^ W by grind]
  exact ⟨fun h => Nat.eq_of_mul_eq_mul_right hw h, fun h => by rw [h]⟩
theorem A_eq_zero {m q : Nat} (hm : m < 9007199254740992) (hq : q ≤ 1000) : eqW double (A m q) 0 = decide (m = 0) := by
  rw [eqW_zero _ (nan_A hm hq), rung_A hm hq]
  refine decide_eq_decide.2 ?_
  rw [← mg_eq_zero double, (A_spec hm hq).2]
  have := Nat.two_pow_pos (W + q)
  constructor
  · intro h; rcases Nat.mul_eq_zero.1 h with h | h <;> omega
  · intro h; rw [h]; simp
/-- a single's amount -/
theorem wr_A {r : Nat} : wr r = A (ss single r) (qq single r) := by
  unfold wr A
  rw [mg_ss, Nat.mul_assoc, ← Nat.pow_add, Nat.add_comm]
theorem mg_const {c n : Nat} (h1 : c % 4503599627370496 = 0) (h2 : ¬ c < 4503599627370496) (h3 : c / 4503599627370496 - 1 + 52 = W + n) : mg double c = 2 ^ (W + n) := by
  unfold mg
  rw [binade_double, if_neg h2, h1, Nat.add_zero, ← h3, Nat.pow_add, Nat.mul_comm]
end Go.Proofs.YtlngplohnknhjaaGreatDoor.Flt

/- Plain facts: a number less itself, whole parts, tests of amounts. No program stands here. -/
namespace Go.Proofs.YtlngplohnknhjaaGreatDoor.Flt
open Ieee
def isFinD (a : Nat) : Bool := decide (rung double a < double.infRung)
theorem sum_opp (s : Bool) (m : Nat) (p : Int) : Datum.sum (.number s m p) (.number (!s) m p) = some (.number false 0 p) := by
  have h : signed s m 0 + signed (!s) m 0 = 0 := by rw [signed_eq, signed_eq]; cases s <;> simp <;> omega
  unfold Datum.sum
  simp only
  rw [Int.min_self, Int.sub_self, Int.toNat_zero, h]
  cases s <;> rfl
theorem sub_self {a : Nat} (h : isFinD a = true) : floatBits .sub .f64 a a = some 0 := by
  have hf := of_decide_eq_true h
  have hrd := reads_fin double hf
  show double.sub a a = some 0
  unfold Format.sub
  rw [hrd]
  show (Datum.sum _ (.number (!sgn double a) _ _)).map double.write = _
  rw [sum_opp, Option.map_some, write_num]
  have : double.nearest false 0 (double.leastPlace + (qq double (rung double a) : Int)) = 0 := by unfold Format.nearest; rw [if_pos rfl]; rfl
  rw [this]
theorem sub_nofin {a : Nat} (h : isFinD a = false) : floatBits .sub .f64 a a = none := by
  have hf := of_decide_eq_false h
  show double.sub a a = none
  unfold Format.sub
  rcases reads double hd a with ⟨m, e, hr, _, h'⟩ | ⟨hr, h'⟩ | ⟨t, hr, h'⟩
  · omega
  · rw [h']; cases sgn double a <;> rfl
  · rw [h']; rfl
theorem isFin_widen (x : Nat) : isFinD (widen x) = decide (rung single x < single.infRung) := by
  unfold isFinD
  rw [rung_widen]
  by_cases h : rung single x < single.infRung
  · rw [if_pos h, decide_eq_true h]; exact decide_eq_true (wr_spec h).1
  · rw [if_neg h, decide_eq_false h]; exact decide_eq_false (by omega)
theorem isFin_nan {a : Nat} (h : isNaN double a = true) : isFinD a = false := by
  have := of_decide_eq_true h
  unfold isFinD; exact decide_eq_false (by omega)
theorem ss_single (r : Nat) : ss single r < 16777216 := by have := ss_lt single r; rw [binade_single] at this; omega
theorem ss_single_ge {r : Nat} (h : 0 < qq single r) : 8388608 ≤ ss single r := by have := ss_ge single r h; rw [binade_single] at this; omega
/-- a finite single, widened: its sign and its amount -/
theorem widen_A {x : Nat} (h : rung single x < single.infRung) : widen x = double.word (sgn single x) (A (ss single (rung single x)) (qq single (rung single x))) := by
  unfold widen; rw [if_pos h, wr_A]
theorem ss_pos {r : Nat} (h : r ≠ 0) : 0 < ss single r := by
  have := mg_eq_zero single (r := r)
  rw [mg_ss] at this
  refine Nat.pos_of_ne_zero fun e => h (this.1 (by rw [e]; simp))
/-- whole numbers are cut to themselves -/
theorem cut_zero (neg : Bool) (n d : Nat) : Toward.zero.cut neg n d = n / 2 ^ d := by
  unfold Toward.cut
  simp only [Nat.shiftLeft_eq, Nat.one_mul, Bool.toNat_false, Nat.add_zero]
  by_cases h : d ≤ n.log2 + 2
  · rw [Nat.min_eq_left h]
  · rw [Nat.min_eq_right (by omega)]
    have hn : n < 2 ^ (n.log2 + 1) := Nat.lt_log2_self
    have h2 : 2 ^ (n.log2 + 1) ≤ 2 ^ (n.log2 + 2) := Nat.pow_le_pow_right (by omega) (by omega)
    have h3 : 2 ^ (n.log2 + 2) ≤ 2 ^ d := Nat.pow_le_pow_right (by omega) (by omega)
    rw [Nat.div_eq_of_lt (by omega), Nat.div_eq_of_lt (by omega)]
/-- the whole part of s * 2 ^ e units of the least place, where 1 is 2 ^ (W + 149) units -/
theorem whole_cut (s e : Nat) : Toward.zero.cut false (s <<< (double.leastPlace + (e : Int)).toNat) (-(double.leastPlace + (e : Int))).toNat = s * 2 ^ e / 2 ^ (W + 149) := by
  rw [cut_zero, Nat.shiftLeft_eq, least_double]
  by_cases h : W + 149 ≤ e
  · obtain ⟨k, rfl⟩ : ∃ k, e = k + (W + 149) := ⟨e - (W + 149), by omega⟩
    rw [show (-1074 + ((k + (W + 149) : Nat) : Int)).toNat = k by rw [W_eq]; omega, show (-(-1074 + ((k + (W + 149) : Nat) : Int))).toNat = 0 by rw [W_eq]; omega]
    rw [Nat.pow_zero, Nat.div_one, Nat.pow_add, ← Nat.mul_assoc, Nat.mul_div_cancel _ (Nat.two_pow_pos _)]
  · obtain ⟨k, hk⟩ : ∃ k, W + 149 = k + e := ⟨W + 149 - e, by omega⟩
    rw [show (-1074 + (e : Int)).toNat = 0 by rw [W_eq] at h; omega, show (-(-1074 + (e : Int))).toNat = k by rw [W_eq] at hk h; omega]
    rw [Nat.pow_zero, Nat.mul_one, hk, Nat.pow_add, Nat.mul_comm (2 ^ k), ← Nat.div_div_eq_div_mul, Nat.mul_div_cancel _ (Nat.two_pow_pos _)]
theorem whole_A {m q : Nat} (hm : m < 9007199254740992) (hq : q ≤ 1000) : (double.read (A m q)).integral .zero = .number false (m * 2 ^ q / 2 ^ 149) 0 := by
  have hs := A_spec hm hq
  have hrd := reads_fin double (w := A m q) (by rw [rung_A hm hq]; exact hs.1)
  rw [rung_A hm hq, sgn_A hm hq] at hrd
  have hmg := mg_ss double (A m q)
  rw [hs.2] at hmg
  rw [hrd]
  show Datum.number false (Toward.zero.cut false _ _) 0 = _
  rw [whole_cut, ← hmg, Nat.pow_add, Nat.pow_add, show m * (2 ^ W * 2 ^ q) = 2 ^ W * (m * 2 ^ q) by rw [Nat.mul_left_comm], Nat.mul_div_mul_left _ _ (Nat.two_pow_pos W)]
theorem i64_min : IntKind.i64.min = -9223372036854775808 := rfl
theorem i64_max : IntKind.i64.max = 9223372036854775807 := rfl
theorem decode64 (a : Nat) : FloatKind.f64.decode a = double.read a := rfl
theorem toInt_num {d : Datum} {F : Nat} (h : d.integral .zero = .number false F 0) : d.toInt .zero = some (F : Int) := by
  unfold Datum.toInt
  rw [h]
  show some (signed false F 0) = _
  rw [signed_eq]; simp
theorem toIntVal {a F : Nat} (h : (double.read a).integral .zero = .number false F 0) (hF : F < 9007199254740992) : floatToIntVal .f64 a .i64 = some (F : Int) := by
  unfold floatToIntVal
  rw [decode64, toInt_num h]
  simp only
  rw [if_pos]
  rw [i64_min, i64_max]
  omega
theorem toInt_A {m : Nat} (hm : m < 9007199254740992) : floatToIntVal .f64 (A m 149) .i64 = some (m : Int) := by
  refine toIntVal ?_ hm
  rw [whole_A hm (by omega), Nat.mul_div_cancel _ (Nat.two_pow_pos 149)]
theorem two_odd : ∀ (n : Nat), 0 < n → ∃ m t, m % 2 = 1 ∧ n = m * 2 ^ t := by
  intro n
  induction n using Nat.strongRecOn with
  | ind n ih =>
    intro hn
    by_cases h : n % 2 = 1
    · exact ⟨n, 0, h, by simp⟩
    · obtain ⟨m, t, h1, h2⟩ := ih (n / 2) (by omega) (by omega)
      exact ⟨m, t + 1, h1, by rw [Nat.pow_succ, ← Nat.mul_assoc, ← h2]; omega⟩
end Go.Proofs.YtlngplohnknhjaaGreatDoor.Flt

/- Plain facts: quotients and products of any two finite words, by rungs. No program stands here. -/
namespace Go.Proofs.YtlngplohnknhjaaGreatDoor.Flt
open Ieee

theorem rne_cmp {N D N' D' : Nat} (hD : 0 < D) (hD' : 0 < D') (h1 : ∀ k, k * D ≤ 2 * N ↔ k * D' ≤ 2 * N') (h2 : ∀ k, 2 * N ≤ k * D ↔ 2 * N' ≤ k * D') : rne N D = rne N' D' := by
  have e : N / D = N' / D' := by
    apply Nat.le_antisymm
    · rw [Nat.le_div_iff_mul_le hD']
      have := (h1 (2 * (N / D))).1 (by rw [Nat.mul_assoc]; exact Nat.mul_le_mul_left 2 (Nat.div_mul_le_self N D))
      rw [Nat.mul_assoc] at this
      omega
    · rw [Nat.le_div_iff_mul_le hD]
      have := (h1 (2 * (N' / D'))).2 (by rw [Nat.mul_assoc]; exact Nat.mul_le_mul_left 2 (Nat.div_mul_le_self N' D'))
      rw [Nat.mul_assoc] at this
      omega
  have a1 := h1 (2 * (N / D) + 1)
  have a2 := h2 (2 * (N / D) + 1)
  have b1 := Nat.div_add_mod N D
  have b2 := Nat.div_add_mod N' D'
  rw [← e] at b2
  rw [Nat.add_mul, Nat.add_mul, Nat.mul_assoc, Nat.mul_assoc, Nat.mul_comm (N / D) D, Nat.mul_comm (N / D) D', Nat.one_mul, Nat.one_mul] at a1 a2
  have c1 : D < 2 * (N % D) ↔ D' < 2 * (N' % D') := by
    constructor
    · intro h; have := a2; omega
    · intro h; have := a2; omega
  have c2 : D = 2 * (N % D) ↔ D' = 2 * (N' % D') := by
    constructor
    · intro h; have := a2; have := a1; omega
    · intro h; have := a2; have := a1; omega
  unfold rne
  rw [e, decide_eq_decide.2 c1]
  have c3 : (D == 2 * (N % D)) = (D' == 2 * (N' % D')) := by
    rw [Bool.eq_iff_iff, beq_iff_eq, beq_iff_eq]; exact c2
  rw [c3]

theorem sticky_ge {X n : Nat} (hn : 0 < n) (k : Nat) : k * n ≤ X ↔ 2 * k ≤ 2 * (X / n) + (X % n != 0).toNat := by
  rw [← Nat.le_div_iff_mul_le hn]
  have : (X % n != 0).toNat ≤ 1 := by cases (X % n != 0) <;> simp
  omega
theorem sticky_le {X n : Nat} (hn : 0 < n) (k : Nat) : X ≤ k * n ↔ 2 * (X / n) + (X % n != 0).toNat ≤ 2 * k := by
  have hd := Nat.div_add_mod X n
  by_cases h : X % n = 0
  · rw [h]
    simp only [bne_self_eq_false, Bool.toNat_false, Nat.add_zero]
    rw [h, Nat.add_zero] at hd
    constructor
    · intro hx
      have : X / n ≤ k := by
        rw [← hd, Nat.mul_comm k n] at hx
        exact Nat.le_of_mul_le_mul_left hx hn
      omega
    · intro hx
      rw [← hd, Nat.mul_comm k n]
      exact Nat.mul_le_mul_left n (by omega)
  · have hs : (X % n != 0).toNat = 1 := by simp [bne, h]
    rw [hs]
    have h1 : X / n < k ↔ X < k * n := Nat.div_lt_iff_lt_mul hn
    constructor
    · intro hx
      have : X ≠ k * n := fun e => h (by rw [e]; exact Nat.mul_mod_left k n)
      have := h1.2 (by omega)
      omega
    · intro hx
      have := h1.1 (by omega)
      omega
def stk (X n : Nat) : Nat := 2 * (X / n) + (X % n != 0).toNat
theorem unit_ge {X n : Nat} (hn : 0 < n) (k g d : Nat) : k * 2 ^ (g + d) * n ≤ X * 2 ^ g ↔ 2 * (k * 2 ^ (g + d)) ≤ stk X n * 2 ^ g := by
  have h := sticky_ge (X := X) hn (k * 2 ^ d)
  have e1 : k * 2 ^ (g + d) * n = k * 2 ^ d * n * 2 ^ g := by rw [Nat.pow_add]; ac_rfl
  have e2 : 2 * (k * 2 ^ (g + d)) = 2 * (k * 2 ^ d) * 2 ^ g := by rw [Nat.pow_add]; ac_rfl
  rw [e1, e2, Nat.mul_le_mul_right_iff (Nat.two_pow_pos g), Nat.mul_le_mul_right_iff (Nat.two_pow_pos g)]
  exact h
theorem unit_le {X n : Nat} (hn : 0 < n) (k g d : Nat) : X * 2 ^ g ≤ k * 2 ^ (g + d) * n ↔ stk X n * 2 ^ g ≤ 2 * (k * 2 ^ (g + d)) := by
  have h := sticky_le (X := X) hn (k * 2 ^ d)
  have e1 : k * 2 ^ (g + d) * n = k * 2 ^ d * n * 2 ^ g := by rw [Nat.pow_add]; ac_rfl
  have e2 : 2 * (k * 2 ^ (g + d)) = 2 * (k * 2 ^ d) * 2 ^ g := by rw [Nat.pow_add]; ac_rfl
  rw [e1, e2, Nat.mul_le_mul_right_iff (Nat.two_pow_pos g), Nat.mul_le_mul_right_iff (Nat.two_pow_pos g)]
  exact h
theorem log2_cmp {A B : Nat} (h : ∀ p, 2 ^ p ≤ A ↔ 2 ^ p ≤ B) : A.log2 = B.log2 := by
  have h0 := h 0
  by_cases ha : A = 0
  · have : B = 0 := by simp at h0; omega
    rw [ha, this]
  · have hb : B ≠ 0 := by simp at h0; omega
    apply Nat.le_antisymm
    · exact (Nat.le_log2 hb).2 ((h _).1 (Nat.log2_self_le ha))
    · exact (Nat.le_log2 ha).2 ((h _).2 (Nat.log2_self_le hb))
theorem stk_ge {X n : Nat} {c : Nat} (h : c ≤ X / n) : 2 * c ≤ stk X n := by unfold stk; omega
theorem ex_sticky (f : Format) {X n g h : Nat} (hn : 0 < n) (hq : 2 ^ (f.fractionBits + 1) ≤ X / n) : ex f (X * 2 ^ g) (n * 2 ^ h) = ex f (stk X n * 2 ^ g) (2 ^ (h + 1)) := by
  unfold ex
  congr 1
  refine log2_cmp fun p => ?_
  rw [Nat.le_div_iff_mul_le (Nat.mul_pos hn (Nat.two_pow_pos h)), Nat.le_div_iff_mul_le (Nat.two_pow_pos _)]
  have hX : n ≤ X := by
    have : 1 ≤ X / n := Nat.le_trans (Nat.two_pow_pos _) hq
    rw [Nat.le_div_iff_mul_le hn] at this; omega
  by_cases hg : g ≤ p + h
  · obtain ⟨d, hd⟩ : ∃ d, p + h = g + d := ⟨p + h - g, by omega⟩
    have := unit_ge (X := X) hn 1 g d
    rw [Nat.one_mul, ← hd] at this
    rw [show 2 ^ p * (n * 2 ^ h) = 2 ^ (p + h) * n by rw [Nat.pow_add]; ac_rfl, show 2 ^ p * 2 ^ (h + 1) = 2 * 2 ^ (p + h) by rw [Nat.pow_succ, Nat.pow_add]; ac_rfl]
    exact this
  · have e1 : 2 ^ p * (n * 2 ^ h) ≤ X * 2 ^ g := by
      rw [show 2 ^ p * (n * 2 ^ h) = n * 2 ^ (p + h) by rw [Nat.pow_add]; ac_rfl]
      exact Nat.mul_le_mul hX (Nat.pow_le_pow_right (by omega) (by omega))
    have e2 : 2 ^ p * 2 ^ (h + 1) ≤ stk X n * 2 ^ g := by
      rw [show 2 ^ p * 2 ^ (h + 1) = 2 * 2 ^ (p + h) by rw [Nat.pow_succ, Nat.pow_add]; ac_rfl]
      exact Nat.mul_le_mul (by have := stk_ge (X := X) (n := n) (c := 1) (Nat.le_trans (Nat.two_pow_pos _) hq); omega) (Nat.pow_le_pow_right (by omega) (by omega))
    exact ⟨fun _ => e2, fun _ => e1⟩
theorem ex_room (f : Format) {S g h : Nat} (hS : 2 ^ (f.fractionBits + 2) ≤ S) : g + 1 ≤ h + ex f (S * 2 ^ g) (2 ^ (h + 1)) := by
  by_cases hg : g < h
  · omega
  · obtain ⟨d, rfl⟩ : ∃ d, g = h + d := ⟨g - h, by omega⟩
    have h1 : 2 ^ (f.fractionBits + 1 + d) ≤ S * 2 ^ (h + d) / 2 ^ (h + 1) := by
      rw [Nat.le_div_iff_mul_le (Nat.two_pow_pos _), ← Nat.pow_add]
      refine Nat.le_trans ?_ (Nat.mul_le_mul_right _ hS)
      rw [← Nat.pow_add]
      exact Nat.pow_le_pow_right (by omega) (by omega)
    have h2 := (Nat.le_log2 (by have := Nat.two_pow_pos (f.fractionBits + 1 + d); omega)).2 h1
    unfold ex
    omega
theorem rr_sticky (f : Format) {X n g h : Nat} (hn : 0 < n) (hq : 2 ^ (f.fractionBits + 1) ≤ X / n) : rr f (X * 2 ^ g) (n * 2 ^ h) = rr f (stk X n * 2 ^ g) (2 ^ (h + 1)) := by
  have he := ex_sticky f (g := g) (h := h) hn hq
  have hr := ex_room f (g := g) (h := h) (S := stk X n) (by have := stk_ge hq; rw [Nat.pow_succ]; omega)
  unfold rr
  rw [he]
  generalize ex f (stk X n * 2 ^ g) (2 ^ (h + 1)) = E at *
  congr 1
  obtain ⟨d, hd⟩ : ∃ d, h + E = g + d + 1 := ⟨h + E - g - 1, by omega⟩
  have e1 : ∀ k, k * (n * 2 ^ h * 2 ^ E) = 2 * (k * 2 ^ (g + d) * n) := fun k => by
    rw [show k * (n * 2 ^ h * 2 ^ E) = k * n * 2 ^ (h + E) by rw [Nat.pow_add]; ac_rfl, hd, Nat.pow_succ]; ac_rfl
  have e2 : ∀ k, k * (2 ^ (h + 1) * 2 ^ E) = 2 * (2 * (k * 2 ^ (g + d))) := fun k => by
    rw [show k * (2 ^ (h + 1) * 2 ^ E) = 2 * (k * 2 ^ (h + E)) by rw [Nat.pow_succ, Nat.pow_add]; ac_rfl, hd, Nat.pow_succ]; ac_rfl
  refine rne_cmp (Nat.mul_pos (Nat.mul_pos hn (Nat.two_pow_pos _)) (Nat.two_pow_pos _)) (Nat.mul_pos (Nat.two_pow_pos _) (Nat.two_pow_pos _)) (fun k => ?_) (fun k => ?_)
  · rw [e1, e2]
    have := unit_ge (X := X) hn k g d
    omega
  · rw [e1, e2]
    have := unit_le (X := X) hn k g d
    omega
/-- the units of the least place in 1 -/
def lam (f : Format) : Nat := (-f.leastPlace).toNat
def quoRung (f : Format) (r s : Nat) : Nat := min (rr f (mg f r * 2 ^ lam f) (mg f s)) f.infRung
def mulRung (f : Format) (r s : Nat) : Nat := min (rr f (mg f r * mg f s) (2 ^ lam f)) f.infRung
theorem pow2_mul (c u v : Nat) : c * 2 ^ u * 2 ^ v = c * 2 ^ (u + v) := by rw [Nat.mul_assoc, ← Nat.pow_add]
theorem rr_zero (f : Format) {D : Nat} (hD : 0 < D) : rr f 0 D = 0 := rr_exact f 0 hD (by rw [mg_zero]; simp)
theorem div_rr (f : Format) (hL : f.leastPlace ≤ 0) {x y : Nat} (hx : rung f x < f.infRung) (hy : rung f y < f.infRung) (h0 : rung f y ≠ 0) :
    f.div x y = some (f.word (sgn f x ^^ sgn f y) (quoRung f (rung f x) (rung f y))) := by
  have hn : 0 < mg f (rung f y) := Nat.pos_of_ne_zero fun e => h0 ((mg_eq_zero f).1 e)
  have mx := mg_ss f (rung f x)
  have my := mg_ss f (rung f y)
  unfold Format.div quoRung
  rw [reads_fin f hx, reads_fin f hy]
  rw [mx, my]
  rw [my] at hn
  clear mx my h0
  generalize ss f (rung f x) = m at *
  generalize ss f (rung f y) = n at *
  generalize qq f (rung f x) = a at *
  generalize qq f (rung f y) = b at *
  have hn0 : 0 < n := by
    rcases Nat.eq_zero_or_pos n with e | e
    · subst e; simp at hn
    · exact e
  unfold Datum.quotient
  simp only
  rw [if_neg (by omega)]
  rw [Option.map_some, Option.some.injEq]
  generalize (sgn f x ^^ sgn f y) = s
  show f.nearest s (stk (m <<< (f.fractionBits + 2 + n.log2 - m.log2)) n) _ = _
  by_cases hm : m = 0
  · subst hm
    rw [Nat.zero_shiftLeft, show stk 0 n = 0 by unfold stk; simp, Nat.zero_mul, Nat.zero_mul, rr_zero f hn]
    unfold Format.nearest
    rw [if_pos rfl, Nat.zero_min]
  · rw [Nat.shiftLeft_eq]
    have hmore : m.log2 + (f.fractionBits + 2 + n.log2 - m.log2) ≥ f.fractionBits + 2 + n.log2 := by omega
    generalize f.fractionBits + 2 + n.log2 - m.log2 = more at *
    have hq : 2 ^ (f.fractionBits + 1) ≤ m * 2 ^ more / n := by
      rw [Nat.le_div_iff_mul_le hn0]
      have h1 : n < 2 ^ (n.log2 + 1) := Nat.lt_log2_self
      have h2 : 2 ^ m.log2 ≤ m := Nat.log2_self_le hm
      calc 2 ^ (f.fractionBits + 1) * n ≤ 2 ^ (f.fractionBits + 1) * 2 ^ (n.log2 + 1) := Nat.mul_le_mul_left _ (by omega)
        _ = 2 ^ (f.fractionBits + 2 + n.log2) := by rw [← Nat.pow_add]; congr 1; omega
        _ ≤ 2 ^ (m.log2 + more) := Nat.pow_le_pow_right (by omega) hmore
        _ = 2 ^ m.log2 * 2 ^ more := Nat.pow_add ..
        _ ≤ m * 2 ^ more := Nat.mul_le_mul_right _ h2
    have hst := rr_sticky f (g := a + lam f) (h := b + more) hn0 hq
    rw [nearest_rr]
    congr 2
    have c1 : rr f (m * 2 ^ a * 2 ^ lam f) (n * 2 ^ b) = rr f (m * 2 ^ more * 2 ^ (a + lam f)) (n * 2 ^ (b + more)) := by
      refine rr_congr f hn (Nat.mul_pos hn0 (Nat.two_pow_pos _)) ?_
      rw [Nat.pow_add, Nat.pow_add]; ac_rfl
    rw [c1, hst]
    refine rr_congr f (Nat.two_pow_pos _) (Nat.two_pow_pos _) ?_
    rw [pow2_mul, pow2_mul]
    congr 2
    unfold lam
    omega
theorem mul_rr (f : Format) (hL : f.leastPlace ≤ 0) {x y : Nat} (hx : rung f x < f.infRung) (hy : rung f y < f.infRung) :
    f.mul x y = some (f.word (sgn f x ^^ sgn f y) (mulRung f (rung f x) (rung f y))) := by
  have mx := mg_ss f (rung f x)
  have my := mg_ss f (rung f y)
  unfold Format.mul mulRung
  rw [reads_fin f hx, reads_fin f hy]
  rw [mx, my]
  clear mx my
  generalize ss f (rung f x) = m at *
  generalize ss f (rung f y) = n at *
  generalize qq f (rung f x) = a at *
  generalize qq f (rung f y) = b at *
  rw [product_num, Option.map_some, write_num, nearest_rr]
  congr 3
  refine rr_congr f (Nat.two_pow_pos _) (Nat.two_pow_pos _) ?_
  rw [show m * 2 ^ a * (n * 2 ^ b) = m * n * 2 ^ (a + b) by rw [Nat.pow_add]; ac_rfl, pow2_mul, pow2_mul]
  congr 2
  unfold lam
  omega
end Go.Proofs.YtlngplohnknhjaaGreatDoor.Flt

/- Floats that may be NaN: what an operation gives, as an option (none: some NaN); operands exchanged, signs turned. -/
namespace Go.Proofs.YtlngplohnknhjaaGreatDoor.Flt
open Ieee Go.RowKit

theorem hk (k : FloatKind) : 1 ≤ k.format.exponentBits := by cases k <;> decide
/-- how a datum is read off sign and rung -/
def rd (f : Format) (s : Bool) (r : Nat) : Datum :=
  if r < f.binade then .number s r f.leastPlace
  else if r < f.infRung then .number s (f.binade + r % f.binade) (f.leastPlace + (r / f.binade - 1 : Nat))
  else if r = f.infRung then .infinity s else .nan s (r - f.infRung)
theorem read_rd (f : Format) (w : Nat) : f.read w = rd f (sgn f w) (rung f w) := rfl
theorem rd_opp (f : Format) (s : Bool) (r : Nat) : rd f (!s) r = (rd f s r).opposite := by
  unfold rd
  split
  · rfl
  · split
    · rfl
    · split <;> rfl
theorem read_neg (k : FloatKind) {w : Nat} (h : w < 2 ^ k.format.width) : k.format.read (Op.negFloat k w) = (k.format.read w).opposite := by
  rw [read_rd, sgn_neg k h, rung_neg k h, rd_opp]; rfl
theorem read_nan {f : Format} (hf : 1 ≤ f.exponentBits) {w : Nat} (h : isNaN f w = true) : ∃ s t, f.read w = .nan s t := by
  have h := of_decide_eq_true h
  rcases reads f hf w with ⟨m, e, hr, _, _⟩ | ⟨hr, _⟩ | ⟨t, hr, h'⟩
  · omega
  · omega
  · exact ⟨_, _, h'⟩
theorem read_num {f : Format} (hf : 1 ≤ f.exponentBits) {w : Nat} (h : isNaN f w = false) : (f.read w).isNaN = false := by
  have h := of_decide_eq_false h
  rcases reads f hf w with ⟨m, e, hr, _, h'⟩ | ⟨hr, h'⟩ | ⟨t, hr, h'⟩
  · rw [h']; rfl
  · rw [h']; rfl
  · omega
/-! on data -/
theorem sum_comm (d e : Datum) : d.sum e = e.sum d := by
  cases d with
  | number s m i =>
    cases e with
    | number t n j =>
      simp only [Datum.sum]
      rw [Int.min_comm i j, Int.add_comm (signed s m _), Bool.and_comm s t]
    | infinity t => rfl
    | nan t n => rfl
  | infinity s =>
    cases e with
    | number t n j => rfl
    | infinity t =>
      simp only [Datum.sum]
      by_cases h : s = t
      · rw [h]
      · rw [if_neg h, if_neg (Ne.symm h)]
    | nan t n => rfl
  | nan s m => cases e <;> rfl
theorem product_comm (d e : Datum) : d.product e = e.product d := by
  cases d with
  | number s m i =>
    cases e with
    | number t n j => simp only [Datum.product]; rw [Bool.xor_comm s t, Nat.mul_comm m n, Int.add_comm i j]
    | infinity t => rfl
    | nan t n => rfl
  | infinity s =>
    cases e with
    | number t n j => rfl
    | infinity t => simp only [Datum.product]; rw [Bool.xor_comm s t]
    | nan t n => rfl
  | nan s m => cases e <;> rfl
theorem product_opp (d e : Datum) : d.opposite.product e.opposite = d.product e := by
  cases d <;> cases e <;> simp [Datum.opposite, Datum.product]
theorem sum_num {d e r : Datum} (h : d.sum e = some r) : r.isNaN = false := by
  cases d <;> cases e <;> simp only [Datum.sum] at h <;> first | (cases h; done) | (cases h; rfl) | (split at h <;> first | (cases h; rfl) | cases h)
theorem product_num' {d e r : Datum} (h : d.product e = some r) : r.isNaN = false := by
  cases d <;> cases e <;> simp only [Datum.product] at h <;> first | (cases h; done) | (cases h; rfl) | (split at h <;> first | (cases h; rfl) | cases h)
theorem quotient_num {n : Nat} {d e r : Datum} (h : d.quotient n e = some r) : r.isNaN = false := by
  cases d <;> cases e <;> simp only [Datum.quotient] at h
  all_goals first
    | (cases h; done)
    | (cases h; rfl)
    | (split at h
       · split at h
         · cases h
         · cases h; rfl
       · cases h; rfl)
/-! on words -/
/-- its bits, or none of a NaN -/
def can (k : FloatKind) (r : Nat) : Option Nat := if isNaN k.format r = true then none else some r
def fo (op : BinOp) (k : FloatKind) (a b : Option Nat) : Option Nat := a.bind fun x => b.bind fun y => floatBits op k x y
theorem can_nan {k : FloatKind} {r : Nat} (h : isNaN k.format r = true) : can k r = none := by unfold can; rw [if_pos h]
theorem can_num {k : FloatKind} {r : Nat} (h : isNaN k.format r = false) : can k r = some r := by unfold can; rw [if_neg (by rw [h]; exact Bool.false_ne_true)]
theorem can_some {k : FloatKind} {r s : Nat} (h : can k r = some s) : r = s ∧ isNaN k.format s = false := by
  cases hn : isNaN k.format r
  · rw [can_num hn] at h; cases h; exact ⟨rfl, hn⟩
  · rw [can_nan hn] at h; cases h
theorem can_none {k : FloatKind} {r : Nat} (h : can k r = none) : isNaN k.format r = true := by
  cases hn : isNaN k.format r
  · rw [can_num hn] at h; cases h
  · rfl
theorem bits_nan_left {op : BinOp} (hop : op = .add ∨ op = .sub ∨ op = .mul ∨ op = .quo) {k : FloatKind} {x : Nat} (y : Nat) (h : isNaN k.format x = true) : floatBits op k x y = none := by
  obtain ⟨s, t, e⟩ := read_nan (hk k) h
  rcases hop with rfl | rfl | rfl | rfl <;> simp only [floatBits, Format.add, Format.sub, Format.mul, Format.div, e] <;> rfl
theorem bits_nan_right {op : BinOp} (hop : op = .add ∨ op = .sub ∨ op = .mul ∨ op = .quo) {k : FloatKind} (x : Nat) {y : Nat} (h : isNaN k.format y = true) : floatBits op k x y = none := by
  obtain ⟨s, t, e⟩ := read_nan (hk k) h
  rcases hop with rfl | rfl | rfl | rfl <;> simp only [floatBits, Format.add, Format.sub, Format.mul, Format.div, e, Datum.opposite] <;> cases k.format.read x <;> rfl
theorem bits_num {op : BinOp} {k : FloatKind} {x y r : Nat} (h : floatBits op k x y = some r) : isNaN k.format r = false := by
  unfold floatBits at h
  cases op <;> simp only at h <;> try (cases h; done)
  all_goals
    simp only [Format.add, Format.sub, Format.mul, Format.div, Option.map_eq_some_iff] at h
    obtain ⟨d, hd', rfl⟩ := h
    refine write_nan _ _ ?_
    first | exact sum_num hd' | exact product_num' hd' | exact quotient_num hd'
theorem fo_can {op : BinOp} (hop : op = .add ∨ op = .sub ∨ op = .mul ∨ op = .quo) (k : FloatKind) (x y : Nat) : fo op k (can k x) (can k y) = floatBits op k x y := by
  cases hx : isNaN k.format x
  · cases hy : isNaN k.format y
    · rw [can_num hx, can_num hy]; rfl
    · rw [can_num hx, can_nan hy, bits_nan_right hop x hy]; rfl
  · rw [can_nan hx, bits_nan_left hop y hx]; rfl
/-- what an operation gives, at every world -/
theorem run_fo {P : Program} (op : BinOp) (hop : op = .add ∨ op = .sub ∨ op = .mul ∨ op = .quo) (t : TypeId) (k : FloatKind) (x y : Nat) (w : World) :
    ∃ r n, (Lit.float k r).wf = true ∧ can k r = fo op k (can k x) (can k y) ∧ (binOp op t (.float k x) (.float k y)).run P w = .ok (.float k r) (w.drewN n) := by
  obtain ⟨r, n, h1, h2, h3⟩ := run_float_any (P := P) op hop t k x y w
  refine ⟨r, n, h1, ?_, h3⟩
  rw [fo_can hop]
  rcases h2 with h2 | ⟨h2, h4⟩
  · rw [h2, can_num (bits_num h2)]
  · rw [h2, can_nan h4]
theorem fo_add_comm (k : FloatKind) (a b : Option Nat) : fo .add k a b = fo .add k b a := by
  cases a <;> cases b <;> try rfl
  rename_i x y
  show k.format.add x y = k.format.add y x
  unfold Format.add; rw [sum_comm]
theorem fo_mul_comm (k : FloatKind) (a b : Option Nat) : fo .mul k a b = fo .mul k b a := by
  cases a <;> cases b <;> try rfl
  rename_i x y
  show k.format.mul x y = k.format.mul y x
  unfold Format.mul; rw [product_comm]
theorem fo_mul_neg (k : FloatKind) {x y : Nat} (hx : x < 2 ^ k.format.width) (hy : y < 2 ^ k.format.width) :
    fo .mul k (can k (Op.negFloat k x)) (can k (Op.negFloat k y)) = fo .mul k (can k x) (can k y) := by
  rw [fo_can (.inr (.inr (.inl rfl))), fo_can (.inr (.inr (.inl rfl)))]
  show k.format.mul _ _ = k.format.mul _ _
  unfold Format.mul; rw [read_neg k hx, read_neg k hy, product_opp]
/-! the sign of what an operation gives -/
def pos (k : FloatKind) (o : Option Nat) : Bool := match o with | none => false | some r => decide (0 < sv k.format r)
def ngt (k : FloatKind) (o : Option Nat) : Bool := match o with | none => false | some r => decide (sv k.format r < 0)
theorem pos_can (k : FloatKind) (r : Nat) : (k.format.order r 0 == some .gt) = pos k (can k r) := by
  rw [order_gtW k.format (hk k)]
  unfold ltW
  cases h : isNaN k.format r
  · rw [can_num h, nan_zero, sv_zero]; simp [pos]
  · rw [can_nan h, nan_zero]; rfl
theorem ngt_can (k : FloatKind) (r : Nat) : (k.format.order r 0 == some .lt) = ngt k (can k r) := by
  rw [order_ltW k.format (hk k)]
  unfold ltW
  cases h : isNaN k.format r
  · rw [can_num h, nan_zero, sv_zero]; simp [ngt]
  · rw [can_nan h]; rfl
/-- the sign of a datum that is written -/
theorem sv_write_num (f : Format) (s : Bool) (m : Nat) (p : Int) : sv f (f.nearest s m p) = if s then -(mg f (rung f (f.nearest false m p)) : Int) else (mg f (rung f (f.nearest false m p)) : Int) := by
  have h1 := nearest_rung f s m p
  have h2 := nearest_rung f false m p
  unfold sv
  rw [h1.2, h1.1, h2.1]
theorem sv_write_zero (f : Format) (s : Bool) (p : Int) : sv f (f.nearest s 0 p) = 0 := by
  refine (sv_eq_zero f).2 ?_
  unfold Format.nearest
  rw [if_pos rfl, rung_word f s (Nat.two_pow_pos _)]
theorem sv_write_inf (f : Format) (s : Bool) : sv f (f.word s f.infRung) = if s then -(mg f f.infRung : Int) else (mg f f.infRung : Int) := by
  unfold sv; rw [sgn_word f s (inf_lt f), rung_word f s (inf_lt f)]
theorem signed_neg (s : Bool) (m u : Nat) : signed (!s) m u = -signed s m u := by
  unfold signed; cases s <;> simp
/-- d less e, and e less d -/
theorem sum_anti (f : Format) (d e : Datum) : (d.sum e.opposite = none ∧ e.sum d.opposite = none) ∨ ∃ x y, d.sum e.opposite = some x ∧ e.sum d.opposite = some y ∧ sv f (f.write x) = -sv f (f.write y) := by
  cases d with
  | number s m i =>
    cases e with
    | number t n j =>
      refine .inr ⟨_, _, rfl, rfl, ?_⟩
      rw [Int.min_comm j i]
      generalize min i j = b
      simp only [signed_neg]
      generalize signed s m (i - b).toNat = u
      generalize signed t n (j - b).toNat = v
      by_cases h : u + -v = 0
      · rw [if_pos h, if_pos (by omega), show (u + -v).natAbs = 0 by omega, show (v + -u).natAbs = 0 by omega]
        rw [write_num, write_num, sv_write_zero, sv_write_zero]; rfl
      · rw [if_neg h, if_neg (by omega), show (v + -u).natAbs = (u + -v).natAbs by omega]
        rw [write_num, write_num, sv_write_num, sv_write_num f (decide (v + -u < 0))]
        by_cases h2 : u + -v < 0
        · rw [decide_eq_true h2, decide_eq_false (by omega)]; simp
        · rw [decide_eq_false h2, decide_eq_true (by omega)]; simp
    | infinity t =>
      refine .inr ⟨_, _, rfl, rfl, ?_⟩
      show sv f (f.word (!t) f.infRung) = -sv f (f.word t f.infRung)
      rw [sv_write_inf, sv_write_inf]; cases t <;> simp
    | nan t n => exact .inl ⟨rfl, rfl⟩
  | infinity s =>
    cases e with
    | number t n j =>
      refine .inr ⟨_, _, rfl, rfl, ?_⟩
      show sv f (f.word s f.infRung) = -sv f (f.word (!s) f.infRung)
      rw [sv_write_inf, sv_write_inf]; cases s <;> simp
    | infinity t =>
      cases s <;> cases t
      · exact .inl ⟨rfl, rfl⟩
      · refine .inr ⟨_, _, rfl, rfl, ?_⟩
        show sv f (f.word false f.infRung) = -sv f (f.word true f.infRung)
        rw [sv_write_inf, sv_write_inf]; simp
      · refine .inr ⟨_, _, rfl, rfl, ?_⟩
        show sv f (f.word true f.infRung) = -sv f (f.word false f.infRung)
        rw [sv_write_inf, sv_write_inf]; simp
      · exact .inl ⟨rfl, rfl⟩
    | nan t n => exact .inl ⟨rfl, rfl⟩
  | nan s m => exact .inl ⟨rfl, by cases e <;> rfl⟩
theorem sub_anti (k : FloatKind) (a b : Option Nat) : pos k (fo .sub k a b) = ngt k (fo .sub k b a) := by
  cases a <;> cases b <;> try rfl
  rename_i x y
  show pos k (k.format.sub x y) = ngt k (k.format.sub y x)
  unfold Format.sub
  rcases sum_anti k.format (k.format.read x) (k.format.read y) with ⟨h1, h2⟩ | ⟨u, v, h1, h2, h3⟩
  · rw [h1, h2]; rfl
  · rw [h1, h2]
    simp only [Option.map_some, pos, ngt]
    rw [h3]
    by_cases h : sv k.format (k.format.write v) < 0
    · rw [decide_eq_true h]; exact decide_eq_true (by omega)
    · rw [decide_eq_false h]; exact decide_eq_false (by omega)
theorem sub_self_pos (a : Option Nat) : pos .f64 (fo .sub .f64 a a) = false := by
  cases a with
  | none => rfl
  | some x =>
    show pos .f64 (floatBits .sub .f64 x x) = false
    cases h : isFinD x
    · rw [sub_nofin h]; rfl
    · rw [sub_self h]; decide
theorem sub_self_ngt (a : Option Nat) : ngt .f64 (fo .sub .f64 a a) = false := by rw [← sub_anti]; exact sub_self_pos a
end Go.Proofs.YtlngplohnknhjaaGreatDoor.Flt

/- The quotient of complex numbers whose parts are finite: what its parts are, as options; of a number and itself; of a number and 1. No program stands here. -/
namespace Go.Proofs.YtlngplohnknhjaaGreatDoor.Flt
open Ieee Go.RowKit

abbrev am : BinOp → Prop := fun op => op = .add ∨ op = .sub ∨ op = .mul ∨ op = .quo
theorem hAdd : am .add := .inl rfl
theorem hSub : am .sub := .inr (.inl rfl)
theorem hMul : am .mul := .inr (.inr (.inl rfl))
theorem hQuo : am .quo := .inr (.inr (.inr rfl))
theorem run_arith {P : Program} (op : BinOp) (hop : am op) (x y : Nat) (w : World) :
    ∃ r n, (Lit.float .f64 r).wf = true ∧ can .f64 r = fo op .f64 (can .f64 x) (can .f64 y) ∧ (Op.Complex.arith op .f64 x y).run P w = .ok r (w.drewN n) := by
  obtain ⟨r, n, h1, h2, h3⟩ := run_fo (P := P) op hop 0 .f64 x y w
  refine ⟨r, n, h1, h2, ?_⟩
  have e : binOp op 0 (.float .f64 x) (.float .f64 y) = Op.floatArith op .f64 x y := by rcases hop with rfl | rfl | rfl | rfl <;> rfl
  rw [e] at h3
  simp [Op.Complex.arith, h3]
/-- the quotient's parts -/
def quoO (a b c d : Nat) : Option Nat × Option Nat :=
  let A := can .f64 a
  let B := can .f64 b
  let C := can .f64 c
  let D := can .f64 d
  if absGe c d then
    (fo .quo .f64 (fo .add .f64 A (fo .mul .f64 B (fo .quo .f64 D C))) (fo .add .f64 C (fo .mul .f64 (fo .quo .f64 D C) D)),
     fo .quo .f64 (fo .sub .f64 B (fo .mul .f64 A (fo .quo .f64 D C))) (fo .add .f64 C (fo .mul .f64 (fo .quo .f64 D C) D)))
  else
    (fo .quo .f64 (fo .add .f64 (fo .mul .f64 A (fo .quo .f64 C D)) B) (fo .add .f64 D (fo .mul .f64 (fo .quo .f64 C D) C)),
     fo .quo .f64 (fo .sub .f64 (fo .mul .f64 B (fo .quo .f64 C D)) A) (fo .add .f64 D (fo .mul .f64 (fo .quo .f64 C D) C)))
theorem isInf_fin {x : Nat} (h : isFinD x = true) : Op.Complex.isInf x = false := by
  have hf := of_decide_eq_true h
  show (double.read x).isInfinity = false
  rw [reads_fin double hf]; rfl
theorem run_ccmp0 {P : Program} (w : World) (x : Nat) : (Op.Complex.cmp .eql .f64 x 0).run P w = .ok (eqW double x 0) w := by
  rw [← eq64]
  simp [Op.Complex.cmp, Op.floatCmp, asBool]
theorem run_quot {P : Program} {a b c d : Nat} (fa : isFinD a = true) (fb : isFinD b = true) (fc : isFinD c = true) (fd : isFinD d = true)
    (hz : (eqW double c 0 && eqW double d 0) = false) (w : World) :
    ∃ e f n, ((Lit.float .f64 e).wf = true ∧ (Lit.float .f64 f).wf = true) ∧ (can .f64 e = (quoO a b c d).1 ∧ can .f64 f = (quoO a b c d).2) ∧ (Op.Complex.quotient a b c d).run P w = .ok (e, f) (w.drewN n) := by
  have ia := isInf_fin fa
  have ib := isInf_fin fb
  have ic := isInf_fin fc
  have id' := isInf_fin fd
  have z1 := fun w => run_ccmp0 (P := P) w c
  have z2 := fun w => run_ccmp0 (P := P) w d
  have gq := fun w => run_ccmp_geq (P := P) w c d
  cases hge : absGe c d
  · obtain ⟨t, n1, w1, c1, k1⟩ := run_arith (P := P) .quo hQuo c d w
    obtain ⟨r, n2, w2, c2, k2⟩ := run_arith (P := P) .mul hMul t c (w.drewN n1)
    obtain ⟨D, n3, w3, c3, k3⟩ := run_arith (P := P) .add hAdd d r ((w.drewN n1).drewN n2)
    obtain ⟨p, n4, w4, c4, k4⟩ := run_arith (P := P) .mul hMul a t (((w.drewN n1).drewN n2).drewN n3)
    obtain ⟨q, n5, w5, c5, k5⟩ := run_arith (P := P) .add hAdd p b ((((w.drewN n1).drewN n2).drewN n3).drewN n4)
    obtain ⟨e, n6, w6, c6, k6⟩ := run_arith (P := P) .quo hQuo q D (((((w.drewN n1).drewN n2).drewN n3).drewN n4).drewN n5)
    obtain ⟨u, n7, w7, c7, k7⟩ := run_arith (P := P) .mul hMul b t ((((((w.drewN n1).drewN n2).drewN n3).drewN n4).drewN n5).drewN n6)
    obtain ⟨v, n8, w8, c8, k8⟩ := run_arith (P := P) .sub hSub u a (((((((w.drewN n1).drewN n2).drewN n3).drewN n4).drewN n5).drewN n6).drewN n7)
    obtain ⟨f, n9, w9, c9, k9⟩ := run_arith (P := P) .quo hQuo v D ((((((((w.drewN n1).drewN n2).drewN n3).drewN n4).drewN n5).drewN n6).drewN n7).drewN n8)
    refine ⟨e, f, n1 + n2 + n3 + n4 + n5 + n6 + n7 + n8 + n9, ⟨w6, w9⟩, ⟨?_, ?_⟩, ?_⟩
    · unfold quoO; simp only [hge, Bool.false_eq_true, if_false]; rw [c6, c5, c4, c3, c2, c1]
    · unfold quoO; simp only [hge, Bool.false_eq_true, if_false]; rw [c9, c8, c7, c3, c2, c1]
    · unfold Op.Complex.quotient
      simp only [Sem.run_bind, gq, hge, Result.andThen_ok, Bool.false_eq_true, if_false, Op.Complex.mul, Op.Complex.sub, Op.Complex.add, Op.Complex.quo, k1, k2, k3, k4, k5, k6, k7, k8, k9, Sem.run_pure, z1, z2, hz, ia, ib, ic, id', Bool.false_and, Bool.or_self]
      split <;> simp [World.drewN_drewN, Nat.add_assoc]
  · obtain ⟨t, n1, w1, c1, k1⟩ := run_arith (P := P) .quo hQuo d c w
    obtain ⟨r, n2, w2, c2, k2⟩ := run_arith (P := P) .mul hMul t d (w.drewN n1)
    obtain ⟨D, n3, w3, c3, k3⟩ := run_arith (P := P) .add hAdd c r ((w.drewN n1).drewN n2)
    obtain ⟨p, n4, w4, c4, k4⟩ := run_arith (P := P) .mul hMul b t (((w.drewN n1).drewN n2).drewN n3)
    obtain ⟨q, n5, w5, c5, k5⟩ := run_arith (P := P) .add hAdd a p ((((w.drewN n1).drewN n2).drewN n3).drewN n4)
    obtain ⟨e, n6, w6, c6, k6⟩ := run_arith (P := P) .quo hQuo q D (((((w.drewN n1).drewN n2).drewN n3).drewN n4).drewN n5)
    obtain ⟨u, n7, w7, c7, k7⟩ := run_arith (P := P) .mul hMul a t ((((((w.drewN n1).drewN n2).drewN n3).drewN n4).drewN n5).drewN n6)
    obtain ⟨v, n8, w8, c8, k8⟩ := run_arith (P := P) .sub hSub b u (((((((w.drewN n1).drewN n2).drewN n3).drewN n4).drewN n5).drewN n6).drewN n7)
    obtain ⟨f, n9, w9, c9, k9⟩ := run_arith (P := P) .quo hQuo v D ((((((((w.drewN n1).drewN n2).drewN n3).drewN n4).drewN n5).drewN n6).drewN n7).drewN n8)
    refine ⟨e, f, n1 + n2 + n3 + n4 + n5 + n6 + n7 + n8 + n9, ⟨w6, w9⟩, ⟨?_, ?_⟩, ?_⟩
    · unfold quoO; simp only [hge, if_true]; rw [c6, c5, c4, c3, c2, c1]
    · unfold quoO; simp only [hge, if_true]; rw [c9, c8, c7, c3, c2, c1]
    · unfold Op.Complex.quotient
      simp only [Sem.run_bind, gq, hge, Result.andThen_ok, if_true, Op.Complex.mul, Op.Complex.sub, Op.Complex.add, Op.Complex.quo, k1, k2, k3, k4, k5, k6, k7, k8, k9, Sem.run_pure, z1, z2, hz, ia, ib, ic, id', Bool.false_and, Bool.or_self]
      split <;> simp [World.drewN_drewN, Nat.add_assoc]
theorem run_cquo64 {P : Program} {a b c d : Nat} (fa : isFinD a = true) (fb : isFinD b = true) (fc : isFinD c = true) (fd : isFinD d = true)
    (hz : (eqW double c 0 && eqW double d 0) = false) (t : TypeId) (w : World) :
    ∃ e f n, ((Lit.float .f64 e).wf = true ∧ (Lit.float .f64 f).wf = true) ∧ (can .f64 e = (quoO a b c d).1 ∧ can .f64 f = (quoO a b c d).2) ∧ (binOp .quo t (.complex .f64 a b) (.complex .f64 c d)).run P w = .ok (.complex .f64 e f) (w.drewN n) := by
  obtain ⟨e, f, n, h1, h2, h3⟩ := run_quot (P := P) fa fb fc fd hz w
  refine ⟨e, f, n, h1, h2, ?_⟩
  simp [binOp, Op.complexOp, Op.Complex.conv, h3]
/-! of a number and itself -/
theorem mg_oneD : mg double 4607182418800017408 = 2 ^ (W + 149) := mg_const (by decide) (by decide) (by decide)
theorem rung_one : rung double 4607182418800017408 = 4607182418800017408 := by decide
theorem sgn_one : sgn double 4607182418800017408 = false := by decide
theorem lam_double : lam double = W + 149 := by decide
theorem quo_self (n : Nat) : floatBits .quo .f64 n n = none ∨ floatBits .quo .f64 n n = some 4607182418800017408 := by
  by_cases hn : isNaN double n = true
  · exact .inl (bits_nan_left (k := .f64) hQuo n hn)
  by_cases hi : isFinD n = true
  · have hf := of_decide_eq_true hi
    by_cases h0 : rung double n = 0
    · left
      show double.div n n = none
      unfold Format.div
      have hs0 : ss double (rung double n) = 0 := by rw [h0]; decide
      rw [reads_fin double hf, hs0]; rfl
    · right
      show double.div n n = some _
      rw [div_rr double (by decide) hf hf h0, Bool.xor_self]
      have hp : 0 < mg double (rung double n) := Nat.pos_of_ne_zero fun e => h0 ((mg_eq_zero double).1 e)
      have e1 : rr double (mg double (rung double n) * 2 ^ lam double) (mg double (rung double n)) = 4607182418800017408 :=
        rr_exact double _ hp (by rw [mg_oneD, lam_double, Nat.mul_comm])
      unfold quoRung
      rw [e1, inf_double, word_false]; rfl
  · left
    have hi' : isFinD n = false := by cases e : isFinD n; rfl; exact absurd e hi
    have hf := of_decide_eq_false hi'
    have hn' := of_decide_eq_false (by cases e : isNaN double n; rfl; exact absurd e hn : isNaN double n = false)
    show double.div n n = none
    unfold Format.div
    rcases reads double hd n with ⟨m, e, hr, _, h'⟩ | ⟨hr, h'⟩ | ⟨t, hr, h'⟩
    · omega
    · rw [h']; rfl
    · omega
theorem fo_self (o : Option Nat) : fo .quo .f64 o o = none ∨ fo .quo .f64 o o = some 4607182418800017408 := by
  cases o with
  | none => exact .inl rfl
  | some n => exact quo_self n
/-- the real part of the quotient of a number and itself -/
theorem quoO_self (a b : Nat) : (quoO a b a b).1 = none ∨ (quoO a b a b).1 = some 4607182418800017408 := by
  unfold quoO
  simp only
  split
  · rw [fo_mul_comm .f64 (can .f64 b)]; exact fo_self _
  · rw [fo_add_comm .f64 (can .f64 b), fo_mul_comm .f64 (can .f64 a)]; exact fo_self _
/-! of a number and 1 -/
theorem rung_word0 (s : Bool) : rung double (double.word s 0) = 0 := rung_word double s (Nat.two_pow_pos _)
theorem mul_zero {a : Nat} (fa : isFinD a = true) : ∃ s, floatBits .mul .f64 a 0 = some (double.word s 0) := by
  have hf := of_decide_eq_true fa
  refine ⟨sgn double a ^^ sgn double 0, ?_⟩
  show double.mul a 0 = _
  rw [mul_rr double (by decide) hf (by rw [rung_zero]; decide)]
  unfold mulRung
  rw [rung_zero, mg_zero, Nat.mul_zero, rr_zero double (Nat.two_pow_pos _), Nat.zero_min]
theorem read_word0 (s : Bool) : double.read (double.word s 0) = .number s 0 double.leastPlace := by cases s <;> decide
theorem sgn_total (S t : Bool) (M : Nat) (h : M ≠ 0) : (if (if S = true then -(M : Int) else (M : Int)) = 0 then (S && t) else decide ((if S = true then -(M : Int) else (M : Int)) < 0)) = S := by
  cases S
  · simp only [Bool.false_eq_true, if_false]
    rw [if_neg (by omega)]; exact decide_eq_false (by omega)
  · simp only [if_true]
    rw [if_neg (by omega)]; exact decide_eq_true (by omega)
/-- a finite number and a zero -/
theorem sum_zero {a : Nat} (fa : isFinD a = true) (t : Bool) : ∃ r, ((double.read a).sum (.number t 0 double.leastPlace)).map double.write = some r ∧ isFinD r = true ∧ sv double r = sv double a := by
  have hf := of_decide_eq_true fa
  have hl := inf_lt double
  rw [reads_fin double hf]
  refine ⟨_, rfl, ?_⟩
  rw [write_num, show min (double.leastPlace + (qq double (rung double a) : Int)) double.leastPlace = double.leastPlace by omega]
  rw [show (double.leastPlace + (qq double (rung double a) : Int) - double.leastPlace).toNat = qq double (rung double a) by omega, Int.sub_self, Int.toNat_zero]
  rw [signed_eq, signed_eq, ← mg_ss, Nat.zero_mul]
  have e0 : (if t = true then -((0 : Nat) : Int) else ((0 : Nat) : Int)) = 0 := by cases t <;> rfl
  rw [e0, Int.add_zero]
  have hN : ∀ s, double.nearest s (mg double (rung double a)) double.leastPlace = double.word s (rung double a) := fun s =>
    nearest_exact double s _ _ _ (Nat.le_of_lt hf) (by rw [Int.sub_self])
  have hr : rung double a < double.signWeight := by omega
  have hab : (if sgn double a = true then -((mg double (rung double a) : Nat) : Int) else ((mg double (rung double a) : Nat) : Int)).natAbs = mg double (rung double a) := by
    split <;> omega
  rw [hab]
  constructor
  · rw [hN]
    unfold isFinD; rw [rung_word double _ hr]; exact decide_eq_true hf
  · rw [hN]
    by_cases h0 : rung double a = 0
    · rw [(sv_eq_zero double).2 (by rw [rung_word double _ hr]; exact h0), (sv_eq_zero double).2 h0]
    · have hm : mg double (rung double a) ≠ 0 := fun e => h0 ((mg_eq_zero double).1 e)
      unfold sv
      rw [sgn_word double _ hr, rung_word double _ hr, sgn_total _ _ _ hm]
theorem quo_one {x : Nat} (wx : x < 18446744073709551616) (fx : isFinD x = true) : floatBits .quo .f64 x 4607182418800017408 = some x := by
  have hf := of_decide_eq_true fx
  show double.div x _ = some x
  rw [div_rr double (by decide) hf (by rw [rung_one, inf_double]; decide) (by rw [rung_one]; decide), rung_one, sgn_one, Bool.xor_false]
  unfold quoRung
  rw [rr_exact double (rung double x) (by rw [mg_oneD]; exact Nat.two_pow_pos _) (by rw [mg_oneD, lam_double]), Nat.min_eq_left (Nat.le_of_lt hf)]
  rw [← word_eq double (by rw [width_double]; exact wx)]
theorem fin_can {x : Nat} (fx : isFinD x = true) : can .f64 x = some x := by
  refine can_num (k := .f64) ?_
  cases h : isNaN double x
  · exact h
  · rw [isFin_nan h] at fx; cases fx
theorem bits_lt {op : BinOp} {x y r : Nat} (h : floatBits op .f64 x y = some r) : r < 18446744073709551616 := lt_double (floatBits_wf h)
theorem absGe_one : absGe 4607182418800017408 0 = true := by decide +kernel
theorem ratio_one : fo .quo .f64 (can .f64 0) (can .f64 4607182418800017408) = some 0 := by decide +kernel
theorem denom_one : fo .add .f64 (can .f64 4607182418800017408) (fo .mul .f64 (some 0) (can .f64 0)) = some 4607182418800017408 := by decide +kernel
/-- the quotient of a finite number and 1 equals it -/
theorem quoO_one {a b : Nat} (fa : isFinD a = true) (fb : isFinD b = true) :
    ∃ x y, quoO a b 4607182418800017408 0 = (some x, some y) ∧ (isFinD x = true ∧ isFinD y = true) ∧ sv double x = sv double a ∧ sv double y = sv double b := by
  obtain ⟨s, hs⟩ := mul_zero fb
  obtain ⟨t, ht⟩ := mul_zero fa
  obtain ⟨x, hx, fx, sx⟩ := sum_zero fa s
  obtain ⟨y, hy, fy, sy⟩ := sum_zero fb (!t)
  have ex : floatBits .add .f64 a (double.word s 0) = some x := by rw [← read_word0] at hx; exact hx
  have ey : floatBits .sub .f64 b (double.word t 0) = some y := by
    show ((double.read b).sum (double.read (double.word t 0)).opposite).map double.write = some y
    rw [read_word0]; exact hy
  refine ⟨x, y, ?_, ⟨fx, fy⟩, sx, sy⟩
  unfold quoO
  simp only [absGe_one, if_true]
  rw [ratio_one, denom_one, fin_can fa, fin_can fb]
  have e1 : fo .mul .f64 (some b) (some 0) = some (double.word s 0) := hs
  have e2 : fo .mul .f64 (some a) (some 0) = some (double.word t 0) := ht
  rw [e1, e2]
  have e3 : fo .add .f64 (some a) (some (double.word s 0)) = some x := ex
  have e4 : fo .sub .f64 (some b) (some (double.word t 0)) = some y := ey
  rw [e3, e4]
  exact Prod.ext (quo_one (bits_lt ex) fx) (quo_one (bits_lt ey) fy)
end Go.Proofs.YtlngplohnknhjaaGreatDoor.Flt

/- Expressions as trees and as lists of nodes: which are valid, how many operands wait, what they evaluate to. No program stands here. -/
namespace Go.Proofs.YtlngplohnknhjaaGreatDoor.Ex
open Go.RowKit Go.Proofs.YtlngplohnknhjaaGreatDoor Go.Proofs.YtlngplohnknhjaaGreatDoor.Flt
open Ieee (double single)
set_option linter.unusedVariables false
abbrev ng (x : Nat) : Nat := Op.negFloat .f64 x
def isZ (x y : Nat) : Bool := eqW double x 0 && eqW double y 0
/-- a finite number, or none -/
def finO (o : Option Nat) : Bool := match o with | none => false | some r => isFinD r
theorem finO_can (r : Nat) : finO (can .f64 r) = isFinD r := by
  cases h : isNaN FloatKind.f64.format r
  · rw [can_num h]; rfl
  · rw [can_nan h]; exact (isFin_nan h).symm
theorem ng_lt {x : Nat} (h : x < 18446744073709551616) : ng x < 18446744073709551616 := by
  have := neg_lt .f64 (w := x) (by rw [show FloatKind.f64.format = Ieee.double from rfl, width_double]; exact h)
  rw [show FloatKind.f64.format = Ieee.double from rfl, width_double] at this; exact this
/-- a node -/
structure Nd where
  k : Int
  s : Int
  x : Nat
  y : Nat
def Nd.c (n : Nd) : Array Value := #[.int .i64 n.k, .int .i64 n.s, .complex .f64 n.x n.y]
/-- what may be a number's value -/
def NV (x y : Nat) : Prop := ∃ f, f < 2139095040 ∧ ((x = widen f ∧ y = 0) ∨ (x = 0 ∧ y = widen f ∧ f ≠ 0))
/-- how many operands -/
def ar (k : Int) : Nat := if k ≤ 2 then 0 else if k ≤ 7 then 1 else 2
def Nd.ok (n : Nd) : Prop := (n.k = 1 ∧ n.s = 0 ∧ NV n.x n.y) ∨ (n.k = 2 ∧ (0 ≤ n.s ∧ n.s ≤ 9) ∧ n.x = 0 ∧ n.y = 0) ∨ ((3 ≤ n.k ∧ n.k ≤ 12) ∧ n.s = 0 ∧ n.x = 0 ∧ n.y = 0)
/-- the value of 1 -/
def one64 : Nat := 4607182418800017408
/-- both parts of what a node with operands makes -/
def opO (k : Int) (a b : Nat × Nat) : Option Nat × Option Nat :=
  if k = 3 then (can .f64 a.1, can .f64 a.2)
  else if k = 4 then (can .f64 (ng a.1), can .f64 (ng a.2))
  else if k = 5 then (can .f64 a.1, can .f64 (ng a.2))
  else if k = 6 then (can .f64 a.1, some 0)
  else if k = 7 then (can .f64 a.2, some 0)
  else if k = 8 then (fo .add .f64 (can .f64 a.1) (can .f64 b.1), fo .add .f64 (can .f64 a.2) (can .f64 b.2))
  else if k = 9 then (fo .sub .f64 (can .f64 a.1) (can .f64 b.1), fo .sub .f64 (can .f64 a.2) (can .f64 b.2))
  else if k = 10 then (fo .sub .f64 (fo .mul .f64 (can .f64 a.1) (can .f64 b.1)) (fo .mul .f64 (can .f64 a.2) (can .f64 b.2)), fo .add .f64 (fo .mul .f64 (can .f64 a.1) (can .f64 b.2)) (fo .mul .f64 (can .f64 a.2) (can .f64 b.1)))
  else if k = 11 then (if isZ b.1 b.2 = true then (none, none) else quoO a.1 a.2 b.1 b.2)
  else (if (eqW double a.1 b.1 && eqW double a.2 b.2) = true then some one64 else some 0, some 0)
/-- a value, if both parts are finite -/
def res (o : Option Nat × Option Nat) : Option (Nat × Nat) := if (finO o.1 && finO o.2) = true then some (o.1.getD 0, o.2.getD 0) else none
/-- a slot's value -/
def slotV (sl : List (Nat × Nat)) (s : Int) : Option (Nat × Nat) := match sl[s.toNat]? with | some z => if (isFinD z.1 && isFinD z.2) = true then some z else none | none => none
/-- a node's value over the values that wait -/
def nodeV (sl : List (Nat × Nat)) (n : Nd) (st : List (Nat × Nat)) : Option (Nat × Nat) :=
  if n.k = 1 then some (n.x, n.y)
  else if n.k = 2 then slotV sl n.s
  else if n.k ≤ 7 then res (opO n.k (st.getD 0 (0, 0)) (0, 0))
  else res (opO n.k (st.getD 1 (0, 0)) (st.getD 0 (0, 0)))
/-- a list's value -/
def evL (sl : List (Nat × Nat)) : List Nd → List (Nat × Nat) → Option (Nat × Nat)
  | [], st => st.head?
  | n :: r, st => match nodeV sl n st with
    | none => none
    | some v => evL sl r (v :: st.drop (ar n.k))
/-- how many operands wait behind a list -/
def wt : Nat → List Nd → Option Nat
  | h, [] => some h
  | h, n :: r => if ar n.k ≤ h then wt (h - ar n.k + 1) r else none
/-! trees -/
inductive Tr where
  | leaf (n : Nd)
  | un (k : Int) (t : Tr)
  | bin (k : Int) (a b : Tr)
def opN (k : Int) : Nd := ⟨k, 0, 0, 0⟩
def Tr.ok : Tr → Prop
  | leaf n => n.ok ∧ n.k ≤ 2
  | un k t => (3 ≤ k ∧ k ≤ 7) ∧ t.ok
  | bin k a b => (8 ≤ k ∧ k ≤ 12) ∧ a.ok ∧ b.ok
def pf : Tr → List Nd
  | .leaf n => [n]
  | .un k t => pf t ++ [opN k]
  | .bin k a b => pf a ++ (pf b ++ [opN k])
def evT (sl : List (Nat × Nat)) : Tr → Option (Nat × Nat)
  | .leaf n => nodeV sl n []
  | .un k t => match evT sl t with
    | none => none
    | some a => res (opO k a (0, 0))
  | .bin k a b => match evT sl a with
    | none => none
    | some u => match evT sl b with
      | none => none
      | some v => res (opO k u v)
theorem ar_leaf {k : Int} (h : k ≤ 2) : ar k = 0 := if_pos h
theorem ar_un {k : Int} (h : 3 ≤ k ∧ k ≤ 7) : ar k = 1 := by unfold ar; rw [if_neg (by omega), if_pos h.2]
theorem ar_bin {k : Int} (h : 8 ≤ k ∧ k ≤ 12) : ar k = 2 := by unfold ar; rw [if_neg (by omega), if_neg (by omega)]
theorem nodeV_leaf {sl : List (Nat × Nat)} {n : Nd} (h : n.ok) (hk : n.k ≤ 2) (st : List (Nat × Nat)) : nodeV sl n st = nodeV sl n [] := by
  unfold nodeV
  rcases h with h | h | h
  · rw [if_pos h.1, if_pos h.1]
  · rw [if_neg (show ¬ n.k = 1 by omega), if_neg (show ¬ n.k = 1 by omega), if_pos h.1, if_pos h.1]
  · omega
theorem nodeV_un {sl : List (Nat × Nat)} {k : Int} (h : 3 ≤ k ∧ k ≤ 7) (a : Nat × Nat) (st : List (Nat × Nat)) : nodeV sl (opN k) (a :: st) = res (opO k a (0, 0)) := by
  unfold nodeV opN
  rw [if_neg (by show ¬ k = 1; omega), if_neg (by show ¬ k = 2; omega), if_pos h.2]; rfl
theorem nodeV_bin {sl : List (Nat × Nat)} {k : Int} (h : 8 ≤ k ∧ k ≤ 12) (a b : Nat × Nat) (st : List (Nat × Nat)) : nodeV sl (opN k) (b :: a :: st) = res (opO k a b) := by
  unfold nodeV opN
  rw [if_neg (by show ¬ k = 1; omega), if_neg (by show ¬ k = 2; omega), if_neg (by show ¬ k ≤ 7; omega)]; rfl
theorem evL_pf (sl : List (Nat × Nat)) : ∀ (t : Tr) (r : List Nd) (st : List (Nat × Nat)), t.ok → evL sl (pf t ++ r) st = match evT sl t with | none => none | some v => evL sl r (v :: st)
  | .leaf n, r, st, h => by
    show (match nodeV sl n st with | none => none | some v => evL sl r (v :: st.drop (ar n.k))) = _
    rw [nodeV_leaf h.1 h.2, ar_leaf h.2]; rfl
  | .un k t, r, st, h => by
    have hk := h.1
    rw [show pf (.un k t) ++ r = pf t ++ (opN k :: r) by simp [pf], evL_pf sl t _ st h.2]
    show _ = match (match evT sl t with | none => none | some a => res (opO k a (0, 0))) with | none => none | some v => evL sl r (v :: st)
    cases evT sl t with
    | none => rfl
    | some a =>
      show (match nodeV sl (opN k) (a :: st) with | none => none | some v => evL sl r (v :: (a :: st).drop (ar k))) = _
      rw [nodeV_un hk, ar_un hk]; rfl
  | .bin k a b, r, st, h => by
    have hk := h.1
    rw [show pf (.bin k a b) ++ r = pf a ++ (pf b ++ (opN k :: r)) by simp [pf], evL_pf sl a _ st h.2.1]
    show _ = match (match evT sl a with | none => none | some u => match evT sl b with | none => none | some v => res (opO k u v)) with | none => none | some v => evL sl r (v :: st)
    cases evT sl a with
    | none => rfl
    | some u =>
      simp only
      rw [evL_pf sl b _ _ h.2.2]
      cases evT sl b with
      | none => rfl
      | some v =>
        show (match nodeV sl (opN k) (v :: u :: st) with | none => none | some z => evL sl r (z :: (v :: u :: st).drop (ar k))) = _
        rw [nodeV_bin hk, ar_bin hk]; rfl
theorem evL_tree (sl : List (Nat × Nat)) {t : Tr} (h : t.ok) : evL sl (pf t) [] = evT sl t := by
  have := evL_pf sl t [] [] h
  rw [List.append_nil] at this
  rw [this]
  cases evT sl t <;> rfl
theorem wt_pf : ∀ (t : Tr) (r : List Nd) (h : Nat), t.ok → wt h (pf t ++ r) = wt (h + 1) r
  | .leaf n, r, h, o => by
    show (if ar n.k ≤ h then wt (h - ar n.k + 1) r else none) = _
    rw [ar_leaf o.2, if_pos (Nat.zero_le _)]; rfl
  | .un k t, r, h, o => by
    rw [show pf (.un k t) ++ r = pf t ++ (opN k :: r) by simp [pf], wt_pf t _ h o.2]
    show (if ar k ≤ h + 1 then wt (h + 1 - ar k + 1) r else none) = _
    rw [ar_un o.1, if_pos (by omega)]; rfl
  | .bin k a b, r, h, o => by
    rw [show pf (.bin k a b) ++ r = pf a ++ (pf b ++ (opN k :: r)) by simp [pf], wt_pf a _ h o.2.1, wt_pf b _ _ o.2.2]
    show (if ar k ≤ h + 1 + 1 then wt (h + 1 + 1 - ar k + 1) r else none) = _
    rw [ar_bin o.1, if_pos (by omega)]; rfl
theorem wt_tree {t : Tr} (h : t.ok) : wt 0 (pf t) = some 1 := by
  have := wt_pf t [] 0 h
  rw [List.append_nil] at this
  rw [this]; rfl
theorem opN_ok {k : Int} (h : 3 ≤ k ∧ k ≤ 12) : (opN k).ok := .inr (.inr ⟨h, rfl, rfl, rfl⟩)
theorem pf_ok : ∀ (t : Tr), t.ok → ∀ n ∈ pf t, n.ok
  | .leaf n, h, m, hm => by
    obtain rfl : m = n := by simpa [pf] using hm
    exact h.1
  | .un k t, h, m, hm => by
    have hk := h.1
    rcases List.mem_append.1 hm with h1 | h1
    · exact pf_ok t h.2 m h1
    · obtain rfl : m = opN k := by simpa using h1
      exact opN_ok (by omega)
  | .bin k a b, h, m, hm => by
    have hk := h.1
    rcases List.mem_append.1 hm with h1 | h1
    · exact pf_ok a h.2.1 m h1
    · rcases List.mem_append.1 h1 with h1 | h1
      · exact pf_ok b h.2.2 m h1
      · obtain rfl : m = opN k := by simpa using h1
        exact opN_ok (by omega)
theorem pf_pos : ∀ t : Tr, 1 ≤ (pf t).length
  | .leaf n => Nat.le_refl _
  | .un k t => by simp [pf]
  | .bin k a b => by simp [pf]; omega
/-- a valid expression: the list's nodes, and what waits -/
structure Valid (xs : List Nd) : Prop where
  ok : ∀ n ∈ xs, n.ok
  wt : wt 0 xs = some 1
  len : xs.length ≤ 60
theorem Valid.tree {t : Tr} (h : t.ok) (hl : (pf t).length ≤ 60) : Valid (pf t) := ⟨pf_ok t h, wt_tree h, hl⟩
end Go.Proofs.YtlngplohnknhjaaGreatDoor.Ex

/- What the contracts on floats import; and a word's sign. No function of package math is named here. -/
namespace Go.Proofs.YtlngplohnknhjaaGreatDoor.Mth
open Go.ChangeShapes Go.WideShapes Go.ChangeAt Go.RowKit Go.Proofs.YtlngplohnknhjaaGreatDoor Go.Proofs.YtlngplohnknhjaaGreatDoor.Flt
theorem sgn_iff (a : Nat) (ha : a < 18446744073709551616) : sgn Ieee.double a = decide (9223372036854775808 ≤ a) := by
  unfold sgn
  rw [sw_double]
  by_cases h : 9223372036854775808 ≤ a
  · have : a / 9223372036854775808 = 1 := by omega
    rw [this]; simp [h]
  · have : a / 9223372036854775808 = 0 := by omega
    rw [this]; simp [h]
end Go.Proofs.YtlngplohnknhjaaGreatDoor.Mth

/- Contracts of package math's small functions: IsNaN, Float64bits. -/
namespace Go.Proofs.YtlngplohnknhjaaGreatDoor.Mth
open Go.ChangeShapes Go.WideShapes Go.ChangeAt Go.RowKit Go.Proofs.YtlngplohnknhjaaGreatDoor Go.Proofs.YtlngplohnknhjaaGreatDoor.Flt
theorem isNaN_any (a : Nat) (w : World) :
    Calls Tryz.prog 88 #[.float .f64 a] w fun e w' => e = .returned (.bool (isNaN Ieee.double a)) ∧ w' = w := by
  have h : (FloatKind.f64.format.order a a != some .eq) = isNaN Ieee.double a := by
    show (Ieee.double.order a a != some .eq) = _
    rw [order_self Ieee.double hd]; cases isNaN Ieee.double a <;> rfl
  go_enter Tryz.func88, Tryz.ntmps88
  go_wp2
  go_ret
  exact ⟨rfl, rfl⟩
theorem run_float64bits (a : Nat) (w : World) : (callFunc 113 #[.float .f64 a]).run Tryz.prog w = .ok (.value (.int .u64 (a : Int))) w := by
  rw [run_callFunc_extern (e := Extern.MathFloatBits.float64bits) Tryz.func113 (by kernel_rfl) (by kernel_rfl) (by kernel_rfl) (by kernel_rfl)]
  rfl
end Go.Proofs.YtlngplohnknhjaaGreatDoor.Mth
