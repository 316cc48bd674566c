/- Floats that may be NaN: what an operation gives, as an option (none: some NaN); operands exchanged, signs turned. -/
import Derived.Test.YtkjjeccgmeiniaaFltV
import Derived.Test.YtkjjeccgmeiniaaFltG
import Derived.Test.YtkjjeccgmeiniaaFltQ
namespace Go.Proofs.Ytkjjeccgmeiniaa.Flt
open Ieee Go.RowKit

theorem hk (k : FloatKind) : 1 ≤ k.format.exponentBits := by cases k <;> decide
/-- how a datum is read off sign and rung -/
def rd (f : Format) (s : Bool) (r : Nat) : Datum :=
  if r < f.binade then .number s r f.leastPlace
  else if r < f.infRung then .number s (f.binade + r % f.binade) (f.leastPlace + (r / f.binade - 1 : Nat))
  else if r = f.infRung then .infinity s else .nan s (r - f.infRung)
theorem read_rd (f : Format) (w : Nat) : f.read w = rd f (sgn f w) (rung f w) := rfl
theorem rd_opp (f : Format) (s : Bool) (r : Nat) : rd f (!s) r = (rd f s r).opposite := by
  unfold rd
  split
  · rfl
  · split
    · rfl
    · split <;> rfl
theorem read_neg (k : FloatKind) {w : Nat} (h : w < 2 ^ k.format.width) : k.format.read (Op.negFloat k w) = (k.format.read w).opposite := by
  rw [read_rd, sgn_neg k h, rung_neg k h, rd_opp]; rfl
theorem read_nan {f : Format} (hf : 1 ≤ f.exponentBits) {w : Nat} (h : isNaN f w = true) : ∃ s t, f.read w = .nan s t := by
  have h := of_decide_eq_true h
  rcases reads f hf w with ⟨m, e, hr, _, _⟩ | ⟨hr, _⟩ | ⟨t, hr, h'⟩
  · omega
  · omega
  · exact ⟨_, _, h'⟩
theorem read_num {f : Format} (hf : 1 ≤ f.exponentBits) {w : Nat} (h : isNaN f w = false) : (f.read w).isNaN = false := by
  have h := of_decide_eq_false h
  rcases reads f hf w with ⟨m, e, hr, _, h'⟩ | ⟨hr, h'⟩ | ⟨t, hr, h'⟩
  · rw [h']; rfl
  · rw [h']; rfl
  · omega
/-! on data -/
theorem sum_comm (d e : Datum) : d.sum e = e.sum d := by
  cases d with
  | number s m i =>
    cases e with
    | number t n j =>
      simp only [Datum.sum]
      rw [Int.min_comm i j, Int.add_comm (signed s m _), Bool.and_comm s t]
    | infinity t => rfl
    | nan t n => rfl
  | infinity s =>
    cases e with
    | number t n j => rfl
    | infinity t =>
      simp only [Datum.sum]
      by_cases h : s = t
      · rw [h]
      · rw [if_neg h, if_neg (Ne.symm h)]
    | nan t n => rfl
  | nan s m => cases e <;> rfl
theorem product_comm (d e : Datum) : d.product e = e.product d := by
  cases d with
  | number s m i =>
    cases e with
    | number t n j => simp only [Datum.product]; rw [Bool.xor_comm s t, Nat.mul_comm m n, Int.add_comm i j]
    | infinity t => rfl
    | nan t n => rfl
  | infinity s =>
    cases e with
    | number t n j => rfl
    | infinity t => simp only [Datum.product]; rw [Bool.xor_comm s t]
    | nan t n => rfl
  | nan s m => cases e <;> rfl
theorem product_opp (d e : Datum) : d.opposite.product e.opposite = d.product e := by
  cases d <;> cases e <;> simp [Datum.opposite, Datum.product]
theorem sum_num {d e r : Datum} (h : d.sum e = some r) : r.isNaN = false := by
  cases d <;> cases e <;> simp only [Datum.sum] at h <;> first | (cases h; done) | (cases h; rfl) | (split at h <;> first | (cases h; rfl) | cases h)
theorem product_num' {d e r : Datum} (h : d.product e = some r) : r.isNaN = false := by
  cases d <;> cases e <;> simp only [Datum.product] at h <;> first | (cases h; done) | (cases h; rfl) | (split at h <;> first | (cases h; rfl) | cases h)
theorem quotient_num {n : Nat} {d e r : Datum} (h : d.quotient n e = some r) : r.isNaN = false := by
  cases d <;> cases e <;> simp only [Datum.quotient] at h
  all_goals first
    | (cases h; done)
    | (cases h; rfl)
    | (split at h
       · split at h
         · cases h
         · cases h; rfl
       · cases h; rfl)
/-! on words -/
/-- its bits, or none of a NaN -/
def can (k : FloatKind) (r : Nat) : Option Nat := if isNaN k.format r = true then none else some r
def fo (op : BinOp) (k : FloatKind) (a b : Option Nat) : Option Nat := a.bind fun x => b.bind fun y => floatBits op k x y
theorem can_nan {k : FloatKind} {r : Nat} (h : isNaN k.format r = true) : can k r = none := by unfold can; rw [if_pos h]
theorem can_num {k : FloatKind} {r : Nat} (h : isNaN k.format r = false) : can k r = some r := by unfold can; rw [if_neg (by rw [h]; exact Bool.false_ne_true)]
theorem can_some {k : FloatKind} {r s : Nat} (h : can k r = some s) : r = s ∧ isNaN k.format s = false := by
  cases hn : isNaN k.format r
  · rw [can_num hn] at h; cases h; exact ⟨rfl, hn⟩
  · rw [can_nan hn] at h; cases h
theorem can_none {k : FloatKind} {r : Nat} (h : can k r = none) : isNaN k.format r = true := by
  cases hn : isNaN k.format r
  · rw [can_num hn] at h; cases h
  · rfl
theorem bits_nan_left {op : BinOp} (hop : op = .add ∨ op = .sub ∨ op = .mul ∨ op = .quo) {k : FloatKind} {x : Nat} (y : Nat) (h : isNaN k.format x = true) : floatBits op k x y = none := by
  obtain ⟨s, t, e⟩ := read_nan (hk k) h
  rcases hop with rfl | rfl | rfl | rfl <;> simp only [floatBits, Format.add, Format.sub, Format.mul, Format.div, e] <;> rfl
theorem bits_nan_right {op : BinOp} (hop : op = .add ∨ op = .sub ∨ op = .mul ∨ op = .quo) {k : FloatKind} (x : Nat) {y : Nat} (h : isNaN k.format y = true) : floatBits op k x y = none := by
  obtain ⟨s, t, e⟩ := read_nan (hk k) h
  rcases hop with rfl | rfl | rfl | rfl <;> simp only [floatBits, Format.add, Format.sub, Format.mul, Format.div, e, Datum.opposite] <;> cases k.format.read x <;> rfl
theorem bits_num {op : BinOp} {k : FloatKind} {x y r : Nat} (h : floatBits op k x y = some r) : isNaN k.format r = false := by
  unfold floatBits at h
  cases op <;> simp only at h <;> try (cases h; done)
  all_goals
    simp only [Format.add, Format.sub, Format.mul, Format.div, Option.map_eq_some_iff] at h
    obtain ⟨d, hd', rfl⟩ := h
    refine write_nan _ _ ?_
    first | exact sum_num hd' | exact product_num' hd' | exact quotient_num hd'
theorem fo_can {op : BinOp} (hop : op = .add ∨ op = .sub ∨ op = .mul ∨ op = .quo) (k : FloatKind) (x y : Nat) : fo op k (can k x) (can k y) = floatBits op k x y := by
  cases hx : isNaN k.format x
  · cases hy : isNaN k.format y
    · rw [can_num hx, can_num hy]; rfl
    · rw [can_num hx, can_nan hy, bits_nan_right hop x hy]; rfl
  · rw [can_nan hx, bits_nan_left hop y hx]; rfl
/-- what an operation gives, at every world -/
theorem run_fo {P : Program} (op : BinOp) (hop : op = .add ∨ op = .sub ∨ op = .mul ∨ op = .quo) (t : TypeId) (k : FloatKind) (x y : Nat) (w : World) :
    ∃ r n, (Lit.float k r).wf = true ∧ can k r = fo op k (can k x) (can k y) ∧ (binOp op t (.float k x) (.float k y)).run P w = .ok (.float k r) (w.drewN n) := by
  obtain ⟨r, n, h1, h2, h3⟩ := run_float_any (P := P) op hop t k x y w
  refine ⟨r, n, h1, ?_, h3⟩
  rw [fo_can hop]
  rcases h2 with h2 | ⟨h2, h4⟩
  · rw [h2, can_num (bits_num h2)]
  · rw [h2, can_nan h4]
theorem fo_add_comm (k : FloatKind) (a b : Option Nat) : fo .add k a b = fo .add k b a := by
  cases a <;> cases b <;> try rfl
  rename_i x y
  show k.format.add x y = k.format.add y x
  unfold Format.add; rw [sum_comm]
theorem fo_mul_comm (k : FloatKind) (a b : Option Nat) : fo .mul k a b = fo .mul k b a := by
  cases a <;> cases b <;> try rfl
  rename_i x y
  show k.format.mul x y = k.format.mul y x
  unfold Format.mul; rw [product_comm]
theorem fo_mul_neg (k : FloatKind) {x y : Nat} (hx : x < 2 ^ k.format.width) (hy : y < 2 ^ k.format.width) :
    fo .mul k (can k (Op.negFloat k x)) (can k (Op.negFloat k y)) = fo .mul k (can k x) (can k y) := by
  rw [fo_can (.inr (.inr (.inl rfl))), fo_can (.inr (.inr (.inl rfl)))]
  show k.format.mul _ _ = k.format.mul _ _
  unfold Format.mul; rw [read_neg k hx, read_neg k hy, product_opp]
/-! the sign of what an operation gives -/
def pos (k : FloatKind) (o : Option Nat) : Bool := match o with | none => false | some r => decide (0 < sv k.format r)
def ngt (k : FloatKind) (o : Option Nat) : Bool := match o with | none => false | some r => decide (sv k.format r < 0)
theorem pos_can (k : FloatKind) (r : Nat) : (k.format.order r 0 == some .gt) = pos k (can k r) := by
  rw [order_gtW k.format (hk k)]
  unfold ltW
  cases h : isNaN k.format r
  · rw [can_num h, nan_zero, sv_zero]; simp [pos]
  · rw [can_nan h, nan_zero]; rfl
theorem ngt_can (k : FloatKind) (r : Nat) : (k.format.order r 0 == some .lt) = ngt k (can k r) := by
  rw [order_ltW k.format (hk k)]
  unfold ltW
  cases h : isNaN k.format r
  · rw [can_num h, nan_zero, sv_zero]; simp [ngt]
  · rw [can_nan h]; rfl
/-- the sign of a datum that is written -/
theorem sv_write_num (f : Format) (s : Bool) (m : Nat) (p : Int) : sv f (f.nearest s m p) = if s then -(mg f (rung f (f.nearest false m p)) : Int) else (mg f (rung f (f.nearest false m p)) : Int) := by
  have h1 := nearest_rung f s m p
  have h2 := nearest_rung f false m p
  unfold sv
  rw [h1.2, h1.1, h2.1]
theorem sv_write_zero (f : Format) (s : Bool) (p : Int) : sv f (f.nearest s 0 p) = 0 := by
  refine (sv_eq_zero f).2 ?_
  unfold Format.nearest
  rw [if_pos rfl, rung_word f s (Nat.two_pow_pos _)]
theorem sv_write_inf (f : Format) (s : Bool) : sv f (f.word s f.infRung) = if s then -(mg f f.infRung : Int) else (mg f f.infRung : Int) := by
  unfold sv; rw [sgn_word f s (inf_lt f), rung_word f s (inf_lt f)]
theorem signed_neg (s : Bool) (m u : Nat) : signed (!s) m u = -signed s m u := by
  unfold signed; cases s <;> simp
/-- d less e, and e less d -/
theorem sum_anti (f : Format) (d e : Datum) : (d.sum e.opposite = none ∧ e.sum d.opposite = none) ∨ ∃ x y, d.sum e.opposite = some x ∧ e.sum d.opposite = some y ∧ sv f (f.write x) = -sv f (f.write y) := by
  cases d with
  | number s m i =>
    cases e with
    | number t n j =>
      refine .inr ⟨_, _, rfl, rfl, ?_⟩
      rw [Int.min_comm j i]
      generalize min i j = b
      simp only [signed_neg]
      generalize signed s m (i - b).toNat = u
      generalize signed t n (j - b).toNat = v
      by_cases h : u + -v = 0
      · rw [if_pos h, if_pos (by omega), show (u + -v).natAbs = 0 by omega, show (v + -u).natAbs = 0 by omega]
        rw [write_num, write_num, sv_write_zero, sv_write_zero]; rfl
      · rw [if_neg h, if_neg (by omega), show (v + -u).natAbs = (u + -v).natAbs by omega]
        rw [write_num, write_num, sv_write_num, sv_write_num f (decide (v + -u < 0))]
        by_cases h2 : u + -v < 0
        · rw [decide_eq_true h2, decide_eq_false (by omega)]; simp
        · rw [decide_eq_false h2, decide_eq_true (by omega)]; simp
    | infinity t =>
      refine .inr ⟨_, _, rfl, rfl, ?_⟩
      show sv f (f.word (!t) f.infRung) = -sv f (f.word t f.infRung)
      rw [sv_write_inf, sv_write_inf]; cases t <;> simp
    | nan t n => exact .inl ⟨rfl, rfl⟩
  | infinity s =>
    cases e with
    | number t n j =>
      refine .inr ⟨_, _, rfl, rfl, ?_⟩
      show sv f (f.word s f.infRung) = -sv f (f.word (!s) f.infRung)
      rw [sv_write_inf, sv_write_inf]; cases s <;> simp
    | infinity t =>
      cases s <;> cases t
      · exact .inl ⟨rfl, rfl⟩
      · refine .inr ⟨_, _, rfl, rfl, ?_⟩
        show sv f (f.word false f.infRung) = -sv f (f.word true f.infRung)
        rw [sv_write_inf, sv_write_inf]; simp
      · refine .inr ⟨_, _, rfl, rfl, ?_⟩
        show sv f (f.word true f.infRung) = -sv f (f.word false f.infRung)
        rw [sv_write_inf, sv_write_inf]; simp
      · exact .inl ⟨rfl, rfl⟩
    | nan t n => exact .inl ⟨rfl, rfl⟩
  | nan s m => exact .inl ⟨rfl, by cases e <;> rfl⟩
theorem sub_anti (k : FloatKind) (a b : Option Nat) : pos k (fo .sub k a b) = ngt k (fo .sub k b a) := by
  cases a <;> cases b <;> try rfl
  rename_i x y
  show pos k (k.format.sub x y) = ngt k (k.format.sub y x)
  unfold Format.sub
  rcases sum_anti k.format (k.format.read x) (k.format.read y) with ⟨h1, h2⟩ | ⟨u, v, h1, h2, h3⟩
  · rw [h1, h2]; rfl
  · rw [h1, h2]
    simp only [Option.map_some, pos, ngt]
    rw [h3]
    by_cases h : sv k.format (k.format.write v) < 0
    · rw [decide_eq_true h]; exact decide_eq_true (by omega)
    · rw [decide_eq_false h]; exact decide_eq_false (by omega)
theorem sub_self_pos (a : Option Nat) : pos .f64 (fo .sub .f64 a a) = false := by
  cases a with
  | none => rfl
  | some x =>
    show pos .f64 (floatBits .sub .f64 x x) = false
    cases h : isFinD x
    · rw [sub_nofin h]; rfl
    · rw [sub_self h]; decide
theorem sub_self_ngt (a : Option Nat) : ngt .f64 (fo .sub .f64 a a) = false := by rw [← sub_anti]; exact sub_self_pos a
end Go.Proofs.Ytkjjeccgmeiniaa.Flt
