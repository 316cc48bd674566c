/- The line between two points: the numbers of each step. Plain facts. -/
import Derived.Test.YtbmojogohffhaaaSeg
import Derived.Test.YtbmojogohffhaaaLin
namespace Go.Proofs.Ytbmojogohffhaaa.Pnt
open Go.RowKit Go.Proofs.Ytbmojogohffhaaa Go.Proofs.Ytbmojogohffhaaa.Flt
open Ieee (single double)
set_option linter.unusedVariables false
theorem fin_iff {x : Nat} : finB x = true ↔ rung single x < single.infRung := by unfold finB; exact decide_eq_true_iff
theorem sub_is {a b : Nat} (ha : finB a = true) (hb : finB b = true) : rung single (subB a b) = rg (sv single a - sv single b).natAbs ∧ sv single (subB a b) = rnd (sv single a - sv single b) := by
  obtain ⟨r, h1, _, _, h2, h3⟩ := sub_val (fin_iff.1 ha) (fin_iff.1 hb)
  rw [sub_fin ha hb] at h1
  cases h1
  exact ⟨h2, h3⟩
def quoB (a b : Nat) : Nat := (floatBits .quo .f32 a b).getD 0
def mulB (a b : Nat) : Nat := (floatBits .mul .f32 a b).getD 0
def addB (a b : Nat) : Nat := (floatBits .add .f32 a b).getD 0
theorem add_fin {a b : Nat} (ha : finB a = true) (hb : finB b = true) : floatBits .add .f32 a b = some (addB a b) ∧ addB a b < 4294967296 ∧ isNaN single (addB a b) = false ∧ rung single (addB a b) = rg (sv single a + sv single b).natAbs ∧ sv single (addB a b) = rnd (sv single a + sv single b) := by
  obtain ⟨r, h1, h0, hn, h2, h3⟩ := add_val (fin_iff.1 ha) (fin_iff.1 hb)
  unfold addB
  rw [h1]
  exact ⟨rfl, h0, hn, h2, h3⟩
theorem quo_fin {a b : Nat} (ha : finB a = true) (hb : finB b = true) (h0 : rung single b ≠ 0) : floatBits .quo .f32 a b = some (quoB a b) ∧ quoB a b = single.word (sgn single a ^^ sgn single b) (quoRung single (rung single a) (rung single b)) := by
  have h := div_rr single least_le (fin_iff.1 ha) (fin_iff.1 hb) h0
  have h' : floatBits .quo .f32 a b = _ := h
  unfold quoB
  rw [h']
  exact ⟨rfl, rfl⟩
theorem mul_fin {a b : Nat} (ha : finB a = true) (hb : finB b = true) : floatBits .mul .f32 a b = some (mulB a b) ∧ mulB a b = single.word (sgn single a ^^ sgn single b) (mulRung single (rung single a) (rung single b)) := by
  have h := mul_rr single least_le (fin_iff.1 ha) (fin_iff.1 hb)
  have h' : floatBits .mul .f32 a b = _ := h
  unfold mulB
  rw [h']
  exact ⟨rfl, rfl⟩
theorem word_rung {s : Bool} {r : Nat} (h : r ≤ single.infRung) : rung single (single.word s r) = r := rung_word single s (Nat.lt_of_le_of_lt h (inf_lt single))
theorem word_sgn {s : Bool} {r : Nat} (h : r ≤ single.infRung) : sgn single (single.word s r) = s := sgn_word single s (Nat.lt_of_le_of_lt h (inf_lt single))
theorem quoRung_le (r s : Nat) : quoRung single r s ≤ single.infRung := by unfold quoRung; omega
theorem mulRung_le (r s : Nat) : mulRung single r s ≤ single.infRung := by unfold mulRung; omega
theorem rg_pos {n : Nat} (h : 1 ≤ n) : 1 ≤ rg n := by
  have h1 : mg single 1 = 1 := by decide
  have := rg_mono (show mg single 1 ≤ n by omega)
  rw [rg_mg (by decide)] at this
  exact this
theorem rg_zero : rg 0 = 0 := by unfold rg; rw [rr_zero1]; rfl
theorem one_lt_inf : 1065353216 < single.infRung := by decide
theorem sgn_nonneg {a : Nat} (h : 0 < sv single a) : sgn single a = false := by
  cases hs : sgn single a
  · rfl
  · unfold sv at h; rw [hs] at h; simp at h; omega
theorem rung_sv {a : Nat} (h : sv single a = 0) : rung single a = 0 := (sv_eq_zero single).1 h
def lnT (x0 x1 x : Nat) : Nat := quoB (subB x x0) (subB x1 x0)
def lnP (x0 y0 x1 y1 x : Nat) : Nat := mulB (lnT x0 x1 x) (subB y1 y0)
def lnR (x0 y0 x1 y1 x : Nat) : Nat := addB y0 (lnP x0 y0 x1 y1 x)
/-- a number between the places of two points -/
structure Betw (x0 y0 x1 y1 x : Nat) : Prop where
  fx0 : finB x0 = true
  fy0 : finB y0 = true
  fx1 : finB x1 = true
  fy1 : finB y1 = true
  fx : finB x = true
  dx : finB (subB x1 x0) = true
  dy : finB (subB y1 y0) = true
  lo : sv single x0 ≤ sv single x
  hi : sv single x ≤ sv single x1
  lt : sv single x0 < sv single x1
section
variable {x0 y0 x1 y1 x : Nat} (h : Betw x0 y0 x1 y1 x)
include h
theorem Betw.rungs : rung single (subB x x0) ≤ rung single (subB x1 x0) ∧ rung single (subB x1 x0) ≠ 0 := by
  have hl := h.lo
  have hh := h.hi
  have hlt := h.lt
  rw [(sub_is h.fx h.fx0).1, (sub_is h.fx1 h.fx0).1]
  refine ⟨rg_mono (by omega), ?_⟩
  have := rg_pos (n := (sv single x1 - sv single x0).natAbs) (by omega)
  omega
theorem Betw.num : finB (subB x x0) = true := fin_iff.2 (Nat.lt_of_le_of_lt h.rungs.1 (fin_iff.1 h.dx))
theorem Betw.t_some : floatBits .quo .f32 (subB x x0) (subB x1 x0) = some (lnT x0 x1 x) := (quo_fin h.num h.dx h.rungs.2).1
theorem Betw.t_word : lnT x0 x1 x = single.word (sgn single (subB x x0) ^^ sgn single (subB x1 x0)) (quoRung single (rung single (subB x x0)) (rung single (subB x1 x0))) := (quo_fin h.num h.dx h.rungs.2).2
theorem Betw.t_le : rung single (lnT x0 x1 x) ≤ 1065353216 := by
  rw [h.t_word, word_rung (quoRung_le _ _)]
  exact quo_le_one h.rungs.2 h.rungs.1
theorem Betw.t_fin : finB (lnT x0 x1 x) = true := fin_iff.2 (Nat.lt_of_le_of_lt h.t_le one_lt_inf)
theorem Betw.p_some : floatBits .mul .f32 (lnT x0 x1 x) (subB y1 y0) = some (lnP x0 y0 x1 y1 x) := (mul_fin h.t_fin h.dy).1
theorem Betw.p_word : lnP x0 y0 x1 y1 x = single.word (sgn single (lnT x0 x1 x) ^^ sgn single (subB y1 y0)) (mulRung single (rung single (lnT x0 x1 x)) (rung single (subB y1 y0))) := (mul_fin h.t_fin h.dy).2
theorem Betw.p_le : rung single (lnP x0 y0 x1 y1 x) ≤ rung single (subB y1 y0) := by
  rw [h.p_word, word_rung (mulRung_le _ _)]
  refine mul_le_of ?_
  rw [Nat.mul_comm]
  refine Nat.mul_le_mul_left _ ?_
  rw [← mg_one]
  exact mg_mono h.t_le
theorem Betw.p_fin : finB (lnP x0 y0 x1 y1 x) = true := fin_iff.2 (Nat.lt_of_le_of_lt h.p_le (fin_iff.1 h.dy))
theorem Betw.r_some : floatBits .add .f32 y0 (lnP x0 y0 x1 y1 x) = some (lnR x0 y0 x1 y1 x) := (add_fin h.fy0 h.p_fin).1
theorem Betw.r_num : isNaN single (lnR x0 y0 x1 y1 x) = false := (add_fin h.fy0 h.p_fin).2.2.1
theorem Betw.r_lt : lnR x0 y0 x1 y1 x < 4294967296 := (add_fin h.fy0 h.p_fin).2.1
theorem Betw.r_sv : sv single (lnR x0 y0 x1 y1 x) = rnd (sv single y0 + sv single (lnP x0 y0 x1 y1 x)) := (add_fin h.fy0 h.p_fin).2.2.2.2
/-- behind the first point the part has the difference's sign, and no greater amount -/
theorem Betw.p_sv (hs : sv single x0 < sv single x) :
    (0 ≤ sv single (subB y1 y0) → 0 ≤ sv single (lnP x0 y0 x1 y1 x) ∧ sv single (lnP x0 y0 x1 y1 x) ≤ sv single (subB y1 y0)) ∧
    (sv single (subB y1 y0) ≤ 0 → sv single (lnP x0 y0 x1 y1 x) ≤ 0 ∧ sv single (subB y1 y0) ≤ sv single (lnP x0 y0 x1 y1 x)) := by
  have pos : ∀ {z : Int}, 0 < z → 0 < rnd z := fun {z} hz => by
    rw [rnd_eq, if_neg (by omega)]
    have h1 := rg_pos (n := z.natAbs) (by omega)
    have h2 := mg_mono h1
    have h3 : mg single 1 = 1 := by decide
    omega
  have s1 : sgn single (subB x x0) = false := sgn_nonneg (by rw [(sub_is h.fx h.fx0).2]; exact pos (by omega))
  have s2 : sgn single (subB x1 x0) = false := sgn_nonneg (by rw [(sub_is h.fx1 h.fx0).2]; exact pos (by have := h.lt; omega))
  have st : sgn single (lnT x0 x1 x) = false := by rw [h.t_word, word_sgn (quoRung_le _ _), s1, s2]; rfl
  have sp : sgn single (lnP x0 y0 x1 y1 x) = sgn single (subB y1 y0) := by
    have := congrArg (sgn single) h.p_word
    rw [word_sgn (mulRung_le _ _), st, Bool.false_xor] at this
    exact this
  have hle := mg_mono h.p_le
  have e1 : sv single (lnP x0 y0 x1 y1 x) = if sgn single (subB y1 y0) = true then -((mg single (rung single (lnP x0 y0 x1 y1 x)) : Nat) : Int) else ((mg single (rung single (lnP x0 y0 x1 y1 x)) : Nat) : Int) := by
    unfold sv; rw [sp]
  have e2 : sv single (subB y1 y0) = if sgn single (subB y1 y0) = true then -((mg single (rung single (subB y1 y0)) : Nat) : Int) else ((mg single (rung single (subB y1 y0)) : Nat) : Int) := rfl
  rw [e1, e2]
  cases sgn single (subB y1 y0)
  · simp only [Bool.false_eq_true, if_false]
    refine ⟨fun _ => ⟨by omega, by omega⟩, fun hz => ⟨by omega, by omega⟩⟩
  · simp only [if_true]
    refine ⟨fun hz => ⟨by omega, by omega⟩, fun _ => ⟨by omega, by omega⟩⟩
end
/-- what the line tells: at its ends their Y -/
def lnV (x0 y0 x1 y1 x : Nat) : Nat := if eqB x x0 = true then y0 else if eqB x x1 = true then y1 else lnR x0 y0 x1 y1 x
/-! in a table -/
theorem okP_step {n : Nat} {X : Nat → Nat} (h : okP n X = true) {k : Nat} (hk : k + 1 < n) :
    sv single (X (k * 2)) < sv single (X ((k + 1) * 2)) ∧ finB (subB (X ((k + 1) * 2)) (X (k * 2))) = true ∧ finB (subB (X ((k + 1) * 2 + 1)) (X (k * 2 + 1))) = true := by
  have a1 := okPt_fin (okP_at h (j := k) (by omega))
  have a2 := okPt_fin (okP_at h (j := k + 1) hk)
  have h3 := okP_at h (j := k + 1) hk
  unfold okPt isAB at h3
  rw [show (k + 1 == 0) = false from rfl, show k + 1 - 1 = k from rfl] at h3
  simp only [Bool.false_or, Bool.and_eq_true] at h3
  obtain ⟨_, ⟨q1, q2⟩, q3⟩ := h3
  refine ⟨?_, q2, q3⟩
  unfold leB at q1
  rw [lt32, eq32] at q1
  unfold ltW eqW at q1
  rw [fin_num a1.1, fin_num a2.1] at q1
  simp at q1
  omega
theorem okP_sorted {n : Nat} {X : Nat → Nat} (h : okP n X = true) {i : Nat} : ∀ d, i + 1 + d < n → sv single (X (i * 2)) < sv single (X ((i + 1 + d) * 2))
  | 0, hj => (okP_step h hj).1
  | d + 1, hj => by
    have h1 := okP_sorted (i := i) h d (by omega)
    have h2 := (okP_step h (k := i + 1 + d) (by omega)).1
    rw [show i + 1 + (d + 1) = i + 1 + d + 1 by omega]
    omega
theorem okP_lt {n : Nat} {X : Nat → Nat} (h : okP n X = true) {i j : Nat} (hij : i < j) (hj : j < n) : sv single (X (i * 2)) < sv single (X (j * 2)) := by
  obtain ⟨d, rfl⟩ : ∃ d, j = i + 1 + d := ⟨j - (i + 1), by omega⟩
  exact okP_sorted h d hj
theorem leB_sv {x y : Nat} (hx : isNaN single x = false) (hy : isNaN single y = false) : leB x y = decide (sv single x ≤ sv single y) := by
  unfold leB
  rw [lt32, eq32]
  unfold ltW eqW
  rw [hx, hy, Bool.eq_iff_iff]
  simp only [Bool.not_false, Bool.true_and, Bool.or_eq_true, decide_eq_true_eq]
  omega
theorem geB_sv {x y : Nat} (hx : isNaN single x = false) (hy : isNaN single y = false) : geB x y = decide (sv single y ≤ sv single x) := by
  unfold geB
  rw [gt32, eq32]
  unfold ltW eqW
  rw [hx, hy, Bool.eq_iff_iff]
  simp only [Bool.not_false, Bool.true_and, Bool.or_eq_true, decide_eq_true_eq]
  omega
theorem eqB_sv {x y : Nat} (hx : isNaN single x = false) (hy : isNaN single y = false) : eqB x y = decide (sv single x = sv single y) := by
  unfold eqB
  rw [eq32]
  unfold eqW
  rw [hx, hy]; rfl
theorem eqB_comm (x y : Nat) : eqB x y = eqB y x := by
  unfold eqB
  rw [eq32, eq32]
  unfold eqW
  rw [Bool.and_comm (!isNaN single x)]
  congr 1
  exact decide_eq_decide.2 ⟨Eq.symm, Eq.symm⟩
theorem segIn_num {n : Nat} {X : Nat → Nat} {x : Nat} (h : segIn n X x = true) : isNaN single x = false := by
  obtain ⟨h1, h2, h3⟩ := segIn_ok h
  cases hn : isNaN single x
  · rfl
  · unfold geB at h2
    rw [gt32, eq32] at h2
    unfold ltW eqW at h2
    rw [hn] at h2
    simp at h2
/-- the number lies between the places of its segment -/
theorem seg_betw {n : Nat} {X : Nat → Nat} {x k : Nat} (h : segIn n X x = true) (hk : IsSeg n X x k) : Betw (X (k * 2)) (X (k * 2 + 1)) (X ((k + 1) * 2)) (X ((k + 1) * 2 + 1)) x := by
  obtain ⟨h1, h2, h3⟩ := segIn_ok h
  obtain ⟨l1, l2⟩ := okP_bounds h1
  have nx := segIn_num h
  have hk1 := hk.1
  have num : ∀ j, j < n → isNaN single (X (j * 2)) = false := fun j hj => fin_num (okPt_fin (okP_at h1 hj)).1
  have a1 := okPt_fin (okP_at h1 (j := k) (by omega))
  have a2 := okPt_fin (okP_at h1 (j := k + 1) hk1)
  obtain ⟨s1, s2, s3⟩ := okP_step h1 hk1
  have b0 : sv single (X 0) ≤ sv single x := by
    rw [geB_sv nx (num 0 (by omega))] at h2
    simpa using of_decide_eq_true h2
  have bn : sv single x ≤ sv single (X ((n - 1) * 2)) := by
    rw [leB_sv nx (num (n - 1) (by omega))] at h3
    exact of_decide_eq_true h3
  have lo : sv single (X (k * 2)) ≤ sv single x := by
    rcases k with _ | k
    · exact b0
    · have := hk.2.1 (k + 1) (by omega) (by omega)
      rw [leB_sv (num _ (by omega)) nx] at this
      exact of_decide_eq_true this
  have hi : sv single x ≤ sv single (X ((k + 1) * 2)) := by
    by_cases e : k + 2 < n
    · have := hk.2.2 e
      rw [leB_sv (num _ hk1) nx] at this
      have := of_decide_eq_false this
      omega
    · rw [show n - 1 = k + 1 by omega] at bn
      exact bn
  have fx : finB x = true := by
    have f0 := fin_iff.1 (okPt_fin (okP_at h1 (j := 0) (by omega))).1
    have f1 := fin_iff.1 a2.1
    refine fin_iff.2 (Nat.lt_of_not_le fun hge => ?_)
    have hm := mg_mono hge
    have m0 : mg single (rung single (X (0 * 2))) < mg single single.infRung := Nat.lt_of_not_le fun e => by have := (mg_le_iff single).1 e; omega
    have m1 : mg single (rung single (X ((k + 1) * 2))) < mg single single.infRung := Nat.lt_of_not_le fun e => by have := (mg_le_iff single).1 e; omega
    have e0 := sv_abs single (X (0 * 2))
    have e1 := sv_abs single (X ((k + 1) * 2))
    have ex := sv_abs single x
    rw [show 0 * 2 = 0 from rfl] at m0 e0
    omega
  exact ⟨a1.1, a1.2, a2.1, a2.2, fx, s2, s3, lo, hi, s1⟩
/-- only the ends of its segment can equal the number -/
theorem seg_only {n : Nat} {X : Nat → Nat} {x k j : Nat} (h : segIn n X x = true) (hk : IsSeg n X x k) (hj : j < n) (he : eqB (X (j * 2)) x = true) : j = k ∨ j = k + 1 := by
  obtain ⟨h1, h2, h3⟩ := segIn_ok h
  have nx := segIn_num h
  have num : ∀ j, j < n → isNaN single (X (j * 2)) = false := fun j hj => fin_num (okPt_fin (okP_at h1 hj)).1
  rw [eqB_sv (num j hj) nx] at he
  have he := of_decide_eq_true he
  have hb := seg_betw h hk
  have hlo := hb.lo
  have hhi := hb.hi
  rcases Nat.lt_trichotomy j k with e | e | e
  · have := okP_lt h1 e (by have := hk.1; omega)
    omega
  · exact .inl e
  · right
    rcases Nat.lt_trichotomy j (k + 1) with e' | e' | e'
    · omega
    · exact e'
    · have h4 := okP_lt h1 e' hj
      have h5 := hk.2.2 (by omega)
      rw [leB_sv (num _ hk.1) nx] at h5
      have := of_decide_eq_false h5
      omega
def itV (n : Nat) (X : Nat → Nat) (x : Nat) : Nat := lnV (X (segN n X x * 2)) (X (segN n X x * 2 + 1)) (X ((segN n X x + 1) * 2)) (X ((segN n X x + 1) * 2 + 1)) x
def ipV (n : Nat) (X : Nat → Nat) (x : Nat) : Nat := if segIn n X x = true then itV n X x else 0
/-- at a point: its Y -/
theorem itV_at {n : Nat} {X : Nat → Nat} {x j : Nat} (h : segIn n X x = true) (hj : j < n) (he : eqB (X (j * 2)) x = true) : itV n X x = X (j * 2 + 1) := by
  obtain ⟨h1, h2, h3⟩ := segIn_ok h
  obtain ⟨l1, l2⟩ := okP_bounds h1
  have hk := segN_is (X := X) (x := x) l1
  have nx := segIn_num h
  have num : ∀ j, j < n → isNaN single (X (j * 2)) = false := fun j hj => fin_num (okPt_fin (okP_at h1 hj)).1
  unfold itV lnV
  rcases seg_only h hk hj he with e | e
  · rw [← e, if_pos (by rw [eqB_comm]; exact he)]
  · have hlt := (okP_step h1 hk.1).1
    have he' := he
    rw [eqB_sv (num j hj) nx] at he'
    have he' := of_decide_eq_true he'
    rw [e] at he'
    rw [if_neg (by rw [eqB_sv nx (num _ (by have := hk.1; omega))]; simp; omega), ← e, if_pos (by rw [eqB_comm]; exact he)]
/-- at no point: the line -/
theorem itV_no {n : Nat} {X : Nat → Nat} {x : Nat} (h : segIn n X x = true) (hn : ∀ j, j < n → eqB (X (j * 2)) x = false) :
    itV n X x = lnR (X (segN n X x * 2)) (X (segN n X x * 2 + 1)) (X ((segN n X x + 1) * 2)) (X ((segN n X x + 1) * 2 + 1)) x := by
  obtain ⟨h1, h2, h3⟩ := segIn_ok h
  obtain ⟨l1, l2⟩ := okP_bounds h1
  have hk := segN_is (X := X) (x := x) l1
  unfold itV lnV
  rw [if_neg (by rw [eqB_comm, hn _ (by have := hk.1; omega)]; exact Bool.false_ne_true), if_neg (by rw [eqB_comm, hn _ hk.1]; exact Bool.false_ne_true)]
end Go.Proofs.Ytbmojogohffhaaa.Pnt
