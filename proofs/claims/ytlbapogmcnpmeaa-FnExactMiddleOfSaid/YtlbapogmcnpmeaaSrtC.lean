/- The program's stable sort, first part: the comparison, the list's own row, insertion. -/
import Derived.Test.YtlbapogmcnpmeaaSrtP
import Derived.Test.YtlbapogmcnpmeaaAvgI
import Derived.Shelf.RegionOpenPlain
namespace Go.Proofs.Ytlbapogmcnpmeaa.Avg
open Go.ChangeShapes Go.WideShapes Go.ChangeAt Go.RowKit Go.Deep Go.Proofs.Ytlbapogmcnpmeaa Go.Proofs.Ytlbapogmcnpmeaa.Flt Go.Proofs.Ytlbapogmcnpmeaa.Mth Go.Proofs.Ytlbapogmcnpmeaa.Sgl
open Ieee (single double)
set_option linter.unusedVariables false
set_option linter.unusedSimpArgs false
/-- what the comparison answers -/
def cmpI (x y : Nat) : Int := if sv single x < sv single y then -1 else if sv single y < sv single x then 1 else 0
theorem lt_sv0 {x y : Nat} (hx : finB x = true) (hy : finB y = true) : ltB x y = decide (sv single x < sv single y) := by
  have h := gt_sv hy hx
  rw [← h]
  unfold ltB gtB
  rw [lt32, gt32]
theorem nanF_any (x : Nat) (w : World) (h : finB x = true) : Calls Try.prog 78 #[.float .f32 x] w fun e w' => e = .returned (.bool false) ∧ w' = w := by
  have h1 : (FloatKind.f32.format.order x x != some .eq) = false := by rw [ne32, eqW_self, fin_num h]; rfl
  go_enter Try.func78, Try.ntmps78
  go_wp2
  go_ret
  exact ⟨rfl, rfl⟩
theorem cmp_any (x y : Nat) (w : World) (hx : finB x = true) (hy : finB y = true) : Calls Try.prog 69 #[.float .f32 x, .float .f32 y] w fun e w' => e = .returned (.int .i64 (cmpI x y)) ∧ w' = w := by
  have h1 := lt_sv0 hx hy
  have h2 := gt_sv hx hy
  unfold ltB at h1
  unfold gtB at h2
  by_cases c1 : sv single x < sv single y
  · have Hc := Lib.hid (show cmpI x y = -1 by unfold cmpI; rw [if_pos c1])
    rw [decide_eq_true c1] at h1
    clear c1 h2
    go_enter Try.func69, Try.ntmps69
    go_wp2_with fail
    refine (nanF_any x _ hx).mono ?_
    rintro e w9 ⟨rfl, hw9⟩; subst w9
    go_wp2_with fail
    refine (nanF_any y _ hy).mono ?_
    rintro e w9 ⟨rfl, hw9⟩; subst w9
    go_wp2_with fail
    go_ret
    exact ⟨by rw [Hc.out]; rfl, rfl⟩
  · rw [decide_eq_false c1] at h1
    by_cases c2 : sv single y < sv single x
    · have Hc := Lib.hid (show cmpI x y = 1 by unfold cmpI; rw [if_neg c1, if_pos c2])
      rw [decide_eq_true c2] at h2
      clear c1 c2
      go_enter Try.func69, Try.ntmps69
      go_wp2_with fail
      refine (nanF_any x _ hx).mono ?_
      rintro e w9 ⟨rfl, hw9⟩; subst w9
      go_wp2_with fail
      refine (nanF_any y _ hy).mono ?_
      rintro e w9 ⟨rfl, hw9⟩; subst w9
      go_wp2_with fail
      go_ret
      exact ⟨by rw [Hc.out]; rfl, rfl⟩
    · have Hc := Lib.hid (show cmpI x y = 0 by unfold cmpI; rw [if_neg c1, if_neg c2])
      rw [decide_eq_false c2] at h2
      clear c1 c2
      go_enter Try.func69, Try.ntmps69
      go_wp2_with fail
      refine (nanF_any x _ hx).mono ?_
      rintro e w9 ⟨rfl, hw9⟩; subst w9
      go_wp2_with fail
      refine (nanF_any y _ hy).mono ?_
      rintro e w9 ⟨rfl, hw9⟩; subst w9
      go_wp2_with fail
      go_ret
      exact ⟨by rw [Hc.out]; rfl, rfl⟩
theorem mixed_yes : Try.prog.follows Departure.mixedOrders = true := by kernel_rfl
theorem ent_cmp : ∀ args w, (callFunc 69 args).run Try.prog w = .ok (.enter 69 args) w := ent _ _ _ Try.func69 (by kernel_rfl) rfl
/-- the row that is sorted: at each place the element that stands there -/
def RowS (w : World) (g cap n : Nat) (X σ : Nat → Nat) : Prop := ∃ f, w.rowIs g 30 cap f ∧ n ≤ cap ∧ ∀ i, i < n → f i = .float .f32 (X (σ i))
theorem RowS.cell {w : World} {g cap n : Nat} {X σ : Nat → Nat} (h : RowS w g cap n X σ) {i : Nat} (hi : i < n) : w.cell? ⟨g, i, none⟩ = some (.float .f32 (X (σ i))) := by
  obtain ⟨f, h1, h2, h3⟩ := h
  rw [h1.cell (by omega), h3 i hi]
theorem RowS.frozen {w : World} {g cap n : Nat} {X σ : Nat → Nat} (h : RowS w g cap n X σ) (i : Nat) : w.frozen? ⟨g, i, none⟩ = false := by
  obtain ⟨f, h1, _⟩ := h
  exact h1.frozen i
theorem RowS.swap {w : World} {g cap n : Nat} {X σ : Nat → Nat} (h : RowS w g cap n X σ) {i j : Nat} (hi : i < n) (hj : j < n) (hij : i ≠ j) :
    RowS ((w.setCell ⟨g, i, none⟩ (.float .f32 (X (σ j)))).setCell ⟨g, j, none⟩ (.float .f32 (X (σ i)))) g cap n X (swp σ i j) := by
  obtain ⟨f, h1, h2, h3⟩ := h
  refine ⟨_, (h1.set i _).set j _, h2, fun p hp => ?_⟩
  unfold swp
  by_cases c1 : p = j
  · rw [if_pos c1]
    by_cases c2 : p = i
    · exact absurd (c2.symm.trans c1) hij
    · rw [if_neg c2, if_pos c1]
  · rw [if_neg c1]
    by_cases c2 : p = i
    · rw [if_pos c2, if_pos c2]
    · rw [if_neg c2, if_neg c2, if_neg c1]; exact h3 p hp
theorem RowS.drew {w : World} {g cap n : Nat} {X σ : Nat → Nat} (h : RowS w g cap n X σ) : RowS w.drew g cap n X σ := h
theorem RowS.drewN {w : World} {g cap n : Nat} {X σ : Nat → Nat} (h : RowS w g cap n X σ) (m : Nat) : RowS (w.drewN m) g cap n X σ := by
  obtain ⟨f, h1, h2, h3⟩ := h
  exact ⟨f, h1.of_block rfl, h2, h3⟩
theorem RowS.second {w : World} {g cap n : Nat} {X σ : Nat → Nat} (h : RowS w g cap n X σ) {i j : Nat} (hj : j < n) (hij : i ≠ j) (u : Value) : (w.setCell ⟨g, i, none⟩ u).cell? ⟨g, j, none⟩ = some (.float .f32 (X (σ j))) := by
  obtain ⟨f, h1, h2, h3⟩ := h
  rw [(h1.set i u).cell (by omega), if_neg (fun e => hij e.symm), h3 j hj]
def FinS (n : Nat) (X σ : Nat → Nat) : Prop := ∀ p, p < n → finB (X (σ p)) = true
theorem FinS.smp {n a b : Nat} {X σ τ : Nat → Nat} (h : FinS n X σ) (s : Smp σ τ a b) (o : Oth σ τ a b) (hb : b ≤ n) : FinS n X τ := fun p hp => by
  by_cases c : a ≤ p ∧ p < b
  · obtain ⟨q, q1, q2, e⟩ := s.1 p c.1 c.2
    rw [e]; exact h q (by omega)
  · rw [o p (by omega)]; exact h p hp
theorem cmp_lt {x y : Nat} : decide (cmpI x y < 0) = decide (sv single x < sv single y) := by
  unfold cmpI
  by_cases c : sv single x < sv single y
  · rw [if_pos c, decide_eq_true c]; rfl
  · rw [if_neg c, decide_eq_false c]
    split <;> rfl
set_option maxHeartbeats 3200000 in
/-- insertion: a stretch of the list as it stands is sorted -/
theorem ins_any (g cap n a b : Nat) (X σ : Nat → Nat) (w : World) (hab : a ≤ b) (hbn : b ≤ n) (hn : n ≤ 64) (hrow : RowS w g cap n X σ) (hfin : FinS n X σ) (hid : ∀ p, a ≤ p → p < b → σ p = p) :
    Calls Try.prog 82 #[.slice (some ⟨g, 0, none⟩) n cap, .int .i64 (a : Int), .int .i64 (b : Int), .func (.func 69) #[] #[]] w fun e w' => e = .returned (.tuple #[]) ∧ ∃ τ, RowS w' g cap n X τ ∧ Seg X τ a b ∧ Oth σ τ a b ∧ FinS n X τ ∧ Only g w w' := by
  have Hst := Lib.hid (And.intro hrow (And.intro hfin hid))
  have hcf := ent_cmp
  have mixed := mixed_yes
  clear hrow hfin hid
  have hwa : IntKind.i64.wrap ((a : Int) + 1) = ((a + 1 : Nat) : Int) := by rw [IntKind.wrap_i64]; omega
  go_enter Try.func82, Try.ntmps82
  go_wp2_with fail
  go_loopw [8] (fun iv wr => ∃ (i : Nat) (τ : Nat → Nat), iv = .int .i64 (i : Int) ∧ a < i ∧ i ≤ b + 1 ∧ Hid (RowS wr g cap n X τ ∧ Seg X τ a (min i b) ∧ Oth σ τ a b ∧ (∀ p, min i b ≤ p → τ p = σ p) ∧ FinS n X τ ∧ Only g w wr))
    (fun iv _ => b + 1 - (intOf iv).toNat)
  case atStart =>
    refine ⟨a + 1, σ, rfl, by omega, by omega, Lib.hid ⟨Hst.out.1, ?_, Oth.refl _ _ _, fun _ _ => rfl, Hst.out.2.1, Only.refl _ _⟩⟩
    by_cases c : a < b
    · rw [Nat.min_eq_left (by omega)]; exact Seg.one (Hst.out.2.2 a (Nat.le_refl _) c)
    · rw [Nat.min_eq_right (by omega), show b = a by omega]; exact Seg.none _ _ _
  case round =>
    obtain ⟨i, τ, rfl, hai, hib, HI⟩ := hrel
    by_cases hlt : i < b
    · have hlt' : (i : Int) < (b : Int) := by omega
      have hmin : min i b = i := Nat.min_eq_left (by omega)
      rw [hmin] at HI
      go_wp2_with fail
      go_loopw [9] (fun jv w2 => ∃ j : Nat, jv = .int .i64 (j : Int) ∧ a ≤ j ∧ j ≤ i ∧ Hid (RowS w2 g cap n X (rotR τ i j) ∧ (∀ p, j ≤ p → p < i → val X (τ i) < val X (τ p)) ∧ Only g w w2))
        (fun jv _ => (intOf jv).toNat)
      case atStart => exact ⟨i, rfl, by omega, Nat.le_refl _, Lib.hid ⟨by rw [rotR_zero]; exact HI.out.1, fun p h1 h2 => by omega, HI.out.2.2.2.2.2⟩⟩
      case round =>
        obtain ⟨j, rfl, haj, hji, HJ⟩ := hrel
        have hend : ((j : Int) = (a : Int) ∨ ¬ val X (τ i) < val X (τ (j - 1))) → Hid (RowS wr g cap n X (rotR τ i j) ∧ Seg X (rotR τ i j) a (min (i + 1) b) ∧ Oth σ (rotR τ i j) a b ∧ (∀ p, min (i + 1) b ≤ p → rotR τ i j p = σ p) ∧ FinS n X (rotR τ i j) ∧ Only g w wr) := fun hor => by
          obtain ⟨r1, r2, r3⟩ := HJ.out
          obtain ⟨t1, t2, t3, t4, t5, t6⟩ := HI.out
          have hi : τ i = i := by rw [t4 i (Nat.le_refl _)]; exact Hst.out.2.2 i (by omega) hlt
          have s := rotR_smp τ haj hji
          have o := rotR_oth τ haj hji
          rw [Nat.min_eq_left (by omega)]
          refine Lib.hid ⟨r1, t2.put hi haj hji (fun p h1 h2 => ?_) r2, t3.trans (o.mono (Nat.le_refl _) (by omega)), fun p hp => by rw [o p (by omega), t4 p (by omega)], t5.smp s o (by omega), r3⟩
          rcases hor with e | e
          · omega
          · by_cases c : p = j - 1
            · rw [c]; exact e
            · have := (t2.run p (j - 1) h1 (by omega) (by omega)).le
              omega
        have Hend := Lib.hid hend
        clear hend
        by_cases hja : a < j
        · have hja' : (a : Int) < (j : Int) := by omega
          obtain ⟨jp, hjp⟩ : ∃ q, q + 1 = j := ⟨j - 1, by omega⟩
          have hwj : IntKind.i64.wrap ((j : Int) - 1) = (jp : Int) := by rw [IntKind.wrap_i64]; omega
          have hjn : (j : Int) < (n : Int) := by omega
          have hjpn : (jp : Int) < (n : Int) := by omega
          have ex : rotR τ i j j = τ i := by unfold rotR; rw [if_pos rfl]
          have ey : rotR τ i j jp = τ jp := by unfold rotR; rw [if_neg (by omega), if_neg (by omega)]
          have l1 := HJ.out.1.cell (i := j) (by omega)
          have l2 := HJ.out.1.cell (i := jp) (by omega)
          rw [ex] at l1
          rw [ey] at l2
          have fx : finB (X (τ i)) = true := HI.out.2.2.2.2.1 i (by omega)
          have fy : finB (X (τ jp)) = true := HI.out.2.2.2.2.1 jp (by omega)
          have hv : decide (cmpI (X (τ i)) (X (τ jp)) < 0) = decide (val X (τ i) < val X (τ jp)) := cmp_lt
          have HJP := Lib.hid hjp
          have hjpj : j - 1 = jp := by omega
          rw [hjpj] at Hend
          obtain ⟨x, hx⟩ : ∃ x, X (τ i) = x := ⟨_, rfl⟩
          obtain ⟨y, hy⟩ : ∃ y, X (τ jp) = y := ⟨_, rfl⟩
          rw [hx] at l1 fx hv
          rw [hy] at l2 fy hv
          have Hxy := Lib.hid (And.intro hx hy)
          have HC := Lib.hid (fun q : Nat => show Calls Try.prog 69 #[.float .f32 x, .float .f32 y] (wr.drewN q) fun e w' => e = .returned (.int .i64 (cmpI x y)) ∧ ∃ m, w' = (wr.drewN q).drewN m from (cmp_any x y _ fx fy).mono (by rintro e w' ⟨rfl, hw⟩; exact ⟨rfl, 0, hw⟩))
          clear ex ey fx fy hx hy hjp hjpj
          cases hlv : decide (val X (τ i) < val X (τ jp))
          · rw [hlv] at hv
            have Hno := Lib.hid (of_decide_eq_false hlv)
            clear hlv
            go_wp2_with fail
            go_quiet (first | (with_reducible exact Calls.quiet_of (HC.out _)))
            have Hout := Hend.out (.inr Hno.out)
            have Hout2 := Lib.hid (And.intro (Hout.out.1.drewN nq) (And.intro Hout.out.2.1 (And.intro Hout.out.2.2.1 (And.intro Hout.out.2.2.2.1 (And.intro Hout.out.2.2.2.2.1 (Hout.out.2.2.2.2.2.drewN nq))))))
            clear Hout HJ HI l1 l2 hv
            generalize wr.drewN nq = w3 at Hout2 ⊢
            go_wp2_with fail
            go_roundw
            case rel => exact ⟨i + 1, rotR τ i j, by go_num, by omega, by omega, Hout2⟩
            case measure => simp [intOf]; omega
          · rw [hlv] at hv
            have Hyes := Lib.hid (of_decide_eq_true hlv)
            clear hlv
            go_wp2_with fail
            go_quiet (first | (with_reducible exact Calls.quiet_of (HC.out _)))
            obtain ⟨r1, r2, r3⟩ := HJ.out
            obtain ⟨hx, hy⟩ := Hxy.out
            have hjpj := HJP.out
            have ex : rotR τ i j j = τ i := by unfold rotR; rw [if_pos rfl]
            have ey : rotR τ i j jp = τ jp := by unfold rotR; rw [if_neg (by omega), if_neg (by omega)]
            have R2 := r1.drewN nq
            have c1 := R2.cell (i := j) (by omega)
            have c2 := R2.cell (i := jp) (by omega)
            rw [ex, hx] at c1
            rw [ey, hy] at c2
            have f1 := R2.frozen j
            have f2 := R2.frozen jp
            have c3 := R2.second (i := j) (j := jp) (by omega) (by omega) (.float .f32 y)
            rw [ey, hy] at c3
            have S3 := R2.swap (i := j) (j := jp) (by omega) (by omega) (by omega)
            rw [ex, hx, ey, hy] at S3
            have hst : swp (rotR τ i j) j jp = rotR τ i jp := by rw [← hjpj]; exact rotR_step τ (by omega)
            rw [hst] at S3
            have HS := Lib.hid (show RowS ((((wr.drewN nq).setCell ⟨g, j, none⟩ (.float .f32 y)).setCell ⟨g, jp, none⟩ (.float .f32 x)).drew) g cap n X (rotR τ i jp) ∧ (∀ p, jp ≤ p → p < i → val X (τ i) < val X (τ p)) ∧ Only g w ((((wr.drewN nq).setCell ⟨g, j, none⟩ (.float .f32 y)).setCell ⟨g, jp, none⟩ (.float .f32 x)).drew) from ⟨S3.drew, fun p h1 h2 => by
              by_cases c : p = jp
              · rw [c]; exact Hyes.out
              · exact r2 p (by omega) h2, (((r3.drewN nq).setCell j _).setCell jp _).drewN 1⟩)
            clear S3 R2 hst ex ey hx hy r1 r2 r3 HJ Hend l1 l2 hv hjpj
            generalize wr.drewN nq = w3 at *
            go_wp2_with fail
            go_big_region_o
            clear c1 c2 c3 f1 f2
            generalize ((w3.setCell ⟨g, j, none⟩ (.float .f32 y)).setCell ⟨g, jp, none⟩ (.float .f32 x)).drew = w4 at HS ⊢
            go_wp2_with fail
            go_roundw
            case rel => exact ⟨jp, by go_num, by have := HJP.out; omega, by have := HJP.out; omega, HS⟩
            case measure => have := HJP.out; simp [intOf]; omega
        · obtain rfl : j = a := by omega
          have hja' : ¬ (j : Int) < (j : Int) := by omega
          have Hout := Hend.out (.inl rfl)
          clear HJ HI
          go_wp2_with fail
          go_quiet (fail)
          have Hout2 := Lib.hid (And.intro (Hout.out.1.drewN nq) (And.intro Hout.out.2.1 (And.intro Hout.out.2.2.1 (And.intro Hout.out.2.2.2.1 (And.intro Hout.out.2.2.2.2.1 (Hout.out.2.2.2.2.2.drewN nq))))))
          clear Hout Hend
          generalize wr.drewN nq = w3 at Hout2 ⊢
          go_wp2_with fail
          go_roundw
          case rel => exact ⟨i + 1, rotR τ i j, by go_num, by omega, by omega, Hout2⟩
          case measure => simp [intOf]; omega
    · have hlt' : ¬ (i : Int) < (b : Int) := by omega
      rw [Nat.min_eq_right (by omega)] at HI
      go_wp2_with fail
      go_end0
      obtain ⟨t1, t2, t3, t4, t5, t6⟩ := HI.out
      exact ⟨rfl, τ, t1, t2, t3, t5, t6⟩
end Go.Proofs.Ytlbapogmcnpmeaa.Avg
