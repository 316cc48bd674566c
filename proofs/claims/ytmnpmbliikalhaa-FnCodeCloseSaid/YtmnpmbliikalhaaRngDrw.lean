/- The contract of the model's draw of ranges: a valid list. -/
import Derived.Test.YtmnpmbliikalhaaRngSt
import Derived.Test.YtmnpmbliikalhaaPickQ
import Derived.Test.YtmnpmbliikalhaaDrawF
namespace Go.Proofs.Ytmnpmbliikalhaa.Rng
open Go.ChangeShapes Go.WideShapes Go.ChangeAt Go.RowKit Go.Proofs.Ytmnpmbliikalhaa Go.Proofs.Ytmnpmbliikalhaa.Flt Go.Proofs.Ytmnpmbliikalhaa.Mth Go.Proofs.Ytmnpmbliikalhaa.Drw
set_option linter.unusedVariables false
theorem only_new {B : Nat} {a w : World} (h : Only B a w) {R : Nat} (hR : a.heap.size ≤ R) (o : Nat) (u : Value) : Only B a (w.setCell ⟨R, o, none⟩ u) :=
  ⟨h.os, h.tape, h.output, by simpa [World.setCell] using h.size, fun k hk hn => (Below.heap_setCell _ _ _ _ (by show k ≠ R; omega)).trans (h.block k hk hn)⟩
theorem only_grown {B : Nat} {a w w' : World} {row : Option Nat} (h : Only B a w) (hg : w.grownBy w' row) (hr : ∀ k, row = some k → a.heap.size ≤ k) : Only B a w' :=
  ⟨hg.os.trans h.os, hg.tape.trans h.tape, hg.output.trans h.output, Nat.le_trans h.size hg.size, fun k hk hn => (hg.block k (Nat.lt_of_lt_of_le hk h.size) (fun e => by have := hr k e.symm; omega)).trans (h.block k hk hn)⟩
theorem owns_only {B : Nat} {w w' : World} {base e size n : Nat} {v : Value} {xs : List Value} (h : w.ownsRow base e size v n xs) (ho : Only B w w') (hB : B < base) : w'.ownsRow base e size v n xs := by
  refine ⟨h.1, ?_⟩
  rcases h.2 with hn | ⟨g, cap, cur, rfl, hb, hg, rest⟩
  · exact .inl hn
  · exact .inr ⟨g, cap, cur, rfl, hb, (ho.block g (lt_of_block hg) (by omega)).trans hg, rest⟩
theorem cur_new {base B : Nat} {w : World} (hc : Cur base w B) {R : Nat} (hR : B < R) (o : Nat) (u : Value) : Cur base (w.setCell ⟨R, o, none⟩ u) B := by
  have hB := hc.1
  obtain ⟨_, a, len, cap, zs, i, h, hb, h0, h1, hr, ha⟩ := hc
  exact Cur.mk' hB hr ha ((Below.refl base w).setCell (by show base ≤ R; omega) u) h0 h1 ((Below.heap_setCell _ _ _ _ (by show B ≠ R; omega)).trans hb)
theorem cur_grown {base B : Nat} {w w' : World} {row : Option Nat} (hc : Cur base w B) (hg : w.grownBy w' row) (hr : ∀ k, row = some k → B < k) : Cur base w' B := by
  have hB := hc.1
  have hlt := hc.lt
  obtain ⟨_, a, len, cap, zs, i, h, hb, h0, h1, hr', ha⟩ := hc
  exact Cur.mk' hB hr' ha ((Below.refl base w).grown hg (by omega) (fun k hk => by have := hr k hk; omega)) h0 h1 ((hg.block B hlt (fun e => by have := hr B e.symm; omega)).trans hb)
theorem new_cells (w : World) (cs : List Value) (t : TypeId) : ∀ j u, cs[j]? = some u → (w.alloc (.cells cs.toArray t)).cell? ((⟨w.heap.size, 0, none⟩ : Addr).add j) = some u := by
  intro j u hj
  have e : (⟨w.heap.size, 0, none⟩ : Addr).add j = ⟨w.heap.size, j, none⟩ := by unfold Addr.add; split <;> simp_all
  rw [e, cell_of_row _ w.heap.size j cs.toArray t (0, 0) (block_new w _)]
  simpa using hj
theorem one3 (f d u : Nat) : ∀ x ∈ [Value.float .f32 f, .float .f32 d, .float .f32 u], x.oneCell' = true := by
  intro x hx
  simp at hx
  rcases hx with rfl | rfl | rfl <;> rfl
theorem three_i {Q : Int → Prop} {a b c : Int} (ha : Q a) (hb : Q b) (hc : Q c) : ∀ i, i < 3 → ∃ v : Int, (#[Value.int .i64 a, .int .i64 b, .int .i64 c])[i]? = some (.int .i64 v) ∧ Q v
  | 0, _ => ⟨_, rfl, ha⟩ | 1, _ => ⟨_, rfl, hb⟩ | 2, _ => ⟨_, rfl, hc⟩
  | n + 3, h => by omega
theorem r_cells {w : World} {R f d u : Nat} (h : w.heap[R]? = some (.cells #[.float .f32 f, .float .f32 d, .float .f32 u] 37 (0, 0))) :
    w.cell? ⟨R, 0, none⟩ = some (.float .f32 f) ∧ w.cell? ⟨R, 1, none⟩ = some (.float .f32 d) ∧ w.cell? ⟨R, 2, none⟩ = some (.float .f32 u) ∧ w.frozen? ⟨R, 1, none⟩ = false ∧ w.frozen? ⟨R, 2, none⟩ = false := by
  refine ⟨?_, ?_, ?_, ?_, ?_⟩
  · rw [cell_of_row w R 0 _ _ _ h]; rfl
  · rw [cell_of_row w R 1 _ _ _ h]; rfl
  · rw [cell_of_row w R 2 _ _ _ h]; rfl
  · simp [World.frozen?, h]
  · simp [World.frozen?, h]
theorem r_set1 {w w' : World} {R f d u d' : Nat} (h : w.heap[R]? = some (.cells #[.float .f32 f, .float .f32 d, .float .f32 u] 37 (0, 0))) (e : w.setCell ⟨R, 1, none⟩ (.float .f32 d') = w') : w'.heap[R]? = some (.cells #[.float .f32 f, .float .f32 d', .float .f32 u] 37 (0, 0)) := by
  rw [← e, block_setCell h]; rfl
theorem r_set2 {w w' : World} {R f d u u' : Nat} (h : w.heap[R]? = some (.cells #[.float .f32 f, .float .f32 d, .float .f32 u] 37 (0, 0))) (e : w.setCell ⟨R, 2, none⟩ (.float .f32 u') = w') : w'.heap[R]? = some (.cells #[.float .f32 f, .float .f32 d, .float .f32 u'] 37 (0, 0)) := by
  rw [← e, block_setCell h]; rfl
theorem own_slice {w : World} {base e size n : Nat} {v : Value} {xs : List Value} (h : w.ownsRow base e size v n xs) (hn : 0 < n) : ∃ g cap, v = .slice (some ⟨g, 0, none⟩) n cap ∧ base ≤ g := by
  rcases h.2 with ⟨_, e⟩ | ⟨g, cap, _, e, hb, _⟩
  · omega
  · exact ⟨g, cap, e, hb⟩
theorem cells_of_own {w : World} {base e g n cap : Nat} {X : Nat → Nat} (h : w.ownsRow base e 3 (.slice (some ⟨g, 0, none⟩) n cap) n (vals X (n * 3))) : Cells w g 0 n X := by
  intro i hi
  have key : ∀ j, j < n * 3 → w.cell? ⟨g, 0 + j, none⟩ = some (.float .f32 (X j)) := fun j hj => by
    rw [Nat.zero_add, h.cellAt j hj]
    simp [vals, hj]
  rw [Nat.zero_add]
  have k0 := key (i * 3) (by omega)
  have k1 := key (i * 3 + 1) (by omega)
  have k2 := key (i * 3 + 2) (by omega)
  rw [Nat.zero_add] at k0 k1 k2
  exact ⟨k0, k1, k2⟩
/-- a valid list of one to five ranges -/
def ListOut (base B : Nat) (w : World) (e : Ending) (w' : World) : Prop := ∃ g n cap X, e = .returned (.slice (some ⟨g, 0, none⟩) n cap) ∧ 1 ≤ n ∧ n ≤ 5 ∧ okB n X = true ∧ Wf n X ∧ B < g ∧ Cells w' g 0 n X ∧ Cur base w' B ∧ Only B w w'
set_option maxHeartbeats 4000000 in
theorem ranges_any (base B : Nat) (w : World) (hc : Cur base w B) :
    Calls Try.prog 45 #[.pointer (some ⟨B, 0, none⟩)] w (ListOut base B w) := by
  have hBw := hc.lt
  obtain ⟨i0, hi, hzz⟩ := Option.map_eq_some_iff.1 info37
  simp only [Prod.mk.injEq] at hzz
  obtain ⟨hz, hs, hby⟩ := hzz
  have Hi := Lib.hid (And.intro hi (And.intro hz (And.intro hs hby)))
  clear hi hz hs hby
  go_enter Try.func45, Try.ntmps45
  have Hn := Lib.hid (And.intro (hc.alloc (.cells #[] 37)) (And.intro ((Only.refl B w).alloc (.cells #[] 37)) (World.ownsRow_lit (base := w.heap.size) (e := 37) (size := 3) w #[] 0 (Nat.le_refl _) (Nat.zero_le _) rfl)))
  clear hc
  go_wp2_with fail
  refine (below_any base B _ _ Hn.out.1 (by omega)).mono ?_
  rintro e w1 ⟨r, r0, r1, rfl, hc1, ho1⟩
  obtain ⟨k, rfl⟩ := Int.eq_ofNat_of_zero_le r0
  have hk : k < 20 := by have := r1 (by omega); omega
  have H1 := Lib.hid (And.intro hc1 (And.intro (Hn.out.2.1.trans ho1) (owns_only Hn.out.2.2 ho1 hBw)))
  have hlt1 := hc1.lt
  clear hc1 ho1 r1 r0
  go_wp2_with fail
  refine (pick_q (fun r => r = 1 ∨ r = 10 ∨ r = 1000) base B w1.heap.size 3 _ _ _ (H1.out.1.alloc _) (by omega) (by omega) (block_new _ _) (by omega) (three_i (.inl rfl) (.inr (.inl rfl)) (.inr (.inr rfl)))).mono ?_
  rintro e w2 ⟨y, hy, rfl, hc2, ho2⟩
  have H2 := Lib.hid (And.intro hc2 (And.intro ((H1.out.2.1.alloc _).trans ho2) (owns_only (H1.out.2.2.alloc _) ho2 hBw)))
  clear hc2 ho2
  obtain ⟨fa, hfa⟩ : ∃ fa, floatOfInt .f32 (1 + (k : Int)) = fa := ⟨_, rfl⟩
  obtain ⟨fb, hfb⟩ : ∃ fb, floatOfInt .f32 y = fb := ⟨_, rfl⟩
  have ba : 1065353216 ≤ fa ∧ fa ≤ 1101004800 := by rw [← hfa]; exact ofInt_draw k hk
  have bb : 1065353216 ≤ fb ∧ fb ≤ 1148846080 := by
    rw [← hfb]
    rcases hy with rfl | rfl | rfl
    · rw [ofInt_1]; omega
    · rw [ofInt_10]; omega
    · rw [ofInt_1000]; omega
  have bq := first_bounds ba bb
  have kq := fun w => run_float_arith (P := Try.prog) w .quo 25 _ _ _ _ (pos_quo (r := fa) (s := fb) (by omega) (by omega) (by omega))
  obtain ⟨full0, hfull⟩ : ∃ f, quoRung Ieee.single fa fb = f := ⟨_, rfl⟩
  rw [hfull] at bq kq
  clear hfull ba bb hy
  go_wp2_with fail
  refine (below_any base B _ _ H2.out.1 (by omega)).mono ?_
  rintro e w3 ⟨r, r0, r1, rfl, hc3, ho3⟩
  obtain ⟨n, rfl⟩ := Int.eq_ofNat_of_zero_le r0
  have hn : n < 5 := by have := r1 (by omega); omega
  have H3 := Lib.hid (And.intro hc3 (And.intro (H2.out.2.1.trans ho3) (owns_only H2.out.2.2 ho3 hBw)))
  have Hst := Lib.hid (St.start bq.1 bq.2)
  clear hc3 ho3 r1 r0 bq kq hfa hfb
  go_wp2_with fail
  go_loopw [3, 4, 5, 6] (fun vo vf vl vn wr => ∃ i m X full last, vf = .float .f32 full ∧ vl = .float .f32 last ∧ vn = .int .i64 ((m : Nat) : Int) ∧ i + m = n + 1 ∧ St i X full last ∧ wr.ownsRow w.heap.size 37 3 vo i (vals X (i * 3)) ∧ Cur base wr B ∧ Only B w wr)
    (fun _ _ _ vn _ => (intOf vn).toNat)
  case atStart => exact ⟨0, n + 1, _, full0, 0, rfl, rfl, by go_num, by omega, Hst.out, H3.out.2.2, H3.out.1, H3.out.2.1⟩
  case round =>
    obtain ⟨i, m, X, full, last, rfl, rfl, rfl, him, hst, hown, hcr, hor⟩ := hrel
    have Hr := Lib.hid (And.intro hst (And.intro hown (And.intro hcr hor)))
    clear hst hown hcr hor
    rcases m with _ | m
    · have hi' : i = n + 1 := by omega
      obtain ⟨g, cap, hv, hg⟩ := own_slice Hr.out.2.1 (by omega)
      have hs := Hr.out.1
      subst hv
      have HX := Lib.hid (And.intro (hs.okB (by omega) (by omega)) (And.intro hs.Wf (cells_of_own Hr.out.2.1)))
      clear hs
      go_wp2_with fail
      go_ret
      exact ⟨g, i, cap, X, rfl, by omega, by omega, HX.out.1, HX.out.2.1, by omega, HX.out.2.2, Hr.out.2.2.1, Hr.out.2.2.2⟩
    · have hi5 : i < 5 := by omega
      have hbd := bnd_le (i := i) (by omega)
      have hlo := Hr.out.1.lo
      have hhi := Hr.out.1.hi
      have hll := Hr.out.1.lastlt
      have hfl : full < 2139095040 := by omega
      have hBr : B < wr.heap.size := Hr.out.2.2.1.lt
      have hn63 : i + 1 ≤ maxLen := by unfold maxLen; omega
      have hnby : (i + 1) * 12 ≤ 140737488355328 := by omega
      obtain ⟨half, hhalf⟩ : ∃ h, quoRung Ieee.single last 1073741824 = h := ⟨_, rfl⟩
      have hhl : half ≤ last := by rw [← hhalf]; exact half_le last
      have kh := fun w => run_float_arith (P := Try.prog) w .quo 25 _ _ _ _ (pos_quo (r := last) (s := 1073741824) hll (by omega) (by omega))
      rw [hhalf] at kh
      have hu1 := upper_le (f := full) (by omega)
      have hu2 := upper_pos (f := full) (by omega) (by omega)
      have h3l := three_le (f := full) (by omega)
      have k3 := fun w => run_float_arith (P := Try.prog) w .mul 25 _ _ _ _ (pos_mul (r := full) (s := 1077936128) hfl (by omega))
      have k4 := fun w => run_float_arith (P := Try.prog) w .quo 25 _ _ _ _ (pos_quo (r := mulRung Ieee.single full 1077936128) (s := 1082130432) (by omega) (by omega) (by omega))
      have hup' : upper full = quoRung Ieee.single (mulRung Ieee.single full 1077936128) 1082130432 := rfl
      rw [← hup'] at k4
      clear hup'
      obtain ⟨up, hup⟩ : ∃ u, upper full = u := ⟨_, rfl⟩
      obtain ⟨t3, ht3⟩ : ∃ u, mulRung Ieee.single full 1077936128 = u := ⟨_, rfl⟩
      rw [hup] at hu1 hu2 k4
      rw [ht3] at k3 k4
      clear hup ht3 h3l hhalf hlo hhi
      have hfpos : 0 < full := by omega
      go_wp2_with fail
      refine (once_any' base B 2 _ (Hr.out.2.2.1.alloc _) (by omega)).mono ?_
      rintro e w4 ⟨b1, rfl, hc4, ho4⟩
      have hR4 := (ho4.block wr.heap.size (by rw [sz_alloc]; omega) (by omega)).trans (block_new wr _)
      have H4 := Lib.hid (And.intro hc4 (((Only.refl B wr).alloc _).trans ho4))
      clear hc4 ho4
      cases b1
      · go_wp2_with fail
        refine (once_any' base B 3 _ H4.out.1 (by omega)).mono ?_
        rintro e w6a ⟨b2, rfl, hc6, ho6⟩
        have hR6a := (ho6.block wr.heap.size (lt_of_block hR4) (by omega)).trans hR4
        have H6a := Lib.hid (And.intro hc6 (H4.out.2.trans ho6))
        clear hc6 ho6
        cases b2
        · skip
          obtain ⟨q0, q1, q2, q3, q4⟩ := r_cells hR6a
          have hge := ge_pos (r := half) (s := full) (by omega) (by omega)
          unfold geB at hge
          by_cases hdu : full ≤ half
          · rw [decide_eq_true hdu] at hge
            obtain ⟨wz, hwz⟩ : ∃ x, w6a.setCell ⟨wr.heap.size, 1, none⟩ (.float .f32 0) = x := ⟨_, rfl⟩
            have hRz := r_set1 hR6a hwz
            obtain ⟨z0, z1, z2, z3, z4⟩ := r_cells hRz
            have Hz := Lib.hid (show Cur base wz B ∧ Only B wr wz by rw [← hwz]; exact ⟨cur_new H6a.out.1 hBr _ _, only_new H6a.out.2 (Nat.le_refl _) _ _⟩)
            clear hRz
            have Hown := Lib.hid ((owns_only Hr.out.2.1 Hz.out.2 hBw).alloc (.cells #[.float .f32 full, .float .f32 0, .float .f32 full] 37))
            have hbs : w.heap.size ≤ (wz.alloc (.cells #[.float .f32 full, .float .f32 0, .float .f32 full] 37)).heap.size := by have := Hr.out.2.2.2.size; have := Hz.out.2.size; rw [sz_alloc]; omega
            have Hst' := Lib.hid (fun c => Hr.out.1.next (c := c) hi5 (d := 0) (u := full) (Nat.le_refl _) (by omega) (Nat.zero_le _))
            go_wp2_with (at_builtin; refine wpList_append_own _ rfl _ _ 24 rfl w.heap.size 37 i0 (rv 0 0 0) 3 12 Try.underlying24 Hi.out.1 Hi.out.2.1 Hi.out.2.2.1 Hi.out.2.2.2 rfl (by decide) _ _ _ rfl Hown.out ⟨wz.heap.size, 0, none⟩ 1 1 [.float .f32 full, .float .f32 0, .float .f32 full] rfl rfl (new_cells _ _ _) (one3 _ _ _) hn63 hnby hbs ?_; intro v9 w9 hown9 hg9 _)
            have H9 := Lib.hid (show w9.ownsRow w.heap.size 37 3 v9 (i + 1) (vals (putX X i full 0 full) ((i + 1) * 3)) ∧ Cur base w9 B ∧ Only B w w9 from ⟨by rw [← vals_put]; exact hown9, cur_grown (Hz.out.1.alloc _) hg9 (fun k hk => by have := (Hown.out.lt k hk).1; omega), only_grown ((Hr.out.2.2.2.trans Hz.out.2).alloc _) hg9 (fun k hk => (Hown.out.lt k hk).1)⟩)
            have hlt9 := H9.out.2.1.lt
            clear hown9 hg9
            go_wp2_with fail
            refine (pick_q (fun r => r = 2 ∨ r = 3 ∨ r = 10) base B w9.heap.size 3 _ _ _ (H9.out.2.1.alloc _) (by omega) (by omega) (block_new _ _) (by omega) (three_i (.inl rfl) (.inr (.inl rfl)) (.inr (.inr rfl)))).mono ?_
            rintro e w10 ⟨y, hy, rfl, hc10, ho10⟩
            have H10 := Lib.hid (And.intro (owns_only (H9.out.1.alloc _) ho10 hBw) (And.intro hc10 ((H9.out.2.2.alloc _).trans ho10)))
            clear hc10 ho10
            obtain ⟨fc, hfc⟩ : ∃ fc, floatOfInt .f32 y = fc := ⟨_, rfl⟩
            have bc : 1073741824 ≤ fc ∧ fc ≤ 1098907648 := by
              rw [← hfc]
              rcases hy with rfl | rfl | rfl
              · rw [ofInt_2]; omega
              · rw [ofInt_3]; omega
              · rw [ofInt_10]; omega
            have km := fun w => run_float_arith (P := Try.prog) w .mul 25 _ _ _ _ (pos_mul (r := full) (s := fc) hfl (by omega))
            have Hs' := Lib.hid (Hst'.out fc bc.1 bc.2)
            obtain ⟨fn, hfn⟩ : ∃ f, mulRung Ieee.single full fc = f := ⟨_, rfl⟩
            rw [hfn] at Hs' km
            clear hfn bc hy
            go_wp2_with fail
            go_roundw
            case rel => exact ⟨i + 1, m, putX X i full 0 full, fn, full, rfl, rfl, by go_num, by omega, Hs'.out, H10.out.1, H10.out.2.1, H10.out.2.2⟩
            case measure => simp [intOf]
          · rw [decide_eq_false hdu] at hge
            have Hown := Lib.hid ((owns_only Hr.out.2.1 H6a.out.2 hBw).alloc (.cells #[.float .f32 full, .float .f32 half, .float .f32 full] 37))
            have hbs : w.heap.size ≤ (w6a.alloc (.cells #[.float .f32 full, .float .f32 half, .float .f32 full] 37)).heap.size := by have := Hr.out.2.2.2.size; have := H6a.out.2.size; rw [sz_alloc]; omega
            have Hst' := Lib.hid (fun c => Hr.out.1.next (c := c) hi5 (d := half) (u := full) (Nat.le_refl _) (by omega) (by omega))
            go_wp2_with (at_builtin; refine wpList_append_own _ rfl _ _ 24 rfl w.heap.size 37 i0 (rv 0 0 0) 3 12 Try.underlying24 Hi.out.1 Hi.out.2.1 Hi.out.2.2.1 Hi.out.2.2.2 rfl (by decide) _ _ _ rfl Hown.out ⟨w6a.heap.size, 0, none⟩ 1 1 [.float .f32 full, .float .f32 half, .float .f32 full] rfl rfl (new_cells _ _ _) (one3 _ _ _) hn63 hnby hbs ?_; intro v9 w9 hown9 hg9 _)
            have H9 := Lib.hid (show w9.ownsRow w.heap.size 37 3 v9 (i + 1) (vals (putX X i full half full) ((i + 1) * 3)) ∧ Cur base w9 B ∧ Only B w w9 from ⟨by rw [← vals_put]; exact hown9, cur_grown (H6a.out.1.alloc _) hg9 (fun k hk => by have := (Hown.out.lt k hk).1; omega), only_grown ((Hr.out.2.2.2.trans H6a.out.2).alloc _) hg9 (fun k hk => (Hown.out.lt k hk).1)⟩)
            have hlt9 := H9.out.2.1.lt
            clear hown9 hg9
            go_wp2_with fail
            refine (pick_q (fun r => r = 2 ∨ r = 3 ∨ r = 10) base B w9.heap.size 3 _ _ _ (H9.out.2.1.alloc _) (by omega) (by omega) (block_new _ _) (by omega) (three_i (.inl rfl) (.inr (.inl rfl)) (.inr (.inr rfl)))).mono ?_
            rintro e w10 ⟨y, hy, rfl, hc10, ho10⟩
            have H10 := Lib.hid (And.intro (owns_only (H9.out.1.alloc _) ho10 hBw) (And.intro hc10 ((H9.out.2.2.alloc _).trans ho10)))
            clear hc10 ho10
            obtain ⟨fc, hfc⟩ : ∃ fc, floatOfInt .f32 y = fc := ⟨_, rfl⟩
            have bc : 1073741824 ≤ fc ∧ fc ≤ 1098907648 := by
              rw [← hfc]
              rcases hy with rfl | rfl | rfl
              · rw [ofInt_2]; omega
              · rw [ofInt_3]; omega
              · rw [ofInt_10]; omega
            have km := fun w => run_float_arith (P := Try.prog) w .mul 25 _ _ _ _ (pos_mul (r := full) (s := fc) hfl (by omega))
            have Hs' := Lib.hid (Hst'.out fc bc.1 bc.2)
            obtain ⟨fn, hfn⟩ : ∃ f, mulRung Ieee.single full fc = f := ⟨_, rfl⟩
            rw [hfn] at Hs' km
            clear hfn bc hy
            go_wp2_with fail
            go_roundw
            case rel => exact ⟨i + 1, m, putX X i full half full, fn, full, rfl, rfl, by go_num, by omega, Hs'.out, H10.out.1, H10.out.2.1, H10.out.2.2⟩
            case measure => simp [intOf]
        · obtain ⟨w7, hw7⟩ : ∃ x, w6a.setCell ⟨wr.heap.size, 1, none⟩ (.float .f32 last) = x := ⟨_, rfl⟩
          have hR7 := r_set1 hR6a hw7
          obtain ⟨p0, p1, p2, p3, p4⟩ := r_cells hR6a
          have H7 := Lib.hid (show Cur base w7 B ∧ Only B wr w7 by rw [← hw7]; exact ⟨cur_new H6a.out.1 hBr _ _, only_new H6a.out.2 (Nat.le_refl _) _ _⟩)
          obtain ⟨q0, q1, q2, q3, q4⟩ := r_cells hR7
          have hge := ge_pos (r := last) (s := full) (by omega) (by omega)
          unfold geB at hge
          by_cases hdu : full ≤ last
          · rw [decide_eq_true hdu] at hge
            obtain ⟨wz, hwz⟩ : ∃ x, w7.setCell ⟨wr.heap.size, 1, none⟩ (.float .f32 0) = x := ⟨_, rfl⟩
            have hRz := r_set1 hR7 hwz
            obtain ⟨z0, z1, z2, z3, z4⟩ := r_cells hRz
            have Hz := Lib.hid (show Cur base wz B ∧ Only B wr wz by rw [← hwz]; exact ⟨cur_new H7.out.1 hBr _ _, only_new H7.out.2 (Nat.le_refl _) _ _⟩)
            clear hRz
            have Hown := Lib.hid ((owns_only Hr.out.2.1 Hz.out.2 hBw).alloc (.cells #[.float .f32 full, .float .f32 0, .float .f32 full] 37))
            have hbs : w.heap.size ≤ (wz.alloc (.cells #[.float .f32 full, .float .f32 0, .float .f32 full] 37)).heap.size := by have := Hr.out.2.2.2.size; have := Hz.out.2.size; rw [sz_alloc]; omega
            have Hst' := Lib.hid (fun c => Hr.out.1.next (c := c) hi5 (d := 0) (u := full) (Nat.le_refl _) (by omega) (Nat.zero_le _))
            go_wp2_with (at_builtin; refine wpList_append_own _ rfl _ _ 24 rfl w.heap.size 37 i0 (rv 0 0 0) 3 12 Try.underlying24 Hi.out.1 Hi.out.2.1 Hi.out.2.2.1 Hi.out.2.2.2 rfl (by decide) _ _ _ rfl Hown.out ⟨wz.heap.size, 0, none⟩ 1 1 [.float .f32 full, .float .f32 0, .float .f32 full] rfl rfl (new_cells _ _ _) (one3 _ _ _) hn63 hnby hbs ?_; intro v9 w9 hown9 hg9 _)
            have H9 := Lib.hid (show w9.ownsRow w.heap.size 37 3 v9 (i + 1) (vals (putX X i full 0 full) ((i + 1) * 3)) ∧ Cur base w9 B ∧ Only B w w9 from ⟨by rw [← vals_put]; exact hown9, cur_grown (Hz.out.1.alloc _) hg9 (fun k hk => by have := (Hown.out.lt k hk).1; omega), only_grown ((Hr.out.2.2.2.trans Hz.out.2).alloc _) hg9 (fun k hk => (Hown.out.lt k hk).1)⟩)
            have hlt9 := H9.out.2.1.lt
            clear hown9 hg9
            go_wp2_with fail
            refine (pick_q (fun r => r = 2 ∨ r = 3 ∨ r = 10) base B w9.heap.size 3 _ _ _ (H9.out.2.1.alloc _) (by omega) (by omega) (block_new _ _) (by omega) (three_i (.inl rfl) (.inr (.inl rfl)) (.inr (.inr rfl)))).mono ?_
            rintro e w10 ⟨y, hy, rfl, hc10, ho10⟩
            have H10 := Lib.hid (And.intro (owns_only (H9.out.1.alloc _) ho10 hBw) (And.intro hc10 ((H9.out.2.2.alloc _).trans ho10)))
            clear hc10 ho10
            obtain ⟨fc, hfc⟩ : ∃ fc, floatOfInt .f32 y = fc := ⟨_, rfl⟩
            have bc : 1073741824 ≤ fc ∧ fc ≤ 1098907648 := by
              rw [← hfc]
              rcases hy with rfl | rfl | rfl
              · rw [ofInt_2]; omega
              · rw [ofInt_3]; omega
              · rw [ofInt_10]; omega
            have km := fun w => run_float_arith (P := Try.prog) w .mul 25 _ _ _ _ (pos_mul (r := full) (s := fc) hfl (by omega))
            have Hs' := Lib.hid (Hst'.out fc bc.1 bc.2)
            obtain ⟨fn, hfn⟩ : ∃ f, mulRung Ieee.single full fc = f := ⟨_, rfl⟩
            rw [hfn] at Hs' km
            clear hfn bc hy
            go_wp2_with fail
            go_roundw
            case rel => exact ⟨i + 1, m, putX X i full 0 full, fn, full, rfl, rfl, by go_num, by omega, Hs'.out, H10.out.1, H10.out.2.1, H10.out.2.2⟩
            case measure => simp [intOf]
          · rw [decide_eq_false hdu] at hge
            have Hown := Lib.hid ((owns_only Hr.out.2.1 H7.out.2 hBw).alloc (.cells #[.float .f32 full, .float .f32 last, .float .f32 full] 37))
            have hbs : w.heap.size ≤ (w7.alloc (.cells #[.float .f32 full, .float .f32 last, .float .f32 full] 37)).heap.size := by have := Hr.out.2.2.2.size; have := H7.out.2.size; rw [sz_alloc]; omega
            have Hst' := Lib.hid (fun c => Hr.out.1.next (c := c) hi5 (d := last) (u := full) (Nat.le_refl _) (by omega) (Nat.le_refl _))
            go_wp2_with (at_builtin; refine wpList_append_own _ rfl _ _ 24 rfl w.heap.size 37 i0 (rv 0 0 0) 3 12 Try.underlying24 Hi.out.1 Hi.out.2.1 Hi.out.2.2.1 Hi.out.2.2.2 rfl (by decide) _ _ _ rfl Hown.out ⟨w7.heap.size, 0, none⟩ 1 1 [.float .f32 full, .float .f32 last, .float .f32 full] rfl rfl (new_cells _ _ _) (one3 _ _ _) hn63 hnby hbs ?_; intro v9 w9 hown9 hg9 _)
            have H9 := Lib.hid (show w9.ownsRow w.heap.size 37 3 v9 (i + 1) (vals (putX X i full last full) ((i + 1) * 3)) ∧ Cur base w9 B ∧ Only B w w9 from ⟨by rw [← vals_put]; exact hown9, cur_grown (H7.out.1.alloc _) hg9 (fun k hk => by have := (Hown.out.lt k hk).1; omega), only_grown ((Hr.out.2.2.2.trans H7.out.2).alloc _) hg9 (fun k hk => (Hown.out.lt k hk).1)⟩)
            have hlt9 := H9.out.2.1.lt
            clear hown9 hg9
            go_wp2_with fail
            refine (pick_q (fun r => r = 2 ∨ r = 3 ∨ r = 10) base B w9.heap.size 3 _ _ _ (H9.out.2.1.alloc _) (by omega) (by omega) (block_new _ _) (by omega) (three_i (.inl rfl) (.inr (.inl rfl)) (.inr (.inr rfl)))).mono ?_
            rintro e w10 ⟨y, hy, rfl, hc10, ho10⟩
            have H10 := Lib.hid (And.intro (owns_only (H9.out.1.alloc _) ho10 hBw) (And.intro hc10 ((H9.out.2.2.alloc _).trans ho10)))
            clear hc10 ho10
            obtain ⟨fc, hfc⟩ : ∃ fc, floatOfInt .f32 y = fc := ⟨_, rfl⟩
            have bc : 1073741824 ≤ fc ∧ fc ≤ 1098907648 := by
              rw [← hfc]
              rcases hy with rfl | rfl | rfl
              · rw [ofInt_2]; omega
              · rw [ofInt_3]; omega
              · rw [ofInt_10]; omega
            have km := fun w => run_float_arith (P := Try.prog) w .mul 25 _ _ _ _ (pos_mul (r := full) (s := fc) hfl (by omega))
            have Hs' := Lib.hid (Hst'.out fc bc.1 bc.2)
            obtain ⟨fn, hfn⟩ : ∃ f, mulRung Ieee.single full fc = f := ⟨_, rfl⟩
            rw [hfn] at Hs' km
            clear hfn bc hy
            go_wp2_with fail
            go_roundw
            case rel => exact ⟨i + 1, m, putX X i full last full, fn, full, rfl, rfl, by go_num, by omega, Hs'.out, H10.out.1, H10.out.2.1, H10.out.2.2⟩
            case measure => simp [intOf]
      · obtain ⟨c0, c1, c2, c3, c4⟩ := r_cells hR4
        obtain ⟨w5, hw5⟩ : ∃ x, w4.setCell ⟨wr.heap.size, 2, none⟩ (.float .f32 up) = x := ⟨_, rfl⟩
        have hR5 := r_set2 hR4 hw5
        have H5 := Lib.hid (show Cur base w5 B ∧ Only B wr w5 by rw [← hw5]; exact ⟨cur_new H4.out.1 hBr _ _, only_new H4.out.2 (Nat.le_refl _) _ _⟩)
        go_wp2_with fail
        refine (once_any' base B 3 _ H5.out.1 (by omega)).mono ?_
        rintro e w6b ⟨b2, rfl, hc6, ho6⟩
        have hR6b := (ho6.block wr.heap.size (lt_of_block hR5) (by omega)).trans hR5
        have H6b := Lib.hid (And.intro hc6 (H5.out.2.trans ho6))
        clear hc6 ho6
        cases b2
        · skip
          obtain ⟨q0, q1, q2, q3, q4⟩ := r_cells hR6b
          have hge := ge_pos (r := half) (s := up) (by omega) (by omega)
          unfold geB at hge
          by_cases hdu : up ≤ half
          · rw [decide_eq_true hdu] at hge
            obtain ⟨wz, hwz⟩ : ∃ x, w6b.setCell ⟨wr.heap.size, 1, none⟩ (.float .f32 0) = x := ⟨_, rfl⟩
            have hRz := r_set1 hR6b hwz
            obtain ⟨z0, z1, z2, z3, z4⟩ := r_cells hRz
            have Hz := Lib.hid (show Cur base wz B ∧ Only B wr wz by rw [← hwz]; exact ⟨cur_new H6b.out.1 hBr _ _, only_new H6b.out.2 (Nat.le_refl _) _ _⟩)
            clear hRz
            have Hown := Lib.hid ((owns_only Hr.out.2.1 Hz.out.2 hBw).alloc (.cells #[.float .f32 full, .float .f32 0, .float .f32 up] 37))
            have hbs : w.heap.size ≤ (wz.alloc (.cells #[.float .f32 full, .float .f32 0, .float .f32 up] 37)).heap.size := by have := Hr.out.2.2.2.size; have := Hz.out.2.size; rw [sz_alloc]; omega
            have Hst' := Lib.hid (fun c => Hr.out.1.next (c := c) hi5 (d := 0) (u := up) hu1 (by omega) (Nat.zero_le _))
            go_wp2_with (at_builtin; refine wpList_append_own _ rfl _ _ 24 rfl w.heap.size 37 i0 (rv 0 0 0) 3 12 Try.underlying24 Hi.out.1 Hi.out.2.1 Hi.out.2.2.1 Hi.out.2.2.2 rfl (by decide) _ _ _ rfl Hown.out ⟨wz.heap.size, 0, none⟩ 1 1 [.float .f32 full, .float .f32 0, .float .f32 up] rfl rfl (new_cells _ _ _) (one3 _ _ _) hn63 hnby hbs ?_; intro v9 w9 hown9 hg9 _)
            have H9 := Lib.hid (show w9.ownsRow w.heap.size 37 3 v9 (i + 1) (vals (putX X i full 0 up) ((i + 1) * 3)) ∧ Cur base w9 B ∧ Only B w w9 from ⟨by rw [← vals_put]; exact hown9, cur_grown (Hz.out.1.alloc _) hg9 (fun k hk => by have := (Hown.out.lt k hk).1; omega), only_grown ((Hr.out.2.2.2.trans Hz.out.2).alloc _) hg9 (fun k hk => (Hown.out.lt k hk).1)⟩)
            have hlt9 := H9.out.2.1.lt
            clear hown9 hg9
            go_wp2_with fail
            refine (pick_q (fun r => r = 2 ∨ r = 3 ∨ r = 10) base B w9.heap.size 3 _ _ _ (H9.out.2.1.alloc _) (by omega) (by omega) (block_new _ _) (by omega) (three_i (.inl rfl) (.inr (.inl rfl)) (.inr (.inr rfl)))).mono ?_
            rintro e w10 ⟨y, hy, rfl, hc10, ho10⟩
            have H10 := Lib.hid (And.intro (owns_only (H9.out.1.alloc _) ho10 hBw) (And.intro hc10 ((H9.out.2.2.alloc _).trans ho10)))
            clear hc10 ho10
            obtain ⟨fc, hfc⟩ : ∃ fc, floatOfInt .f32 y = fc := ⟨_, rfl⟩
            have bc : 1073741824 ≤ fc ∧ fc ≤ 1098907648 := by
              rw [← hfc]
              rcases hy with rfl | rfl | rfl
              · rw [ofInt_2]; omega
              · rw [ofInt_3]; omega
              · rw [ofInt_10]; omega
            have km := fun w => run_float_arith (P := Try.prog) w .mul 25 _ _ _ _ (pos_mul (r := full) (s := fc) hfl (by omega))
            have Hs' := Lib.hid (Hst'.out fc bc.1 bc.2)
            obtain ⟨fn, hfn⟩ : ∃ f, mulRung Ieee.single full fc = f := ⟨_, rfl⟩
            rw [hfn] at Hs' km
            clear hfn bc hy
            go_wp2_with fail
            go_roundw
            case rel => exact ⟨i + 1, m, putX X i full 0 up, fn, up, rfl, rfl, by go_num, by omega, Hs'.out, H10.out.1, H10.out.2.1, H10.out.2.2⟩
            case measure => simp [intOf]
          · rw [decide_eq_false hdu] at hge
            have Hown := Lib.hid ((owns_only Hr.out.2.1 H6b.out.2 hBw).alloc (.cells #[.float .f32 full, .float .f32 half, .float .f32 up] 37))
            have hbs : w.heap.size ≤ (w6b.alloc (.cells #[.float .f32 full, .float .f32 half, .float .f32 up] 37)).heap.size := by have := Hr.out.2.2.2.size; have := H6b.out.2.size; rw [sz_alloc]; omega
            have Hst' := Lib.hid (fun c => Hr.out.1.next (c := c) hi5 (d := half) (u := up) hu1 (by omega) (by omega))
            go_wp2_with (at_builtin; refine wpList_append_own _ rfl _ _ 24 rfl w.heap.size 37 i0 (rv 0 0 0) 3 12 Try.underlying24 Hi.out.1 Hi.out.2.1 Hi.out.2.2.1 Hi.out.2.2.2 rfl (by decide) _ _ _ rfl Hown.out ⟨w6b.heap.size, 0, none⟩ 1 1 [.float .f32 full, .float .f32 half, .float .f32 up] rfl rfl (new_cells _ _ _) (one3 _ _ _) hn63 hnby hbs ?_; intro v9 w9 hown9 hg9 _)
            have H9 := Lib.hid (show w9.ownsRow w.heap.size 37 3 v9 (i + 1) (vals (putX X i full half up) ((i + 1) * 3)) ∧ Cur base w9 B ∧ Only B w w9 from ⟨by rw [← vals_put]; exact hown9, cur_grown (H6b.out.1.alloc _) hg9 (fun k hk => by have := (Hown.out.lt k hk).1; omega), only_grown ((Hr.out.2.2.2.trans H6b.out.2).alloc _) hg9 (fun k hk => (Hown.out.lt k hk).1)⟩)
            have hlt9 := H9.out.2.1.lt
            clear hown9 hg9
            go_wp2_with fail
            refine (pick_q (fun r => r = 2 ∨ r = 3 ∨ r = 10) base B w9.heap.size 3 _ _ _ (H9.out.2.1.alloc _) (by omega) (by omega) (block_new _ _) (by omega) (three_i (.inl rfl) (.inr (.inl rfl)) (.inr (.inr rfl)))).mono ?_
            rintro e w10 ⟨y, hy, rfl, hc10, ho10⟩
            have H10 := Lib.hid (And.intro (owns_only (H9.out.1.alloc _) ho10 hBw) (And.intro hc10 ((H9.out.2.2.alloc _).trans ho10)))
            clear hc10 ho10
            obtain ⟨fc, hfc⟩ : ∃ fc, floatOfInt .f32 y = fc := ⟨_, rfl⟩
            have bc : 1073741824 ≤ fc ∧ fc ≤ 1098907648 := by
              rw [← hfc]
              rcases hy with rfl | rfl | rfl
              · rw [ofInt_2]; omega
              · rw [ofInt_3]; omega
              · rw [ofInt_10]; omega
            have km := fun w => run_float_arith (P := Try.prog) w .mul 25 _ _ _ _ (pos_mul (r := full) (s := fc) hfl (by omega))
            have Hs' := Lib.hid (Hst'.out fc bc.1 bc.2)
            obtain ⟨fn, hfn⟩ : ∃ f, mulRung Ieee.single full fc = f := ⟨_, rfl⟩
            rw [hfn] at Hs' km
            clear hfn bc hy
            go_wp2_with fail
            go_roundw
            case rel => exact ⟨i + 1, m, putX X i full half up, fn, up, rfl, rfl, by go_num, by omega, Hs'.out, H10.out.1, H10.out.2.1, H10.out.2.2⟩
            case measure => simp [intOf]
        · obtain ⟨w7, hw7⟩ : ∃ x, w6b.setCell ⟨wr.heap.size, 1, none⟩ (.float .f32 last) = x := ⟨_, rfl⟩
          have hR7 := r_set1 hR6b hw7
          obtain ⟨p0, p1, p2, p3, p4⟩ := r_cells hR6b
          have H7 := Lib.hid (show Cur base w7 B ∧ Only B wr w7 by rw [← hw7]; exact ⟨cur_new H6b.out.1 hBr _ _, only_new H6b.out.2 (Nat.le_refl _) _ _⟩)
          obtain ⟨q0, q1, q2, q3, q4⟩ := r_cells hR7
          have hge := ge_pos (r := last) (s := up) (by omega) (by omega)
          unfold geB at hge
          by_cases hdu : up ≤ last
          · rw [decide_eq_true hdu] at hge
            obtain ⟨wz, hwz⟩ : ∃ x, w7.setCell ⟨wr.heap.size, 1, none⟩ (.float .f32 0) = x := ⟨_, rfl⟩
            have hRz := r_set1 hR7 hwz
            obtain ⟨z0, z1, z2, z3, z4⟩ := r_cells hRz
            have Hz := Lib.hid (show Cur base wz B ∧ Only B wr wz by rw [← hwz]; exact ⟨cur_new H7.out.1 hBr _ _, only_new H7.out.2 (Nat.le_refl _) _ _⟩)
            clear hRz
            have Hown := Lib.hid ((owns_only Hr.out.2.1 Hz.out.2 hBw).alloc (.cells #[.float .f32 full, .float .f32 0, .float .f32 up] 37))
            have hbs : w.heap.size ≤ (wz.alloc (.cells #[.float .f32 full, .float .f32 0, .float .f32 up] 37)).heap.size := by have := Hr.out.2.2.2.size; have := Hz.out.2.size; rw [sz_alloc]; omega
            have Hst' := Lib.hid (fun c => Hr.out.1.next (c := c) hi5 (d := 0) (u := up) hu1 (by omega) (Nat.zero_le _))
            go_wp2_with (at_builtin; refine wpList_append_own _ rfl _ _ 24 rfl w.heap.size 37 i0 (rv 0 0 0) 3 12 Try.underlying24 Hi.out.1 Hi.out.2.1 Hi.out.2.2.1 Hi.out.2.2.2 rfl (by decide) _ _ _ rfl Hown.out ⟨wz.heap.size, 0, none⟩ 1 1 [.float .f32 full, .float .f32 0, .float .f32 up] rfl rfl (new_cells _ _ _) (one3 _ _ _) hn63 hnby hbs ?_; intro v9 w9 hown9 hg9 _)
            have H9 := Lib.hid (show w9.ownsRow w.heap.size 37 3 v9 (i + 1) (vals (putX X i full 0 up) ((i + 1) * 3)) ∧ Cur base w9 B ∧ Only B w w9 from ⟨by rw [← vals_put]; exact hown9, cur_grown (Hz.out.1.alloc _) hg9 (fun k hk => by have := (Hown.out.lt k hk).1; omega), only_grown ((Hr.out.2.2.2.trans Hz.out.2).alloc _) hg9 (fun k hk => (Hown.out.lt k hk).1)⟩)
            have hlt9 := H9.out.2.1.lt
            clear hown9 hg9
            go_wp2_with fail
            refine (pick_q (fun r => r = 2 ∨ r = 3 ∨ r = 10) base B w9.heap.size 3 _ _ _ (H9.out.2.1.alloc _) (by omega) (by omega) (block_new _ _) (by omega) (three_i (.inl rfl) (.inr (.inl rfl)) (.inr (.inr rfl)))).mono ?_
            rintro e w10 ⟨y, hy, rfl, hc10, ho10⟩
            have H10 := Lib.hid (And.intro (owns_only (H9.out.1.alloc _) ho10 hBw) (And.intro hc10 ((H9.out.2.2.alloc _).trans ho10)))
            clear hc10 ho10
            obtain ⟨fc, hfc⟩ : ∃ fc, floatOfInt .f32 y = fc := ⟨_, rfl⟩
            have bc : 1073741824 ≤ fc ∧ fc ≤ 1098907648 := by
              rw [← hfc]
              rcases hy with rfl | rfl | rfl
              · rw [ofInt_2]; omega
              · rw [ofInt_3]; omega
              · rw [ofInt_10]; omega
            have km := fun w => run_float_arith (P := Try.prog) w .mul 25 _ _ _ _ (pos_mul (r := full) (s := fc) hfl (by omega))
            have Hs' := Lib.hid (Hst'.out fc bc.1 bc.2)
            obtain ⟨fn, hfn⟩ : ∃ f, mulRung Ieee.single full fc = f := ⟨_, rfl⟩
            rw [hfn] at Hs' km
            clear hfn bc hy
            go_wp2_with fail
            go_roundw
            case rel => exact ⟨i + 1, m, putX X i full 0 up, fn, up, rfl, rfl, by go_num, by omega, Hs'.out, H10.out.1, H10.out.2.1, H10.out.2.2⟩
            case measure => simp [intOf]
          · rw [decide_eq_false hdu] at hge
            have Hown := Lib.hid ((owns_only Hr.out.2.1 H7.out.2 hBw).alloc (.cells #[.float .f32 full, .float .f32 last, .float .f32 up] 37))
            have hbs : w.heap.size ≤ (w7.alloc (.cells #[.float .f32 full, .float .f32 last, .float .f32 up] 37)).heap.size := by have := Hr.out.2.2.2.size; have := H7.out.2.size; rw [sz_alloc]; omega
            have Hst' := Lib.hid (fun c => Hr.out.1.next (c := c) hi5 (d := last) (u := up) hu1 (by omega) (Nat.le_refl _))
            go_wp2_with (at_builtin; refine wpList_append_own _ rfl _ _ 24 rfl w.heap.size 37 i0 (rv 0 0 0) 3 12 Try.underlying24 Hi.out.1 Hi.out.2.1 Hi.out.2.2.1 Hi.out.2.2.2 rfl (by decide) _ _ _ rfl Hown.out ⟨w7.heap.size, 0, none⟩ 1 1 [.float .f32 full, .float .f32 last, .float .f32 up] rfl rfl (new_cells _ _ _) (one3 _ _ _) hn63 hnby hbs ?_; intro v9 w9 hown9 hg9 _)
            have H9 := Lib.hid (show w9.ownsRow w.heap.size 37 3 v9 (i + 1) (vals (putX X i full last up) ((i + 1) * 3)) ∧ Cur base w9 B ∧ Only B w w9 from ⟨by rw [← vals_put]; exact hown9, cur_grown (H7.out.1.alloc _) hg9 (fun k hk => by have := (Hown.out.lt k hk).1; omega), only_grown ((Hr.out.2.2.2.trans H7.out.2).alloc _) hg9 (fun k hk => (Hown.out.lt k hk).1)⟩)
            have hlt9 := H9.out.2.1.lt
            clear hown9 hg9
            go_wp2_with fail
            refine (pick_q (fun r => r = 2 ∨ r = 3 ∨ r = 10) base B w9.heap.size 3 _ _ _ (H9.out.2.1.alloc _) (by omega) (by omega) (block_new _ _) (by omega) (three_i (.inl rfl) (.inr (.inl rfl)) (.inr (.inr rfl)))).mono ?_
            rintro e w10 ⟨y, hy, rfl, hc10, ho10⟩
            have H10 := Lib.hid (And.intro (owns_only (H9.out.1.alloc _) ho10 hBw) (And.intro hc10 ((H9.out.2.2.alloc _).trans ho10)))
            clear hc10 ho10
            obtain ⟨fc, hfc⟩ : ∃ fc, floatOfInt .f32 y = fc := ⟨_, rfl⟩
            have bc : 1073741824 ≤ fc ∧ fc ≤ 1098907648 := by
              rw [← hfc]
              rcases hy with rfl | rfl | rfl
              · rw [ofInt_2]; omega
              · rw [ofInt_3]; omega
              · rw [ofInt_10]; omega
            have km := fun w => run_float_arith (P := Try.prog) w .mul 25 _ _ _ _ (pos_mul (r := full) (s := fc) hfl (by omega))
            have Hs' := Lib.hid (Hst'.out fc bc.1 bc.2)
            obtain ⟨fn, hfn⟩ : ∃ f, mulRung Ieee.single full fc = f := ⟨_, rfl⟩
            rw [hfn] at Hs' km
            clear hfn bc hy
            go_wp2_with fail
            go_roundw
            case rel => exact ⟨i + 1, m, putX X i full last up, fn, up, rfl, rfl, by go_num, by omega, Hs'.out, H10.out.1, H10.out.2.1, H10.out.2.2⟩
            case measure => simp [intOf]
end Go.Proofs.Ytmnpmbliikalhaa.Rng
