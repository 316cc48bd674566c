/- The model's draw of a table: a valid one; of a number in it. -/
import Derived.Test.YtbmojogohffhaaaTabD
import Derived.Test.YtbmojogohffhaaaPickQ
import Derived.Test.YtbmojogohffhaaaDrawF
namespace Go.Proofs.Ytbmojogohffhaaa.Pnt
open Go.ChangeShapes Go.WideShapes Go.ChangeAt Go.RowKit Go.Deep Go.Proofs.Ytbmojogohffhaaa Go.Proofs.Ytbmojogohffhaaa.Flt Go.Proofs.Ytbmojogohffhaaa.Mth Go.Proofs.Ytbmojogohffhaaa.Drw
open Ieee (single double)
set_option linter.unusedVariables false
theorem only_new {B : Nat} {a w : World} (h : Only B a w) {R : Nat} (hR : a.heap.size ≤ R) (o : Nat) (u : Value) : Only B a (w.setCell ⟨R, o, none⟩ u) :=
  ⟨h.os, h.tape, h.output, by simpa [World.setCell] using h.size, fun k hk hn => (Below.heap_setCell _ _ _ _ (by show k ≠ R; omega)).trans (h.block k hk hn)⟩
theorem only_grown {B : Nat} {a w w' : World} {row : Option Nat} (h : Only B a w) (hg : w.grownBy w' row) (hr : ∀ k, row = some k → a.heap.size ≤ k) : Only B a w' :=
  ⟨hg.os.trans h.os, hg.tape.trans h.tape, hg.output.trans h.output, Nat.le_trans h.size hg.size, fun k hk hn => (hg.block k (Nat.lt_of_lt_of_le hk h.size) (fun e => by have := hr k e.symm; omega)).trans (h.block k hk hn)⟩
theorem owns_only {B : Nat} {w w' : World} {base e size n : Nat} {v : Value} {xs : List Value} (h : w.ownsRow base e size v n xs) (ho : Only B w w') (hB : B < base) : w'.ownsRow base e size v n xs := by
  refine ⟨h.1, ?_⟩
  rcases h.2 with hn | ⟨g, cap, cur, rfl, hb, hg, rest⟩
  · exact .inl hn
  · exact .inr ⟨g, cap, cur, rfl, hb, (ho.block g (lt_of_block hg) (by omega)).trans hg, rest⟩
theorem cur_grown {base B : Nat} {w w' : World} {row : Option Nat} (hc : Cur base w B) (hg : w.grownBy w' row) (hr : ∀ k, row = some k → B < k) : Cur base w' B := by
  have hB := hc.1
  have hlt := hc.lt
  obtain ⟨_, a, len, cap, zs, i, h, hb, h0, h1, hr', ha⟩ := hc
  exact Cur.mk' hB hr' ha ((Below.refl base w).grown hg (by omega) (fun k hk => by have := hr k hk; omega)) h0 h1 ((hg.block B hlt (fun e => by have := hr B e.symm; omega)).trans hb)
/-- a small number has been drawn -/
def MildOut (base B : Nat) (w : World) (e : Ending) (w' : World) : Prop := ∃ r : Nat, At r 200 ∧ e = .returned (.float .f32 r) ∧ Cur base w' B ∧ Only B w w'
theorem seven_q {Q : Int → Prop} {a b c d e f g : Int} (ha : Q a) (hb : Q b) (hc : Q c) (hd : Q d) (he : Q e) (hf : Q f) (hg : Q g) : ∀ i, i < 7 → ∃ v : Int, (#[Value.int .i64 a, .int .i64 b, .int .i64 c, .int .i64 d, .int .i64 e, .int .i64 f, .int .i64 g])[i]? = some (.int .i64 v) ∧ Q v
  | 0, _ => ⟨_, rfl, ha⟩ | 1, _ => ⟨_, rfl, hb⟩ | 2, _ => ⟨_, rfl, hc⟩ | 3, _ => ⟨_, rfl, hd⟩ | 4, _ => ⟨_, rfl, he⟩ | 5, _ => ⟨_, rfl, hf⟩ | 6, _ => ⟨_, rfl, hg⟩
  | n + 7, h => by omega
theorem three_q {Q : Int → Prop} {a b c : Int} (ha : Q a) (hb : Q b) (hc : Q c) : ∀ i, i < 3 → ∃ v : Int, (#[Value.int .i64 a, .int .i64 b, .int .i64 c])[i]? = some (.int .i64 v) ∧ Q v
  | 0, _ => ⟨_, rfl, ha⟩ | 1, _ => ⟨_, rfl, hb⟩ | 2, _ => ⟨_, rfl, hc⟩
  | n + 3, h => by omega
def Sml (m : Nat) (y : Int) : Prop := ∃ c : Nat, y = (c : Int) ∧ 1 ≤ c ∧ c ≤ m
theorem wrap_small {n : Int} (h : -1000000 ≤ n) (h' : n ≤ 1000000) : wrap64 n = n := by unfold wrap64; omega
set_option maxHeartbeats 800000 in
theorem mildA_any (base B : Nat) (w : World) (hc : Cur base w B) :
    Calls Try.prog 65 #[.pointer (some ⟨B, 0, none⟩)] w (MildOut base B w) := by
  go_enter Try.func65, Try.ntmps65
  go_wp2_with fail
  refine (below_any base B _ _ hc (by omega)).mono ?_
  rintro e w1 ⟨r, r0, r1, rfl, hc1, ho1⟩
  have r2 := r1 (by omega)
  have Hc1 := Lib.hid hc1
  have Ho1 := Lib.hid ho1
  clear hc1 ho1 hc r1
  go_wp2_with fail
  have hlt := Hc1.out.lt
  refine (pick_q (Sml 16) base B w1.heap.size 7 _ _ _ (Hc1.out.alloc _) (by omega) (by omega) (block_new _ _) (by omega) (seven_q ⟨1, rfl, by omega, by omega⟩ ⟨1, rfl, by omega, by omega⟩ ⟨2, rfl, by omega, by omega⟩ ⟨4, rfl, by omega, by omega⟩ ⟨3, rfl, by omega, by omega⟩ ⟨10, rfl, by omega, by omega⟩ ⟨16, rfl, by omega, by omega⟩)).mono ?_
  rintro e w2 ⟨y, ⟨c, rfl, c1, c2⟩, rfl, hc2, ho2⟩
  have Hc2 := Lib.hid hc2
  have Ho2 := Lib.hid (((Ho1.out.alloc _)).trans ho2)
  clear hc2 ho2 hlt
  obtain ⟨k1, k2⟩ := mild_at (n := r - 200) (y := c) (by omega) c1 c2
  have kq := fun W => run_float_arith (P := Try.prog) W .quo 25 .f32 _ _ _ k1
  have K2 := Lib.hid k2
  clear k1 k2
  go_wp2_with fail
  go_ret
  exact ⟨_, K2.out, rfl, Hc2.out, Ho2.out⟩
/-- a valid table of two to six points -/
def TabOut (base B : Nat) (w : World) (e : Ending) (w' : World) : Prop := ∃ g n cap X, e = .returned (.slice (some ⟨g, 0, none⟩) n cap) ∧ 2 ≤ n ∧ n ≤ 6 ∧ okP n X = true ∧ Wf n X ∧ w.heap.size ≤ g ∧ g < w'.heap.size ∧ Cells w' g 0 n X ∧ Cur base w' B ∧ Only B w w' ∧ ∀ i, i < n → At (X (i * 2)) 440 ∧ At (X (i * 2 + 1)) 200
set_option maxHeartbeats 4000000 in
theorem table_any (base B : Nat) (w : World) (hc : Cur base w B) :
    Calls Try.prog 48 #[.pointer (some ⟨B, 0, none⟩)] w (TabOut base B w) := by
  have hBw := hc.lt
  obtain ⟨i0, hi, hz, hs, hby⟩ := info_partsP
  have Hi := Lib.hid (And.intro hi (And.intro hz (And.intro hs hby)))
  clear hi hz hs hby
  go_enter Try.func48, Try.ntmps48
  have Hn := Lib.hid (And.intro (hc.alloc (.cells #[] 32)) (And.intro ((Only.refl B w).alloc (.cells #[] 32)) (litP w)))
  clear hc
  go_wp2_with fail
  refine (mildA_any base B _ Hn.out.1).mono ?_
  rintro e w1 ⟨x0, hx0, rfl, hc1, ho1⟩
  have H1 := Lib.hid (And.intro hc1 (And.intro (Hn.out.2.1.trans ho1) (show OwnQ _ _ _ _ _ from owns_only Hn.out.2.2 ho1 hBw)))
  have Hx0 := Lib.hid (Tb.start (fun _ => 0) hx0)
  clear hc1 ho1 hx0
  go_wp2_with fail
  refine (below_any base B _ _ H1.out.1 (by omega)).mono ?_
  rintro e w2 ⟨r, r0, r1, rfl, hc2, ho2⟩
  obtain ⟨k, rfl⟩ := Int.eq_ofNat_of_zero_le r0
  have hk : k < 5 := by have := r1 (by omega); omega
  have H2 := Lib.hid (And.intro hc2 (And.intro (H1.out.2.1.trans ho2) (show OwnQ _ _ _ _ _ from owns_only H1.out.2.2 ho2 hBw)))
  clear hc2 ho2 r1 r0
  go_wp2_with fail
  go_loopw [3, 4, 5] (fun vo vx vn wr => ∃ r m Z x g cp, vo = .slice (some ⟨g, 0, none⟩) r cp ∧ vx = .float .f32 x ∧ vn = .int .i64 ((m : Nat) : Int) ∧ r + m = k + 2 ∧ Tb r Z x ∧ OwnQ w.heap.size wr vo r Z ∧ Cur base wr B ∧ Only B w wr)
    (fun _ _ vn _ => (intOf vn).toNat)
  case atStart => exact ⟨0, k + 2, _, x0, _, _, rfl, rfl, by go_num, by omega, Hx0.out, H2.out.2.2, H2.out.1, H2.out.2.1⟩
  case round =>
    obtain ⟨r, m, Z, x, g0, cp, rfl, rfl, rfl, hrm, htb, hown, hcr, hor⟩ := hrel
    have Hr := Lib.hid (And.intro htb (And.intro hown (And.intro hcr hor)))
    clear htb hown hcr hor
    rcases m with _ | m
    · obtain ⟨a, cp', hv, h0 | ⟨g, ha, hg, hglt, hcells⟩⟩ := OwnQ.form Hr.out.2.1
      · omega
      cases hv
      cases ha
      have HX := Lib.hid (And.intro (Hr.out.1.ok (by omega) (by omega)) (And.intro hcells (Hr.out.1.at (by omega))))
      clear hcells
      go_wp2_with fail
      go_ret
      exact ⟨g0, r, cp, Z, rfl, by omega, by omega, HX.out.1.1, HX.out.1.2, hg, hglt, HX.out.2.1, Hr.out.2.2.1, Hr.out.2.2.2, HX.out.2.2⟩
    · have hr6 : r < 6 := by omega
      have hn63 : r + 1 ≤ maxLen := by unfold maxLen; omega
      have hnby : (r + 1) * 8 ≤ 140737488355328 := by omega
      go_wp2_with fail
      refine (mildA_any base B _ Hr.out.2.2.1).mono ?_
      rintro e w4 ⟨y, hy, rfl, hc4, ho4⟩
      have H4 := Lib.hid (And.intro hc4 (And.intro (Hr.out.2.2.2.trans ho4) (show OwnQ w.heap.size w4 _ _ _ from owns_only Hr.out.2.1 ho4 hBw)))
      have hsz4 := H4.out.2.1.size
      have hlt4 := hc4.lt
      clear hc4 ho4
      have hbs : w.heap.size ≤ (w4.alloc (.cells #[.float .f32 x, .float .f32 y] 32)).heap.size := by
        rw [sz_alloc]; omega
      have Hown := Lib.hid (show (w4.alloc (.cells #[.float .f32 x, .float .f32 y] 32)).ownsRow w.heap.size 32 2 _ _ _ from World.ownsRow.alloc H4.out.2.2 (.cells #[.float .f32 x, .float .f32 y] 32))
      have Hnews := Lib.hid (one_cellP w4 x y)
      have Hone := Lib.hid (one_oneP x y)
      go_wp2_with (at_builtin; go_loud (refine wpList_append_lies _ rfl _ _ 24 rfl w.heap.size 32 i0 (pv 0 0) 2 8 Try.underlying24 Hi.out.1 Hi.out.2.1 Hi.out.2.2.1 Hi.out.2.2.2 rfl (by decide) (.slice (some ⟨g0, 0, none⟩) r cp) r (flat Z (r * 2)) rfl Hown.out ⟨w4.heap.size, 0, none⟩ 1 1 [.float .f32 x, .float .f32 y] rfl rfl Hnews.out Hone.out (by omega) hn63 hnby hbs _ rfl ?_; intro g cap1 w5 hown1 hgrow1 hat1 hlt1))
      have H5 := Lib.hid (show OwnQ w.heap.size w5 (.slice (some ⟨g, 0, none⟩) (r + 1) cap1) (r + 1) (put2 Z r x y) ∧ Cur base w5 B ∧ Only B w w5 from ⟨by
        unfold OwnQ
        rw [put2_flat]
        exact hown1, cur_grown (H4.out.1.alloc _) hgrow1 (fun k hk => by have := (Hown.out.lt k hk).1; omega), only_grown (H4.out.2.1.alloc _) hgrow1 (fun k hk => (Hown.out.lt k hk).1)⟩)
      clear hown1 hgrow1 hat1 hlt1
      go_wp2_with fail
      refine (below_any base B _ _ H5.out.2.1 (by omega)).mono ?_
      rintro e w6 ⟨q, q0, q1, rfl, hc6, ho6⟩
      obtain ⟨p, rfl⟩ := Int.eq_ofNat_of_zero_le q0
      have hp : p < 40 := by have := q1 (by omega); omega
      have H6 := Lib.hid (And.intro hc6 (And.intro (H5.out.2.2.trans ho6) (show OwnQ w.heap.size w6 _ _ _ from owns_only H5.out.1 ho6 hBw)))
      have hlt6 := hc6.lt
      clear hc6 ho6 q1 q0
      go_wp2_with fail
      refine (pick_q (Sml 8) base B w6.heap.size 3 _ _ _ (H6.out.1.alloc _) (by omega) (by omega) (block_new _ _) (by omega) (three_q ⟨1, rfl, by omega, by omega⟩ ⟨3, rfl, by omega, by omega⟩ ⟨8, rfl, by omega, by omega⟩)).mono ?_
      rintro e w7 ⟨_, ⟨c, rfl, c1, c2⟩, rfl, hc7, ho7⟩
      have H7 := Lib.hid (And.intro hc7 (And.intro ((H6.out.2.1.alloc _).trans ho7) (show OwnQ w.heap.size w7 _ _ _ from owns_only (World.ownsRow.alloc H6.out.2.2 _) ho7 hBw)))
      clear hc7 ho7
      obtain ⟨s1, s2, s3⟩ := step_at (k := p) (y := c) hp c1 c2
      obtain ⟨t1, t2⟩ := Hr.out.1.next hr6 hy s2 s3
      have kq := fun W => run_float_arith (P := Try.prog) W .quo 25 .f32 _ _ _ s1
      have ka := fun W => run_float_arith (P := Try.prog) W .add 25 .f32 _ _ _ t1
      have HT := Lib.hid t2
      clear s1 s2 s3 t1 t2
      go_wp2_with fail
      go_roundw
      case rel => exact ⟨r + 1, m, _, _, g, cap1, rfl, rfl, by go_num, by omega, HT.out, H7.out.2.2, H7.out.1, H7.out.2.1⟩
      case measure => first | (simp [intOf]; done) | (simp [intOf]; omega)
set_option maxHeartbeats 4000000 in
theorem at_any (base B g n cap : Nat) (X : Nat → Nat) (w : World) (hc : Cur base w B) (h2 : 2 ≤ n) (h6 : n ≤ 6) (hgB : B < g) (hat : ∀ i, i < n → At (X (i * 2)) 440 ∧ At (X (i * 2 + 1)) 200) (hcells : Cells w g 0 n X) :
    Calls Try.prog 49 #[.pointer (some ⟨B, 0, none⟩), .slice (some ⟨g, 0, none⟩) n cap] w (SingleOut base B w) := by
  have hBw := hc.lt
  have hg : g < w.heap.size := by
    obtain ⟨a0, _⟩ := hcells 0 (by omega)
    exact lt_of_cell a0
  have Hc := Lib.hid (And.intro hcells hat)
  have Hcr := Lib.hid hc
  have hn2 : ¬ ((n : Int) < 2) := by omega
  clear hcells hat hc
  go_enter Try.func49, Try.ntmps49
  go_wp2_with fail
  refine (once_any' base B 8 _ Hcr.out (by omega)).mono ?_
  rintro e w1 ⟨b1, rfl, hc1, ho1⟩
  have H1 := Lib.hid (And.intro hc1 ho1)
  clear hc1 ho1
  cases b1
  · go_wp2_with fail
    refine (below_any base B _ _ H1.out.1 (by omega)).mono ?_
    rintro e w2 ⟨r, r0, r1, rfl, hc2, ho2⟩
    obtain ⟨k, rfl⟩ := Int.eq_ofNat_of_zero_le r0
    have hk : k + 1 < n := by have := r1 (by omega); omega
    have H2 := Lib.hid (And.intro hc2 (H1.out.2.trans ho2))
    clear hc2 ho2 r1 r0
    have hcc : ∀ i, i < n → ∀ w', Only B w w' → w'.cell? ⟨g, i * 2, none⟩ = some (.float .f32 (X (i * 2))) := fun i hi w' ho => by
      have := (Hc.out.1 i hi).1
      rw [Nat.zero_add] at this
      rw [ho.cell (p := ⟨g, i * 2, none⟩) hg (by show g ≠ B; omega)]
      exact this
    have a0 := hcc k (by omega) w2 H2.out.2
    have Hcc := Lib.hid hcc
    have hkn : k < n := by omega
    have ax := (Hc.out.2 k hkn).1
    have ay := (Hc.out.2 (k + 1) hk).1
    have wx := ax.wf
    have wy := ay.wf
    clear hcc
    go_wp2_with fail
    refine (below_any base B _ _ H2.out.1 (by omega)).mono ?_
    rintro e w3 ⟨r, r0, r1, rfl, hc3, ho3⟩
    have r2 := r1 (by omega)
    have H3 := Lib.hid (And.intro hc3 (H2.out.2.trans ho3))
    have a1 := Hcc.out (k + 1) hk w3 H3.out.2
    have hw1 : IntKind.i64.wrap ((k : Int) + 1) = ((k + 1 : Nat) : Int) := by rw [IntKind.wrap_i64]; omega
    clear hc3 ho3 r1
    by_cases e0 : r = 0
    · subst e0
      go_wp2_with fail
      go_ret
      exact ⟨_, wx, rfl, H3.out.1, H3.out.2⟩
    · have b0 : (r == 0) = false := beq_eq_false_iff_ne.2 e0
      by_cases e1 : r = 1
      · subst e1
        go_wp2_with fail
        go_ret
        exact ⟨_, wy, rfl, H3.out.1, H3.out.2⟩
      · have b1 : (r == 1) = false := beq_eq_false_iff_ne.2 e1
        clear e0 e1
        have Hop := Lib.hid (fun (q : Nat) (hq : q < 256) => mid_ok ax ay hq)
        have ksub := fun W => run_float_arith (P := Try.prog) W .sub 25 .f32 _ _ _ (sub_fin ay.fin ax.fin)
        have kc := fun k W => run_fl k W
        unfold fl at kc
        clear ax ay wx wy
        go_wp2_with fail
        have Hcall := Lib.hid (show Calls Try.prog 66 #[.pointer (some ⟨B, 0, none⟩), .int .i64 256] w3.drew fun e w' => ∃ q : Nat, q < 256 ∧ e = .returned (.int .i64 (q : Int)) ∧ w'.cell? ⟨g, (k + 1) * 2, none⟩ = some (.float .f32 (X ((k + 1) * 2))) ∧ Hid (Cur base w' B ∧ Only B w w') from by
          refine (below_any base B _ _ (H3.out.1.drewN 1) (by omega)).mono ?_
          rintro e w4 ⟨r, r0, r1, rfl, hc4, ho4⟩
          obtain ⟨q, rfl⟩ := Int.eq_ofNat_of_zero_le r0
          have hq : (q : Int) < 256 := r1 (by omega)
          have ho := (H3.out.2.drewN 1).trans ho4
          exact ⟨q, by omega, rfl, Hcc.out (k + 1) hk w4 ho, Lib.hid ⟨hc4, ho⟩⟩)
        go_region_with (go_at_call 66; go_loud (refine Hcall.out.mono ?_; rintro e w4 ⟨q, hq, rfl, a2, H4⟩; obtain ⟨_, p1, p2, p3, p4⟩ := Hop.out q hq; have km := fun W => run_float_arith (P := Try.prog) W .mul 25 .f32 _ _ _ p1; have kq := fun W => run_float_arith (P := Try.prog) W .quo 25 .f32 _ _ _ p2; have ka := fun W => run_float_arith (P := Try.prog) W .add 25 .f32 _ _ _ p3; clear p1 p2 p3))
        all_goals
          go_wp2_with fail
          go_ret
          exact ⟨_, p4, rfl, H4.out.1, H4.out.2⟩
  · go_wp2_with fail
    refine (single_any base B _ H1.out.1).mono ?_
    rintro e w2 ⟨r, wr, rfl, hc2, ho2⟩
    have H2 := Lib.hid (And.intro hc2 (H1.out.2.trans ho2))
    clear hc2 ho2
    go_wp2_with fail
    go_ret
    exact ⟨r, wr, rfl, H2.out.1, H2.out.2⟩
end Go.Proofs.Ytbmojogohffhaaa.Pnt
