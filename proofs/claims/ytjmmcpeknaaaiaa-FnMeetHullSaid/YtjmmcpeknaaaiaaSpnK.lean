/- The model's draw of a span: valid, of small ends. -/
import Derived.Test.YtjmmcpeknaaaiaaSpnJ
import Derived.Test.YtjmmcpeknaaaiaaSpnT
import Derived.Test.YtjmmcpeknaaaiaaSpnB
namespace Go.Proofs.Ytjmmcpeknaaaiaa.Spn
open Go.ChangeShapes Go.WideShapes Go.ChangeAt Go.RowKit Go.Deep Go.Proofs.Ytjmmcpeknaaaiaa Go.Proofs.Ytjmmcpeknaaaiaa.Flt Go.Proofs.Ytjmmcpeknaaaiaa.Mth Go.Proofs.Ytjmmcpeknaaaiaa.Drw
open Ieee (single double)
set_option linter.unusedVariables false
set_option linter.unusedSimpArgs false
set_option maxRecDepth 20000
/-- a small single has been drawn -/
def MildS (base B : Nat) (w : World) (e : Ending) (w' : World) : Prop := ∃ r : Nat, S24 r ∧ e = .returned (.float .f32 r) ∧ Cur base w' B ∧ Only B w w'
set_option maxHeartbeats 800000 in
theorem mildS_any (base B : Nat) (w : World) (hc : Cur base w B) :
    Calls Try.prog 89 #[.pointer (some ⟨B, 0, none⟩)] w (MildS base B w) := by
  go_enter Try.func89, Try.ntmps89
  go_wp2_with fail
  refine (below_any base B _ _ hc (by omega)).mono ?_
  rintro e w1 ⟨r, r0, r1, rfl, hc1, ho1⟩
  have r2 := r1 (by omega)
  have Hc1 := Lib.hid hc1
  have Ho1 := Lib.hid ho1
  clear hc1 ho1 hc r1
  go_wp2_with fail
  have hlt := Hc1.out.lt
  refine (pick_q (Sml 16) base B w1.heap.size 7 _ _ _ (Hc1.out.alloc _) (by omega) (by omega) (block_new _ _) (by omega) (seven_q ⟨1, rfl, by omega, by omega⟩ ⟨1, rfl, by omega, by omega⟩ ⟨2, rfl, by omega, by omega⟩ ⟨4, rfl, by omega, by omega⟩ ⟨3, rfl, by omega, by omega⟩ ⟨10, rfl, by omega, by omega⟩ ⟨16, rfl, by omega, by omega⟩)).mono ?_
  rintro e w2 ⟨y, ⟨c, rfl, c1, c2⟩, rfl, hc2, ho2⟩
  have Hc2 := Lib.hid hc2
  have Ho2 := Lib.hid (((Ho1.out.alloc _)).trans ho2)
  clear hc2 ho2 hlt
  obtain ⟨u, k1, k3, k4, _⟩ := mild_sm (n := r - 200) (y := c) (by omega) c1 c2
  have k2 : S24 u := ⟨k3, Nat.le_trans k4 r200.1⟩
  clear k3 k4
  have kq := fun W => run_float_arith (P := Try.prog) W .quo 24 .f32 _ _ _ k1
  have K2 := Lib.hid k2
  clear k1 k2
  go_wp2_with fail
  go_ret
  exact ⟨_, K2.out, rfl, Hc2.out, Ho2.out⟩
theorem three_q {Q : Int → Prop} {a b c : Int} (ha : Q a) (hb : Q b) (hc : Q c) : ∀ i, i < 3 → ∃ v : Int, (#[Value.int .i64 a, .int .i64 b, .int .i64 c])[i]? = some (.int .i64 v) ∧ Q v
  | 0, _ => ⟨_, rfl, ha⟩ | 1, _ => ⟨_, rfl, hb⟩ | 2, _ => ⟨_, rfl, hc⟩
  | n + 3, h => by omega
theorem Blk.only {B : Nat} {w w' : World} {R : Nat} {vs : Array Value} {T : TypeId} (h : Blk w R vs T) (ho : Only B w w') (hne : R ≠ B) : Blk w' R vs T := (ho.block R h.lt hne).trans h
theorem Only.setNew {B : Nat} {w w1 : World} (ho : Only B w w1) {a : Addr} (ha : w.heap.size ≤ a.block) (u : Value) : Only B w (w1.setCell a u) :=
  ⟨ho.os, ho.tape, ho.output, by rw [show (w1.setCell a u).heap.size = w1.heap.size by simp [World.setCell]]; exact ho.size, fun k hk hkB => by rw [Below.heap_setCell w1 a u k (by omega)]; exact ho.block k hk hkB⟩
/-- a valid span of small ends has been drawn -/
def SpanD (base B : Nat) (w : World) (e : Ending) (w' : World) : Prop := ∃ x y : Nat, Sm x ∧ Sm y ∧ vW x ≤ vW y ∧ e = .returned (pv x y) ∧ Cur base w' B ∧ Only B w w'
theorem cur_set {base B : Nat} {w : World} (hc : Cur base w B) {R : Nat} (hR : base ≤ R) (hn : R ≠ B) (o : Nat) (u : Value) : Cur base (w.setCell ⟨R, o, none⟩ u) B := by
  obtain ⟨hB, a, len, cap, zs, i, h, hb, h0, h1, hr, ha⟩ := hc
  exact Cur.mk' hB hr ha (Below.setCell (Below.refl _ _) hR _) h0 h1 ((Below.heap_setCell _ _ _ _ (by show B ≠ R; omega)).trans hb)
theorem fin_cur {base B : Nat} {w w5 : World} (hc : Cur base w5 B) (ho : Only B w w5) (hlt : B < w.heap.size) (u v : Value) :
    Cur base ((w5.setCell ⟨w.heap.size, 0, none⟩ u).setCell ⟨w.heap.size, 1, none⟩ v) B ∧ Only B w ((w5.setCell ⟨w.heap.size, 0, none⟩ u).setCell ⟨w.heap.size, 1, none⟩ v) := by
  refine ⟨?_, Only.setNew (Only.setNew ho (Nat.le_refl _) u) (Nat.le_refl _) v⟩
  have hB := hc.hB
  exact cur_set (cur_set hc (by omega) (by omega) _ _) (by omega) (by omega) _ _
set_option maxHeartbeats 1600000 in
theorem span_any (base B : Nat) (w : World) (hc : Cur base w B) : Calls Try.prog 68 #[.pointer (some ⟨B, 0, none⟩)] w (SpanD base B w) := by
  have Hlt := Lib.hid hc.lt
  have hp : ((⟨#[43]⟩ : ByteArray).toList == [43]) = true := by decide +kernel
  have Hp := Lib.hid hp
  clear hp
  go_enter Try.func68, Try.ntmps68
  go_wp2_with fail
  refine (mildS_any base B _ (hc.alloc _)).mono ?_
  rintro e w1 ⟨a0, ha0, rfl, hc1, ho1⟩
  have Ha0 := Lib.hid ha0
  have HC1 := Lib.hid (And.intro hc1 (And.intro (((Only.refl B w).alloc _).trans ho1) (Blk.only (B := B) (vs := #[.float .f32 0, .float .f32 0]) (T := 32) (Blk.new rfl) ho1 (by have := Hlt.out; omega))))
  clear hc1 ho1 ha0 hc
  go_wp2_with fail
  refine (once_any' base B 3 _ HC1.out.1 (by omega)).mono ?_
  rintro e w2 ⟨b3, rfl, hc2, ho2⟩
  have HC2 := Lib.hid (And.intro hc2 (And.intro (HC1.out.2.1.trans ho2) (HC1.out.2.2.only ho2 (by have := Hlt.out; omega))))
  clear hc2 ho2
  cases b3
  · have Ha := Ha0
    have HC := HC2
    go_wp2_with fail
    refine (below_any base B _ _ HC.out.1 (by omega)).mono ?_
    rintro e w3 ⟨n, m0, m1, rfl, hc3, ho3⟩
    have m2 : n < 60 := m1 (by omega)
    have HC3 := Lib.hid (And.intro hc3 (And.intro (HC.out.2.1.trans ho3) (HC.out.2.2.only ho3 (by have := Hlt.out; omega))))
    clear hc3 ho3 m1
    go_wp2_with fail
    have hl3 := HC3.out.1.lt
    refine (pick_q (Sml 16) base B w3.heap.size 3 _ _ _ (HC3.out.1.alloc _) (by omega) (by omega) (block_new _ _) (by omega) (three_q ⟨1, rfl, by omega, by omega⟩ ⟨3, rfl, by omega, by omega⟩ ⟨16, rfl, by omega, by omega⟩)).mono ?_
    rintro e w4 ⟨_, ⟨y, rfl, y1, y2⟩, rfl, hc4, ho4⟩
    have HC4 := Lib.hid (And.intro hc4 (And.intro ((HC3.out.2.1.alloc _).trans ho4) ((HC3.out.2.2.alloc _).only ho4 (by have := Hlt.out; omega))))
    clear hc4 ho4 hl3
    obtain ⟨q, kq0, q1, q2, q3⟩ := mild_sm (n := n) (y := y) (by omega) y1 y2
    obtain ⟨r, kr0, r1, r2⟩ := add_up Ha.out q2 (q3 m0)
    have kq := fun w => run_float_arith (P := Try.prog) w .quo 24 .f32 _ _ _ kq0
    have kr := fun w => run_float_arith (P := Try.prog) w .add 24 .f32 _ _ _ kr0
    have Hr := Lib.hid (And.intro r1 r2)
    clear kq0 kr0 q1 q2 q3 r1 r2
    go_wp2_with fail
    refine (once_any' base B 5 _ HC4.out.1 (by omega)).mono ?_
    rintro e w5 ⟨b5, rfl, hc5, ho5⟩
    have HC5 := Lib.hid (And.intro hc5 (And.intro (HC4.out.2.1.trans ho5) (HC4.out.2.2.only ho5 (by have := Hlt.out; omega))))
    clear hc5 ho5
    have t0 := HC5.out.2.2.cell 0 rfl
    have t1 := HC5.out.2.2.cell 1 rfl
    have z0 := HC5.out.2.2.free 0
    have z1 := HC5.out.2.2.free 1
    cases b5
    · go_wp2_with fail
      obtain ⟨d0, d1, _⟩ := HC5.out.2.2.two a0 r
      refine bodyPost_ret (by simp [results, Try.results68, go_sem, d0, d1]; try rfl) rfl ?_
      exact ⟨a0, r, Ha.out.sm, Hr.out.1, Hr.out.2, rfl, fin_cur HC5.out.1 HC5.out.2.1 Hlt.out _ _⟩
    · have hn := fun w => spec_next a0 w Ha.out.1 Ha.out.sm.fn (nu_sm Ha.out).1.fn
      go_wp2_with fail
      refine (hn _).mono ?_
      rintro e w9 ⟨rfl, hw9⟩
      subst w9
      go_wp2_with fail
      obtain ⟨d0, d1, _⟩ := HC5.out.2.2.two a0 (nuW a0)
      refine bodyPost_ret (by simp [results, Try.results68, go_sem, d0, d1]; try rfl) rfl ?_
      exact ⟨a0, nuW a0, Ha.out.sm, (nu_sm Ha.out).1, (nu_sm Ha.out).2, rfl, fin_cur HC5.out.1 HC5.out.2.1 Hlt.out _ _⟩
  · go_wp2_with fail
    refine (below_any base B _ _ HC2.out.1 (by omega)).mono ?_
    rintro e w6 ⟨i, i0, i1, rfl, hc6, ho6⟩
    have i2 : i < 16777215 := i1 (by omega)
    have HC6 := Lib.hid (And.intro hc6 (And.intro (HC2.out.2.1.trans ho6) (HC2.out.2.2.only ho6 (by have := Hlt.out; omega))))
    clear hc6 ho6 i1
    go_wp2_with fail
    refine (below_any base B _ _ HC6.out.1 (by omega)).mono ?_
    rintro e w7 ⟨j, j0, j1, rfl, hc7, ho7⟩
    have j2 : j < 60 := j1 (by omega)
    have HC7 := Lib.hid (And.intro hc7 (And.intro (HC6.out.2.1.trans ho7) (HC6.out.2.2.only ho7 (by have := Hlt.out; omega))))
    clear hc7 ho7 j1
    have Hmk := Lib.hid (make_s24 Hp.out (m := 1 + i) (e := j - 60) (by omega) (by omega) (by omega) (by omega))
    go_wp2_with fail
    refine (Mks.spec_any _ _ _ _).mono ?_
    rintro e w8 ⟨rfl, nn, hw8⟩
    have HC := Lib.hid (show Cur base w8 B ∧ Only B w w8 ∧ Blk w8 w.heap.size #[.float .f32 0, .float .f32 0] 32 by rw [hw8]; exact ⟨HC7.out.1.drewN _, HC7.out.2.1.drewN _, HC7.out.2.2.drewN _⟩)
    clear hw8
    obtain ⟨⟨a, ok⟩, ho⟩ : ∃ o, Mks.out ⟨#[43]⟩ (1 + i) (j - 60) = o := ⟨_, rfl⟩
    rw [ho] at Hmk ⊢
    have Ha := Lib.hid (show S24 a from Hmk.out)
    clear Hmk ho i0 i2 j0 j2
    dsimp only
    go_wp2_with fail
    refine (below_any base B _ _ HC.out.1 (by omega)).mono ?_
    rintro e w3 ⟨n, m0, m1, rfl, hc3, ho3⟩
    have m2 : n < 60 := m1 (by omega)
    have HC3 := Lib.hid (And.intro hc3 (And.intro (HC.out.2.1.trans ho3) (HC.out.2.2.only ho3 (by have := Hlt.out; omega))))
    clear hc3 ho3 m1
    go_wp2_with fail
    have hl3 := HC3.out.1.lt
    refine (pick_q (Sml 16) base B w3.heap.size 3 _ _ _ (HC3.out.1.alloc _) (by omega) (by omega) (block_new _ _) (by omega) (three_q ⟨1, rfl, by omega, by omega⟩ ⟨3, rfl, by omega, by omega⟩ ⟨16, rfl, by omega, by omega⟩)).mono ?_
    rintro e w4 ⟨_, ⟨y, rfl, y1, y2⟩, rfl, hc4, ho4⟩
    have HC4 := Lib.hid (And.intro hc4 (And.intro ((HC3.out.2.1.alloc _).trans ho4) ((HC3.out.2.2.alloc _).only ho4 (by have := Hlt.out; omega))))
    clear hc4 ho4 hl3
    obtain ⟨q, kq0, q1, q2, q3⟩ := mild_sm (n := n) (y := y) (by omega) y1 y2
    obtain ⟨r, kr0, r1, r2⟩ := add_up Ha.out q2 (q3 m0)
    have kq := fun w => run_float_arith (P := Try.prog) w .quo 24 .f32 _ _ _ kq0
    have kr := fun w => run_float_arith (P := Try.prog) w .add 24 .f32 _ _ _ kr0
    have Hr := Lib.hid (And.intro r1 r2)
    clear kq0 kr0 q1 q2 q3 r1 r2
    go_wp2_with fail
    refine (once_any' base B 5 _ HC4.out.1 (by omega)).mono ?_
    rintro e w5 ⟨b5, rfl, hc5, ho5⟩
    have HC5 := Lib.hid (And.intro hc5 (And.intro (HC4.out.2.1.trans ho5) (HC4.out.2.2.only ho5 (by have := Hlt.out; omega))))
    clear hc5 ho5
    have t0 := HC5.out.2.2.cell 0 rfl
    have t1 := HC5.out.2.2.cell 1 rfl
    have z0 := HC5.out.2.2.free 0
    have z1 := HC5.out.2.2.free 1
    cases b5
    · go_wp2_with fail
      obtain ⟨d0, d1, _⟩ := HC5.out.2.2.two a r
      refine bodyPost_ret (by simp [results, Try.results68, go_sem, d0, d1]; try rfl) rfl ?_
      exact ⟨a, r, Ha.out.sm, Hr.out.1, Hr.out.2, rfl, fin_cur HC5.out.1 HC5.out.2.1 Hlt.out _ _⟩
    · have hn := fun w => spec_next a w Ha.out.1 Ha.out.sm.fn (nu_sm Ha.out).1.fn
      go_wp2_with fail
      refine (hn _).mono ?_
      rintro e w9 ⟨rfl, hw9⟩
      subst w9
      go_wp2_with fail
      obtain ⟨d0, d1, _⟩ := HC5.out.2.2.two a (nuW a)
      refine bodyPost_ret (by simp [results, Try.results68, go_sem, d0, d1]; try rfl) rfl ?_
      exact ⟨a, nuW a, Ha.out.sm, (nu_sm Ha.out).1, (nu_sm Ha.out).2, rfl, fin_cur HC5.out.1 HC5.out.2.1 Hlt.out _ _⟩
end Go.Proofs.Ytjmmcpeknaaaiaa.Spn
