/- Contracts of the model's draws of lists of complex numbers. -/
import Derived.Test.YtegcgbddoeoipaaDrawC
import Derived.Test.YtegcgbddoeoipaaQua
import Derived.Laws.OwnMore
import Derived.Deep.AppendLies
import Derived.OwnWalk
namespace Go.Proofs.Ytegcgbddoeoipaa.Drw
open Go.ChangeShapes Go.WideShapes Go.ChangeAt Go.RowKit Go.Proofs.Ytegcgbddoeoipaa Go.Proofs.Ytegcgbddoeoipaa.Flt Go.Proofs.Ytegcgbddoeoipaa.Mth Go.Proofs.Ytegcgbddoeoipaa.Cpx
set_option linter.unusedVariables false
theorem infoC : (Try.prog.info? 26).map (fun i => (i.zero, i.size, i.bytes)) = some (some (.complex .f32 0 0), 1, 8) := by kernel_rfl
def cV (xs : List (Nat × Nat)) : List Value := xs.map fun p => Value.complex .f32 p.1 p.2
def wfC (xs : List (Nat × Nat)) : Prop := ∀ p ∈ xs, p.1 < 4294967296 ∧ p.2 < 4294967296
theorem only_grown {B : Nat} {a w w' : World} {row : Option Nat} (h : Only B a w) (hg : w.grownBy w' row) (hr : ∀ k, row = some k → a.heap.size ≤ k) : Only B a w' :=
  ⟨hg.os.trans h.os, hg.tape.trans h.tape, hg.output.trans h.output, Nat.le_trans h.size hg.size, fun k hk hn => (hg.block k (Nat.lt_of_lt_of_le hk h.size) (fun e => by have := hr k e.symm; omega)).trans (h.block k hk hn)⟩
theorem owns_only {B : Nat} {w w' : World} {base e size n : Nat} {v : Value} {xs : List Value} (h : w.ownsRow base e size v n xs) (ho : Only B w w') (hB : B < base) : w'.ownsRow base e size v n xs := by
  refine ⟨h.1, ?_⟩
  rcases h.2 with hn | ⟨g, cap, cur, rfl, hb, hg, rest⟩
  · exact .inl hn
  · exact .inr ⟨g, cap, cur, rfl, hb, (ho.block g (lt_of_block hg) (by omega)).trans hg, rest⟩
theorem cur_grown {base B : Nat} {w w' : World} {row : Option Nat} (hc : Cur base w B) (hg : w.grownBy w' row) (hr : ∀ k, row = some k → B < k) : Cur base w' B := by
  have hB := hc.1
  have hlt := hc.lt
  obtain ⟨_, a, len, cap, zs, i, h, hb, h0, h1, hr', ha⟩ := hc
  exact Cur.mk' hB hr' ha ((Below.refl base w).grown hg (by omega) (fun k hk => by have := hr k hk; omega)) h0 h1 ((hg.block B hlt (fun e => by have := hr B e.symm; omega)).trans hb)
theorem one_cell (wr : World) (x : Value) (T : TypeId) : ∀ j u, [x][j]? = some u → (wr.alloc (.cells #[x] T)).cell? ((⟨wr.heap.size, 0, none⟩ : Addr).add j) = some u := by
  intro j u hj
  have e : (⟨wr.heap.size, 0, none⟩ : Addr).add j = ⟨wr.heap.size, j, none⟩ := by unfold Addr.add; split <;> simp_all
  rw [e, cell_of_row _ wr.heap.size j #[x] T (0, 0) (block_new wr _)]
  simpa using hj
theorem one_oneC (x y : Nat) : ∀ u ∈ [Value.complex .f32 x y], u.oneCell' = true := by
  intro u hu
  simp at hu
  subst hu
  rfl
theorem f2f_any {P : Program} {a : Nat} (ha : a < 18446744073709551616) (w : World) : ∃ r n, r < 4294967296 ∧ (Conv.floatToFloat .f64 a .f32).run P w = .ok (.float .f32 r) (w.drewN n) := by
  cases h : floatToFloatBits .f64 a .f32 with
  | some x => exact ⟨x, 0, floatToFloat_lt h (wf_double ha), run_floatToFloat w h⟩
  | none =>
    cases hn : isNaN Ieee.double a
    · have na := of_decide_eq_false hn
      refine ⟨(w.tape w.drawn (.floatToFloat a)) % 2 ^ 32, 1, Nat.mod_lt _ (by omega), ?_⟩
      unfold floatToFloatBits at h
      rw [if_neg (by decide)] at h
      rcases reads Ieee.double hd a with ⟨m, e, hr, _, h'⟩ | ⟨hr, h'⟩ | ⟨t, hr, h'⟩
      · have hdec : FloatKind.f64.decode a = .number (sgn Ieee.double a) m (Ieee.double.leastPlace + (e : Int)) := h'
        rw [hdec] at h
        simp only at h
        split at h
        · rename_i hi
          simp [Conv.floatToFloat, hdec, hi, Question.forced, Question.cut]; rfl
        · cases h
      · have hdec : FloatKind.f64.decode a = .infinity (sgn Ieee.double a) := h'
        rw [hdec] at h; cases h
      · omega
    · obtain ⟨s, t, he⟩ := read_nan (f := Ieee.double) hd hn
      have hdec : FloatKind.f64.decode a = .nan s t := he
      refine ⟨nan32 (w.tape w.drawn (.nanConv .f32 a)), 1, ?_, ?_⟩
      · have := (nan32_isNaN (w.tape w.drawn (.nanConv .f32 a))).2; rw [width_single] at this; exact this
      · simp [Conv.floatToFloat, hdec, Question.forced, Question.cut, nan32]; rfl
theorem run_anyC {P : Program} (src dst : TypeId) (hs' : (P.underlying src).isSome = true) (hd' : P.underlying dst = some (.complex .f32)) {a b : Nat} (ha : a < 18446744073709551616) (hb : b < 18446744073709551616) (w : World) :
    ∃ x y n, x < 4294967296 ∧ y < 4294967296 ∧ (convert src dst (.complex .f64 a b)).run P w = .ok (.complex .f32 x y) (w.drewN n) := by
  obtain ⟨x, n, hx, kx⟩ := f2f_any (P := P) ha w
  obtain ⟨y, m, hy, ky⟩ := f2f_any (P := P) hb (w.drewN n)
  exact ⟨x, y, n + m, hx, hy, by rw [run_conv_c hs' hd' kx ky, World.drewN_drewN]⟩
/-- a list of at most five complex numbers has been drawn; 'w0': where its memory begins -/
def SeriesOut (base B : Nat) (w : World) (e : Ending) (w' : World) : Prop :=
  ∃ (k g cp : Nat) (xs : List (Nat × Nat)), (xs.length = k ∧ k ≤ 5 ∧ wfC xs) ∧ e = .returned (.slice (some ⟨g, 0, none⟩) k cp) ∧ w'.ownsRow w.heap.size 26 1 (.slice (some ⟨g, 0, none⟩) k cp) k (cV xs) ∧ Cur base w' B ∧ Only B w w'
set_option maxHeartbeats 2000000 in
theorem series_any (base B : Nat) (w : World) (hc : Cur base w B) :
    Calls Try.prog 47 #[.pointer (some ⟨B, 0, none⟩)] w (SeriesOut base B w) := by
  obtain ⟨i0, hi, hz0, hz1, hz2⟩ := info_parts infoC
  have Hi := Lib.hid (And.intro hi (And.intro hz0 (And.intro hz1 hz2)))
  clear hi hz0 hz1 hz2
  have us : (Try.prog.underlying 26).isSome = true := by rw [Try.underlying26]; rfl
  have us' : (Try.prog.underlying 36).isSome = true := by rw [Try.underlying36]; rfl
  have hBlt := hc.lt
  have Hn := Lib.hid (And.intro (hc.alloc (.cells #[] 26)) (And.intro ((Only.refl B w).alloc (.cells #[] 26)) (World.ownsRow_lit (base := w.heap.size) (e := 26) (size := 1) w #[] 0 (Nat.le_refl _) (Nat.zero_le _) rfl)))
  clear hc
  go_enter Try.func47, Try.ntmps47
  go_wp2_with fail
  refine (below_any base B _ _ Hn.out.1 (by omega)).mono ?_
  rintro e w1 ⟨r, r0, r1, rfl, hc1, ho1⟩
  have h6 := r1 (by omega)
  obtain ⟨m0, rfl⟩ : ∃ m0 : Nat, r = (m0 : Int) := ⟨r.toNat, by omega⟩
  have Hn1 := Lib.hid (And.intro (owns_only Hn.out.2.2 ho1 hBlt) (And.intro hc1 (Hn.out.2.1.trans ho1)))
  clear hc1 ho1 r1 Hn
  go_wp2_with fail
  go_loopw [3, 4] (fun v iv wr => ∃ (k g cp : Nat) (xs : List (Nat × Nat)) (m : Nat), Hid (xs.length = k ∧ wfC xs) ∧ k + m ≤ 5 ∧ v = .slice (some ⟨g, 0, none⟩) k cp ∧ iv = .int .i64 (m : Int) ∧ wr.ownsRow w.heap.size 26 1 v k (cV xs) ∧ Cur base wr B ∧ Only B w wr)
    (fun _ iv _ => (intOf iv).toNat)
  case atStart => exact ⟨0, w.heap.size, 0, [], m0, ⟨rfl, fun _ h => by cases h⟩, by omega, rfl, rfl, Hn1.out.1, Hn1.out.2.1, Hn1.out.2.2⟩
  case round =>
    obtain ⟨k, g0, cp, xs, m, hxs, hk, rfl, rfl, hown, hcur, honly⟩ := hrel
    have Hr := Lib.hid (And.intro hown (And.intro hcur honly))
    clear hown hcur honly Hn1 h6 r0
    by_cases hkn : 0 < m
    · have hkn' : (0 : Int) < m := by omega
      go_wp2_with fail
      refine (mildC_any base B _ Hr.out.2.1).mono ?_
      rintro e w2 ⟨x, y, wx, wy, rfl, hc1, ho1⟩
      have Hw1 := Lib.hid (And.intro (owns_only Hr.out.1 ho1 hBlt) (And.intro hc1 (Hr.out.2.2.trans ho1)))
      have Hxy := Lib.hid (And.intro (lt_double wx) (lt_double wy))
      clear hc1 ho1 Hr wx wy
      go_wp2_with fail
      refine (once_any' base B 6 _ Hw1.out.2.1 (by omega)).mono ?_
      rintro e w3 ⟨bb, rfl, hc1, ho1⟩
      have Hw2 := Lib.hid (And.intro (owns_only Hw1.out.1 ho1 hBlt) (And.intro hc1 (Hw1.out.2.2.trans ho1)))
      clear hc1 ho1 Hw1
      cases bb
      · obtain ⟨u, v, n, hu, hv, kc⟩ := run_anyC (P := Try.prog) 36 26 us' Try.underlying26 Hxy.out.1 Hxy.out.2 w3
        have Hw3 := Lib.hid (show (w3.drewN n).ownsRow _ _ _ _ _ _ ∧ Cur base (w3.drewN n) B ∧ Only B w (w3.drewN n) from And.intro (owns_only Hw2.out.1 ((Only.refl B w3).drewN n) hBlt) (And.intro (Hw2.out.2.1.drewN n) (Hw2.out.2.2.drewN n)))
        clear Hw2
        have hn63 : k + 1 ≤ maxLen := by unfold maxLen; omega
        have hnby : (k + 1) * 8 ≤ 140737488355328 := by omega
        have hbs : w.heap.size ≤ ((w3.drewN n).alloc (.cells #[.complex .f32 u v] 26)).heap.size := by
          have := Hw3.out.2.2.size
          have e : ((w3.drewN n).alloc (.cells #[.complex .f32 u v] 26)).heap.size = (w3.drewN n).heap.size + 1 := by
            show ((w3.drewN n).heap.push _).size = _
            simp
          rw [e]; omega
        have Hown := Lib.hid (show ((w3.drewN n).alloc (.cells #[.complex .f32 u v] 26)).ownsRow w.heap.size 26 1 _ _ _ from Hw3.out.1.alloc (.cells #[.complex .f32 u v] 26))
        have Hnews := Lib.hid (one_cell (w3.drewN n) (.complex .f32 u v) 26)
        have Hone := Lib.hid (one_oneC u v)
        have Huv := Lib.hid (And.intro hu hv)
        clear hu hv
        go_wp2_with (at_builtin; refine wpList_append_lies _ rfl (.tmp 20) (.tmp 23) 48 rfl w.heap.size 26 i0 (.complex .f32 0 0) 1 8 Try.underlying48 Hi.out.1 Hi.out.2.1 Hi.out.2.2.1 Hi.out.2.2.2 rfl (by decide) (.slice (some ⟨g0, 0, none⟩) k cp) k (cV xs) rfl Hown.out ⟨(w3.drewN n).heap.size, 0, none⟩ 1 1 [.complex .f32 u v] rfl rfl Hnews.out Hone.out (by omega) hn63 hnby hbs _ rfl ?_; intro g cap w5 hown1 hgrow1 hat1 hlt1)
        have H2 := Lib.hid (show w5.ownsRow w.heap.size 26 1 (.slice (some ⟨g, 0, none⟩) (k + 1) cap) (k + 1) (cV (xs ++ [(u, v)])) ∧ Cur base w5 B ∧ Only B w w5 from ⟨by
          unfold cV
          rw [List.map_append]
          exact hown1, cur_grown (Hw3.out.2.1.alloc _) hgrow1 (fun j hj => by have := (Hown.out.lt j hj).1; omega), only_grown (Hw3.out.2.2.alloc _) hgrow1 (fun j hj => (Hown.out.lt j hj).1)⟩)
        clear hown1 hgrow1 hat1 hlt1
        have Hxs := Lib.hid (show (xs ++ [(u, v)]).length = k + 1 ∧ wfC (xs ++ [(u, v)]) from ⟨by rw [List.length_append, hxs.out.1]; rfl, fun p hp => by
          rcases List.mem_append.1 hp with h | h
          · exact hxs.out.2 p h
          · obtain rfl : p = (u, v) := by simpa using h
            exact Huv.out⟩)
        go_wp2_with fail
        go_roundw
        case rel => exact ⟨k + 1, g, cap, xs ++ [(u, v)], m - 1, Hxs, by omega, rfl, by go_num, H2.out.1, H2.out.2.1, H2.out.2.2⟩
        case measure => simp [intOf]; omega
      · go_wp2_with fail
        refine (narrow_any base B _ Hw2.out.2.1).mono ?_
        rintro e w4 ⟨p, q, wp, wq, rfl, hc1, ho1⟩
        have Hw4 := Lib.hid (And.intro (owns_only Hw2.out.1 ho1 hBlt) (And.intro hc1 (Hw2.out.2.2.trans ho1)))
        clear hc1 ho1 Hw2 wp wq
        obtain ⟨p', q', n', hp', hq', kp⟩ := run_widC (P := Try.prog) 26 36 us Try.underlying36 p q w4
        obtain ⟨u, v, n, hu, hv, kc⟩ := run_anyC (P := Try.prog) 36 26 us' Try.underlying26 hp'.1 hq'.1 (w4.drewN n')
        clear hp' hq'
        have kc' := kc
        rw [World.drewN_drewN] at kc'
        clear kc
        have Hw3 := Lib.hid (show (w4.drewN (n' + n)).ownsRow _ _ _ _ _ _ ∧ Cur base (w4.drewN (n' + n)) B ∧ Only B w (w4.drewN (n' + n)) from And.intro (owns_only Hw4.out.1 ((Only.refl B w4).drewN (n' + n)) hBlt) (And.intro (Hw4.out.2.1.drewN (n' + n)) (Hw4.out.2.2.drewN (n' + n))))
        clear Hw4
        have hn63 : k + 1 ≤ maxLen := by unfold maxLen; omega
        have hnby : (k + 1) * 8 ≤ 140737488355328 := by omega
        have hbs : w.heap.size ≤ ((w4.drewN (n' + n)).alloc (.cells #[.complex .f32 u v] 26)).heap.size := by
          have := Hw3.out.2.2.size
          have e : ((w4.drewN (n' + n)).alloc (.cells #[.complex .f32 u v] 26)).heap.size = (w4.drewN (n' + n)).heap.size + 1 := by
            show ((w4.drewN (n' + n)).heap.push _).size = _
            simp
          rw [e]; omega
        have Hown := Lib.hid (show ((w4.drewN (n' + n)).alloc (.cells #[.complex .f32 u v] 26)).ownsRow w.heap.size 26 1 _ _ _ from Hw3.out.1.alloc (.cells #[.complex .f32 u v] 26))
        have Hnews := Lib.hid (one_cell (w4.drewN (n' + n)) (.complex .f32 u v) 26)
        have Hone := Lib.hid (one_oneC u v)
        have Huv := Lib.hid (And.intro hu hv)
        clear hu hv
        go_wp2_with (at_builtin; refine wpList_append_lies _ rfl (.tmp 20) (.tmp 23) 48 rfl w.heap.size 26 i0 (.complex .f32 0 0) 1 8 Try.underlying48 Hi.out.1 Hi.out.2.1 Hi.out.2.2.1 Hi.out.2.2.2 rfl (by decide) (.slice (some ⟨g0, 0, none⟩) k cp) k (cV xs) rfl Hown.out ⟨(w4.drewN (n' + n)).heap.size, 0, none⟩ 1 1 [.complex .f32 u v] rfl rfl Hnews.out Hone.out (by omega) hn63 hnby hbs _ rfl ?_; intro g cap w5 hown1 hgrow1 hat1 hlt1)
        have H2 := Lib.hid (show w5.ownsRow w.heap.size 26 1 (.slice (some ⟨g, 0, none⟩) (k + 1) cap) (k + 1) (cV (xs ++ [(u, v)])) ∧ Cur base w5 B ∧ Only B w w5 from ⟨by
          unfold cV
          rw [List.map_append]
          exact hown1, cur_grown (Hw3.out.2.1.alloc _) hgrow1 (fun j hj => by have := (Hown.out.lt j hj).1; omega), only_grown (Hw3.out.2.2.alloc _) hgrow1 (fun j hj => (Hown.out.lt j hj).1)⟩)
        clear hown1 hgrow1 hat1 hlt1
        have Hxs := Lib.hid (show (xs ++ [(u, v)]).length = k + 1 ∧ wfC (xs ++ [(u, v)]) from ⟨by rw [List.length_append, hxs.out.1]; rfl, fun p hp => by
          rcases List.mem_append.1 hp with h | h
          · exact hxs.out.2 p h
          · obtain rfl : p = (u, v) := by simpa using h
            exact Huv.out⟩)
        go_wp2_with fail
        go_roundw
        case rel => exact ⟨k + 1, g, cap, xs ++ [(u, v)], m - 1, Hxs, by omega, rfl, by go_num, H2.out.1, H2.out.2.1, H2.out.2.2⟩
        case measure => simp [intOf]; omega
    · obtain rfl : m = 0 := by omega
      go_wp2_with fail
      go_ret
      exact ⟨k, g0, cp, xs, ⟨hxs.out.1, by omega, hxs.out.2⟩, rfl, Hr.out.1, Hr.out.2.1, Hr.out.2.2⟩
end Go.Proofs.Ytegcgbddoeoipaa.Drw
