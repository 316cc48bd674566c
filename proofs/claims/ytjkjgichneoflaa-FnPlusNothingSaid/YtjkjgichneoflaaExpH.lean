/- EvalExpr of valid expressions, in the model. -/
import Derived.Test.YtjkjgichneoflaaExpG
import Derived.Test.YtjkjgichneoflaaExpF
namespace Go.Proofs.Ytjkjgichneoflaa.Ex
open Go.ChangeShapes Go.WideShapes Go.ChangeAt Go.RowKit Go.Proofs.Ytjkjgichneoflaa Go.Proofs.Ytjkjgichneoflaa.Flt Go.Proofs.Ytjkjgichneoflaa.Mth Go.Proofs.Ytjkjgichneoflaa.Cpx
set_option linter.unusedVariables false
theorem slice_z (g n cp k : Nat) (h : k ≤ cp) (w : World) :
    (Instr.slice 25 (.slice (some ⟨g, 0, none⟩) n cp) none (some (.int .i64 (k : Int))) none).run Try.prog w = .ok (.slice (some ⟨g, 0, none⟩) k cp) w := by
  obtain ⟨i0, hi, hz0, hz1, hz2⟩ := info_partsZ
  have h0 : (0 : Int) ≤ k := by omega
  have h1 : (k : Int) ≤ cp := by omega
  simp [Instr.slice, run_underlying Try.underlying25, Instr.sliceBounds, run_sliceBound, sizeOf, typeInfo, hi, h0, h1, Addr.add]
theorem flatZ {w : World} {g : Nat} {xs : List (Nat × Nat)} (h : CellsZ w g 0 xs) : ∀ j u, (cZ xs)[j]? = some u → w.cell? ((⟨g, 0, none⟩ : Addr).add j) = some u := fun j u hu => by
  have e : (⟨g, 0, none⟩ : Addr).add j = ⟨g, j, none⟩ := by unfold Addr.add; split <;> simp_all
  rw [e]
  unfold cZ at hu
  rw [List.getElem?_map] at hu
  cases hx : xs[j]? with
  | none => rw [hx] at hu; cases hu
  | some p =>
    rw [hx] at hu
    have := h j p hx
    rw [Nat.zero_add] at this
    rw [this]; exact hu
theorem all_oneZ (xs : List (Nat × Nat)) : ∀ u ∈ cZ xs, u.oneCell' = true := by
  intro u hu
  unfold cZ at hu
  obtain ⟨p, _, rfl⟩ := List.mem_map.1 hu
  rfl
theorem CellsZ.take {w : World} {g : Nat} {xs : List (Nat × Nat)} (h : CellsZ w g 0 xs) (k : Nat) : CellsZ w g 0 (xs.take k) := fun i s hs => h i s (by
  rw [List.getElem?_take] at hs
  split at hs
  · exact hs
  · cases hs)
theorem rev_take {st : List (Nat × Nat)} {h a k : Nat} (hl : st.length = h) (hk : h - a = k) : st.reverse.take k = (st.drop a).reverse := by
  rw [List.reverse_drop, hl, hk]
theorem rev_at {st : List (Nat × Nat)} {h : Nat} (hl : st.length = h) {j i : Nat} {z : Nat × Nat} (hz : st[j]? = some z) (hji : i + j + 1 = h) : st.reverse[i]? = some z := by
  rw [List.getElem?_reverse (by omega)]
  rw [show st.length - 1 - i = j by omega]
  exact hz
theorem own_app {w w5 : World} {v : Value} {k : Nat} {xs : List (Nat × Nat)} (h : w5.ownsRow w.heap.size 28 1 v (0 + k) ([] ++ cZ xs)) (hb : Below w.heap.size w w5) : w5.ownsRow w.heap.size 28 1 v k (cZ xs) ∧ Below w.heap.size w w5 := by
  rw [Nat.zero_add, List.nil_append] at h
  exact ⟨h, hb⟩
theorem own_put {w w6 : World} {v : Value} {k : Nat} {xs : List (Nat × Nat)} {x y : Nat} (h : w6.ownsRow w.heap.size 28 1 v (k + 1) (cZ xs ++ [.complex .f64 x y])) (hb : Below w.heap.size w w6) : OwnZ w.heap.size w6 v (k + 1) (xs ++ [(x, y)]) ∧ Below w.heap.size w w6 := by
  rw [cZ_snoc] at h
  exact ⟨h, hb⟩
theorem alloc_ge {w : World} {n : Nat} (o : Obj) (h : n ≤ w.heap.size) : n ≤ (w.alloc o).heap.size := by rw [World.size_alloc]; omega
theorem can_ite (bb : Bool) : can .f64 (if bb = true then one64 else 0) = if bb = true then some one64 else some 0 := by
  cases bb
  · rw [if_neg (by decide), if_neg (by decide)]; exact can0
  · rw [if_pos rfl, if_pos rfl]; exact can1
theorem lt_ite (bb : Bool) : (if bb = true then one64 else 0) < 18446744073709551616 ∧ 0 < 18446744073709551616 := by
  cases bb
  · rw [if_neg (by decide)]; decide
  · rw [if_pos rfl]; decide
/-- the state of a round -/
structure Rd (w : World) (xs : List Nd) (sl : List (Nat × Nat)) (n i h g cp : Nat) (st : List (Nat × Nat)) (wr : World) : Prop where
  own : OwnZ w.heap.size wr (.slice (some ⟨g, 0, none⟩) h cp) h st.reverse
  b : Below w.heap.size w wr
  len : st.length = h
  hi : h ≤ i
  ok : ∀ z ∈ st, GZ z
  wt : wt h (xs.drop i) = some 1
  ev : evL sl xs [] = evL sl (xs.drop i) st
/-- a value is put on the stack -/
theorem Rd.next {w : World} {xs : List Nd} {sl : List (Nat × Nat)} {n i h g cp a k : Nat} {st : List (Nat × Nat)} {wr w6 : World} {nd : Nd} {x y g6 cp6 : Nat} (r : Rd w xs sl n i h g cp st wr) (hs : xs[i]? = some nd) (ha : ar nd.k = a) (hk : h - a = k)
    (hnv : nodeV sl nd st = some (x, y)) (hz : GZ (x, y)) (ho : OwnZ w.heap.size w6 (.slice (some ⟨g6, 0, none⟩) (k + 1) cp6) (k + 1) (st.reverse.take k ++ [(x, y)])) (hb : Below w.heap.size w w6) : Rd w xs sl n (i + 1) (k + 1) g6 cp6 ((x, y) :: st.drop a) w6 := by
  have h1 := r.wt
  have h2 := r.ev
  rw [drop_cons hs] at h1 h2
  obtain ⟨h3, h4⟩ := wt_cons h1
  rw [ha] at h3 h4
  rw [evL_cons, hnv, ha] at h2
  refine ⟨?_, hb, ?_, by have := r.hi; omega, ?_, by rw [← hk]; exact h4, h2⟩
  · rw [List.reverse_cons, ← rev_take r.len hk]; exact ho
  · rw [List.length_cons, List.length_drop, r.len, hk]
  · intro z hz'
    rcases List.mem_cons.1 hz' with rfl | hz'
    · exact hz
    · exact r.ok z (List.mem_of_mem_drop hz')
theorem Rd.none {w : World} {xs : List Nd} {sl : List (Nat × Nat)} {n i h g cp : Nat} {st : List (Nat × Nat)} {wr : World} {nd : Nd} (r : Rd w xs sl n i h g cp st wr) (hs : xs[i]? = some nd) (hnv : nodeV sl nd st = none) : evL sl xs [] = none := by
  rw [r.ev, drop_cons hs, evL_cons, hnv]
set_option maxRecDepth 20000 in
set_option maxHeartbeats 12800000 in
theorem evalS_any (g off cap gs cs : Nat) (xs : List Nd) (sl : List (Nat × Nat)) (w : World) (hv : Valid xs) (h : CellsN w g off xs) (hg : g < w.heap.size) (c : CellsZ w gs 0 sl) (gl : gs < w.heap.size) (wf : ∀ z ∈ sl, z.1 < 18446744073709551616 ∧ z.2 < 18446744073709551616) :
    Calls Try.prog 10 #[.slice (some ⟨g, off, none⟩) xs.length cap, .slice (some ⟨gs, 0, none⟩) sl.length cs] w fun e w' => e = .returned (ansV (evL sl xs [])) ∧ Below w.heap.size w w' := by
  have cE := exprS_any g off cap xs w hv h hg
  have H := Lib.hid (And.intro hv h)
  have HZ := Lib.hid (And.intro c (And.intro gl wf))
  have hlen := hv.len
  clear hv h c gl wf
  obtain ⟨n, hn⟩ : ∃ n, xs.length = n := ⟨_, rfl⟩
  obtain ⟨m, hm⟩ : ∃ m, sl.length = m := ⟨_, rfl⟩
  rw [hn] at hlen cE ⊢
  rw [hm]
  obtain ⟨i0, hi0, hz0, hz1, hz2⟩ := info_partsZ
  have Hi := Lib.hid (And.intro hi0 (And.intro hz0 (And.intro hz1 hz2)))
  clear hi0 hz0 hz1 hz2
  go_enter Try.func10, Try.ntmps10
  go_wp2_with fail
  refine cE.mono ?_
  rintro e w1 ⟨rfl, hb1⟩
  have Hb1 := Lib.hid hb1
  have H1 := Lib.hid (And.intro (show OwnZ w.heap.size (w1.alloc (.cells #[] 28)) _ _ _ from own_mono (litZ0 w1) hb1.size) (hb1.alloc hb1.size (.cells #[] 28)))
  clear hb1 cE
  go_wp2_with fail
  go_loopw [6, 7] (fun vo vi wr => ∃ (i h gg cp : Nat) (st : List (Nat × Nat)), vo = .slice (some ⟨gg, 0, none⟩) h cp ∧ vi = .int .i64 (i : Int) ∧ i ≤ n ∧ Hid (Rd w xs sl n i h gg cp st wr))
    (fun _ vi _ => n - (intOf vi).toNat)
  case atStart => exact ⟨0, 0, _, _, [], rfl, rfl, by omega, Lib.hid ⟨H1.out.1, H1.out.2, rfl, Nat.le_refl _, (fun z hz => by cases hz), H.out.1.wt, rfl⟩⟩
  case round =>
    obtain ⟨i, h, gg, cp, st, rfl, rfl, hi, HR⟩ := hrel
    have hsz := HR.out.b.size
    have hgl := (OwnZ.cells HR.out.own (by rw [List.length_reverse]; exact HR.out.len)).2.1
    have hhi := HR.out.hi
    by_cases hil : i < n
    · have hil' : (i : Int) < (n : Int) := by omega
      obtain ⟨nd, hs⟩ : ∃ nd, xs[i]? = some nd := ⟨_, List.getElem?_eq_getElem (by rw [hn]; exact hil)⟩
      have hok := H.out.1.ok nd (List.mem_of_getElem? hs)
      obtain ⟨a0, a1, a2⟩ := (H.out.2.keep hg HR.out.b) i nd hs
      have hah : ar nd.k ≤ h := (wt_cons (by rw [← drop_cons hs]; exact HR.out.wt)).1
      have Hs := Lib.hid hs
      clear hs
      obtain ⟨k0, s0, x0, y0⟩ := nd
      have hah : ar k0 ≤ h := hah
      rcases hok with hc | hc | hc
      · obtain rfl : k0 = 1 := hc.1
        obtain ⟨hfin, hxy⟩ := hc.2.2.fin
        obtain rfl : s0 = 0 := hc.2.1
        have cT : ∀ W, Calls Try.prog 27 #[.int .i64 1] W fun e w' => e = .returned (.int .i64 0) ∧ w' = W := fun W => takes_any 1 (by omega) W
        have har : ar (Nd.mk 1 0 x0 y0).k = 0 := rfl
        obtain ⟨x, hx⟩ : ∃ x, x = x0 := ⟨_, rfl⟩
        obtain ⟨y, hy⟩ : ∃ y, y = y0 := ⟨_, rfl⟩
        subst hx hy
        have hnv : nodeV sl ⟨1, 0, x, y⟩ st = if (isFinD x && isFinD y) = true then some (x, y) else none := by rw [hfin.1, hfin.2]; rfl
        have Wxy := Lib.hid hxy
        have Hkk := Lib.hid (show h - 0 = h from rfl)
        clear hc hfin hxy hah
        go_wp2_with fail
        refine (cT _).mono ?_
        rintro e w2 ⟨rfl, hw2⟩
        subst w2
        go_wp2_with fail
        refine (finS_any x y _).mono ?_
        rintro e w3 ⟨rfl, j, hw3⟩
        have hb3 : Below wr.heap.size wr w3 := by
          rw [hw3]
          (repeat (first | exact Below.refl _ _ | refine below_drewN ?_ _ | refine Below.alloc ?_ (Nat.le_refl _) _))
        clear hw3
        cases hf : (isFinD x && isFinD y)
        · rw [hf] at hnv
          have He := Lib.hid (HR.out.none Hs.out hnv)
          have Hb3 := Lib.hid (HR.out.b.trans (hb3.mono hsz))
          clear hnv hf hb3
          go_wp2_with fail
          go_ret2
          exact ⟨by rw [He.out]; rfl, Hb3.out⟩
        · rw [hf] at hnv
          have hgz : GZ (x, y) := ⟨by rw [Bool.and_eq_true] at hf; exact hf, Wxy.out⟩
          have Hg := Lib.hid (And.intro hnv hgz)
          have hsl := slice_z gg h cp h (by have := owns_cap HR.out.own; omega)
          have hs3 := hb3.size
          have hws : w.heap.size ≤ w3.heap.size := by omega
          have Hc3 := Lib.hid (show CellsZ w3 gg 0 (st.reverse.take h) from CellsZ.take ((OwnZ.cells HR.out.own (by rw [List.length_reverse]; exact HR.out.len)).1.keep hgl hb3) h)
          have Hc3' := Lib.hid (show CellsZ (w3.alloc (.cells #[] 28)) gg 0 (st.reverse.take h) from Hc3.out.keep (by omega) ((Below.refl w3.heap.size w3).alloc (Nat.le_refl _) _))
          have Hb3 := Lib.hid (show Below w.heap.size w (w3.alloc (.cells #[] 28)) from (HR.out.b.trans (hb3.mono hsz)).alloc hws _)
          have Hn0 := Lib.hid (show OwnZ w.heap.size (w3.alloc (.cells #[] 28)) (.slice (some ⟨w3.heap.size, 0, none⟩) 0 0) 0 [] from own_mono (litZ0 w3) hws)
          have Hlt := Lib.hid (show (cZ (st.reverse.take h)).length = h * 1 by unfold cZ; rw [List.length_map, List.length_take, List.length_reverse, HR.out.len]; omega)
          have hn63 : 0 + h ≤ maxLen := by unfold maxLen; omega
          have hnby : (0 + h) * 16 ≤ 140737488355328 := by omega
          have hn63b : h + 1 ≤ maxLen := by unfold maxLen; omega
          have hnbyb : (h + 1) * 16 ≤ 140737488355328 := by omega
          have hbs : w.heap.size ≤ (w3.alloc (.cells #[] 28)).heap.size := by rw [World.size_alloc]; omega
          clear hnv hf hb3 hgz
          go_wp2_with (first
            | (at_builtin; refine wpList_append_own _ rfl (.tmp 115) (.tmp 118) 25 rfl w.heap.size 28 i0 (.complex .f64 0 0) 1 16 Try.underlying25 Hi.out.1 Hi.out.2.1 Hi.out.2.2.1 Hi.out.2.2.2 rfl (by decide) (.slice (some ⟨w3.heap.size, 0, none⟩) 0 0) 0 [] rfl Hn0.out ⟨gg, 0, none⟩ h cp (cZ (st.reverse.take h)) rfl Hlt.out (flatZ Hc3'.out) (all_oneZ _) hn63 hnby hbs ?_; intro v5 w5 hown5 hgrow5 hnil5; have H5 := Lib.hid (own_app hown5 (Hb3.out.grown hgrow5 hbs (fun q hq => (Hn0.out.lt q hq).1))); clear hown5 hgrow5 hnil5; have hs5 := H5.out.2.size; have Hown := Lib.hid (World.ownsRow.alloc H5.out.1 (.cells #[.complex .f64 x y] 28)); have hbs5 := alloc_ge (.cells #[.complex .f64 x y] 28) hs5; have Hnews := Lib.hid (one_cellZ w5 x y))
            | (at_builtin; refine wpList_append_lies _ rfl (.tmp 119) (.tmp 121) 25 rfl w.heap.size 28 i0 (.complex .f64 0 0) 1 16 Try.underlying25 Hi.out.1 Hi.out.2.1 Hi.out.2.2.1 Hi.out.2.2.2 rfl (by decide) v5 h (cZ (st.reverse.take h)) rfl Hown.out ⟨w5.heap.size, 0, none⟩ 1 1 [.complex .f64 x y] rfl rfl Hnews.out (one_oneZ x y) (by decide) hn63b hnbyb hbs5 _ rfl ?_; intro g6 cp6 w6 hown6 hgrow6 hat6 hlt6; have H6 := Lib.hid (own_put hown6 ((H5.out.2.alloc hs5 _).grown hgrow6 hbs5 (fun q hq => (Hown.out.lt q hq).1))); clear hown6 hgrow6 hat6 hlt6))
          go_roundw
          case rel => exact ⟨i + 1, h + 1, g6, cp6, _, rfl, by go_num, by omega, Lib.hid (HR.out.next Hs.out har Hkk.out Hg.out.1 Hg.out.2 H6.out.1 H6.out.2)⟩
          case measure => simp [intOf]; omega
      · obtain rfl : k0 = 2 := hc.1
        obtain rfl : x0 = 0 := hc.2.2.1
        obtain rfl : y0 = 0 := hc.2.2.2
        obtain ⟨q, rfl⟩ := Int.eq_ofNat_of_zero_le hc.2.1.1
        have cT : ∀ W, Calls Try.prog 27 #[.int .i64 2] W fun e w' => e = .returned (.int .i64 0) ∧ w' = W := fun W => takes_any 2 (by omega) W
        have har : ar (Nd.mk 2 (q : Int) 0 0).k = 0 := rfl
        have hv : nodeV sl ⟨2, (q : Int), 0, 0⟩ st = match sl[q]? with | some z => if (isFinD z.1 && isFinD z.2) = true then some z else none | none => none := rfl
        have Hkk := Lib.hid (show h - 0 = h from rfl)
        clear hc hah
        by_cases hq : q < m
        · obtain ⟨z, hz⟩ : ∃ z, sl[q]? = some z := ⟨_, List.getElem?_eq_getElem (by rw [hm]; exact hq)⟩
          have hzw := HZ.out.2.2 z (List.mem_of_getElem? hz)
          have hcell : wr.cell? ⟨gs, q, none⟩ = some (.complex .f64 z.1 z.2) := by
            have := (HZ.out.1.keep HZ.out.2.1 HR.out.b) q z hz
            rw [Nat.zero_add] at this
            exact this
          have hgsl : gs < wr.heap.size := Nat.lt_of_lt_of_le HZ.out.2.1 hsz
          rw [hz] at hv
          obtain ⟨x, y⟩ := z
          have hnv : nodeV sl ⟨2, (q : Int), 0, 0⟩ st = if (isFinD x && isFinD y) = true then some (x, y) else none := hv
          have Wxy := Lib.hid hzw
          have hql : (q : Int) < (m : Int) := by omega
          have hcell : wr.cell? ⟨gs, q, none⟩ = some (.complex .f64 x y) := hcell
          clear hv hz hzw
          go_wp2_with fail
          refine (cT _).mono ?_
          rintro e w2 ⟨rfl, hw2⟩
          subst w2
          go_wp2_with fail
          refine (finS_any x y _).mono ?_
          rintro e w3 ⟨rfl, j, hw3⟩
          have hb3 : Below wr.heap.size wr w3 := by
            rw [hw3]
            (repeat (first | exact Below.refl _ _ | refine below_drewN ?_ _ | refine Below.alloc ?_ (Nat.le_refl _) _))
          clear hw3
          cases hf : (isFinD x && isFinD y)
          · rw [hf] at hnv
            have He := Lib.hid (HR.out.none Hs.out hnv)
            have Hb3 := Lib.hid (HR.out.b.trans (hb3.mono hsz))
            clear hnv hf hb3
            go_wp2_with fail
            go_ret2
            exact ⟨by rw [He.out]; rfl, Hb3.out⟩
          · rw [hf] at hnv
            have hgz : GZ (x, y) := ⟨by rw [Bool.and_eq_true] at hf; exact hf, Wxy.out⟩
            have Hg := Lib.hid (And.intro hnv hgz)
            have hsl := slice_z gg h cp h (by have := owns_cap HR.out.own; omega)
            have hs3 := hb3.size
            have hws : w.heap.size ≤ w3.heap.size := by omega
            have Hc3 := Lib.hid (show CellsZ w3 gg 0 (st.reverse.take h) from CellsZ.take ((OwnZ.cells HR.out.own (by rw [List.length_reverse]; exact HR.out.len)).1.keep hgl hb3) h)
            have Hc3' := Lib.hid (show CellsZ (w3.alloc (.cells #[] 28)) gg 0 (st.reverse.take h) from Hc3.out.keep (by omega) ((Below.refl w3.heap.size w3).alloc (Nat.le_refl _) _))
            have Hb3 := Lib.hid (show Below w.heap.size w (w3.alloc (.cells #[] 28)) from (HR.out.b.trans (hb3.mono hsz)).alloc hws _)
            have Hn0 := Lib.hid (show OwnZ w.heap.size (w3.alloc (.cells #[] 28)) (.slice (some ⟨w3.heap.size, 0, none⟩) 0 0) 0 [] from own_mono (litZ0 w3) hws)
            have Hlt := Lib.hid (show (cZ (st.reverse.take h)).length = h * 1 by unfold cZ; rw [List.length_map, List.length_take, List.length_reverse, HR.out.len]; omega)
            have hn63 : 0 + h ≤ maxLen := by unfold maxLen; omega
            have hnby : (0 + h) * 16 ≤ 140737488355328 := by omega
            have hn63b : h + 1 ≤ maxLen := by unfold maxLen; omega
            have hnbyb : (h + 1) * 16 ≤ 140737488355328 := by omega
            have hbs : w.heap.size ≤ (w3.alloc (.cells #[] 28)).heap.size := by rw [World.size_alloc]; omega
            clear hnv hf hb3 hgz
            go_wp2_with (first
              | (at_builtin; refine wpList_append_own _ rfl (.tmp 115) (.tmp 118) 25 rfl w.heap.size 28 i0 (.complex .f64 0 0) 1 16 Try.underlying25 Hi.out.1 Hi.out.2.1 Hi.out.2.2.1 Hi.out.2.2.2 rfl (by decide) (.slice (some ⟨w3.heap.size, 0, none⟩) 0 0) 0 [] rfl Hn0.out ⟨gg, 0, none⟩ h cp (cZ (st.reverse.take h)) rfl Hlt.out (flatZ Hc3'.out) (all_oneZ _) hn63 hnby hbs ?_; intro v5 w5 hown5 hgrow5 hnil5; have H5 := Lib.hid (own_app hown5 (Hb3.out.grown hgrow5 hbs (fun q hq => (Hn0.out.lt q hq).1))); clear hown5 hgrow5 hnil5; have hs5 := H5.out.2.size; have Hown := Lib.hid (World.ownsRow.alloc H5.out.1 (.cells #[.complex .f64 x y] 28)); have hbs5 := alloc_ge (.cells #[.complex .f64 x y] 28) hs5; have Hnews := Lib.hid (one_cellZ w5 x y))
              | (at_builtin; refine wpList_append_lies _ rfl (.tmp 119) (.tmp 121) 25 rfl w.heap.size 28 i0 (.complex .f64 0 0) 1 16 Try.underlying25 Hi.out.1 Hi.out.2.1 Hi.out.2.2.1 Hi.out.2.2.2 rfl (by decide) v5 h (cZ (st.reverse.take h)) rfl Hown.out ⟨w5.heap.size, 0, none⟩ 1 1 [.complex .f64 x y] rfl rfl Hnews.out (one_oneZ x y) (by decide) hn63b hnbyb hbs5 _ rfl ?_; intro g6 cp6 w6 hown6 hgrow6 hat6 hlt6; have H6 := Lib.hid (own_put hown6 ((H5.out.2.alloc hs5 _).grown hgrow6 hbs5 (fun q hq => (Hown.out.lt q hq).1))); clear hown6 hgrow6 hat6 hlt6))
            go_roundw
            case rel => exact ⟨i + 1, h + 1, g6, cp6, _, rfl, by go_num, by omega, Lib.hid (HR.out.next Hs.out har Hkk.out Hg.out.1 Hg.out.2 H6.out.1 H6.out.2)⟩
            case measure => simp [intOf]; omega
        · have hz : sl[q]? = none := List.getElem?_eq_none (by omega)
          rw [hz] at hv
          have He := Lib.hid (HR.out.none Hs.out hv)
          have hql : ¬ (q : Int) < (m : Int) := by omega
          clear hv hz
          go_wp2_with fail
          refine (cT _).mono ?_
          rintro e w2 ⟨rfl, hw2⟩
          subst w2
          go_wp2_with fail
          go_ret2
          exact ⟨by rw [He.out]; rfl, HR.out.b.alloc hsz _⟩
      · obtain rfl : s0 = 0 := hc.2.1
        obtain rfl : x0 = 0 := hc.2.2.1
        obtain rfl : y0 = 0 := hc.2.2.2
        have hk : 3 ≤ k0 ∧ k0 ≤ 12 := hc.1
        clear hc
        obtain rfl | rfl | rfl | rfl | rfl | rfl | rfl | rfl | rfl | rfl : k0 = 3 ∨ k0 = 4 ∨ k0 = 5 ∨ k0 = 6 ∨ k0 = 7 ∨ k0 = 8 ∨ k0 = 9 ∨ k0 = 10 ∨ k0 = 11 ∨ k0 = 12 := by omega
        · have hl := HR.out.len
          obtain ⟨z, r, hst⟩ := one_of (st := st) (by have : 1 ≤ h := hah; omega)
          obtain ⟨k, hkl⟩ : ∃ k, r.length = k := ⟨_, rfl⟩
          have hhk : h = k + 1 := by rw [← hl, hst, List.length_cons, hkl]
          have cT : ∀ W, Calls Try.prog 27 #[.int .i64 3] W fun e w' => e = .returned (.int .i64 1) ∧ w' = W := fun W => takes_any 3 (by omega) W
          have har : ar (Nd.mk 3 0 0 0).k = 1 := rfl
          have hgz := HR.out.ok z (by rw [hst]; exact List.mem_cons_self ..)
          have hcell : wr.cell? ⟨gg, k, none⟩ = some (.complex .f64 z.1 z.2) := by
            have := (OwnZ.cells HR.out.own (by rw [List.length_reverse]; exact HR.out.len)).1 k z (rev_at HR.out.len (j := 0) (by rw [hst]; rfl) (by omega))
            rw [Nat.zero_add] at this
            exact this
          have hn0 : nodeV sl ⟨3, 0, 0, 0⟩ st = res (opO 3 z (0, 0)) := by rw [hst]; exact nodeV_un (by decide) z r
          have Hkk := Lib.hid (show h - 1 = k by omega)
          have Hz := Lib.hid hgz
          have e1 : (h : Int) - 1 = (k : Int) := by omega
          have e2 : IntKind.i64.wrap ((h : Int) - 1) = (k : Int) := by rw [IntKind.wrap_i64]; omega
          have e3 : (k : Int) < (h : Int) := by omega
          have hk60 : k < 60 := by omega
          clear hl hst hgz hah hk hhk
          obtain ⟨p, q⟩ := z
          have hcell : wr.cell? ⟨gg, k, none⟩ = some (.complex .f64 p q) := hcell
          obtain ⟨x, hx⟩ : ∃ x, x = p := ⟨_, rfl⟩
          obtain ⟨y, hy⟩ : ∃ y, y = q := ⟨_, rfl⟩
          have hnv : nodeV sl ⟨3, 0, 0, 0⟩ st = if (isFinD x && isFinD y) = true then some (x, y) else none := by rw [hn0, hx, hy]; exact res_of rfl rfl
          have Wxy := Lib.hid (show x < 18446744073709551616 ∧ y < 18446744073709551616 by rw [hx, hy]; exact Hz.out.2)
          subst hx hy
          clear hn0
          go_wp2_with fail
          refine (cT _).mono ?_
          rintro e w2 ⟨rfl, hw2⟩
          subst w2
          go_wp2_with fail
          refine (finS_any x y _).mono ?_
          rintro e w3 ⟨rfl, j, hw3⟩
          have hb3 : Below wr.heap.size wr w3 := by
            rw [hw3]
            (repeat (first | exact Below.refl _ _ | refine below_drewN ?_ _ | refine Below.alloc ?_ (Nat.le_refl _) _))
          clear hw3
          cases hf : (isFinD x && isFinD y)
          · rw [hf] at hnv
            have He := Lib.hid (HR.out.none Hs.out hnv)
            have Hb3 := Lib.hid (HR.out.b.trans (hb3.mono hsz))
            clear hnv hf hb3
            go_wp2_with fail
            go_ret2
            exact ⟨by rw [He.out]; rfl, Hb3.out⟩
          · rw [hf] at hnv
            have hgz : GZ (x, y) := ⟨by rw [Bool.and_eq_true] at hf; exact hf, Wxy.out⟩
            have Hg := Lib.hid (And.intro hnv hgz)
            have hsl := slice_z gg h cp k (by have := owns_cap HR.out.own; omega)
            have hs3 := hb3.size
            have hws : w.heap.size ≤ w3.heap.size := by omega
            have Hc3 := Lib.hid (show CellsZ w3 gg 0 (st.reverse.take k) from CellsZ.take ((OwnZ.cells HR.out.own (by rw [List.length_reverse]; exact HR.out.len)).1.keep hgl hb3) k)
            have Hc3' := Lib.hid (show CellsZ (w3.alloc (.cells #[] 28)) gg 0 (st.reverse.take k) from Hc3.out.keep (by omega) ((Below.refl w3.heap.size w3).alloc (Nat.le_refl _) _))
            have Hb3 := Lib.hid (show Below w.heap.size w (w3.alloc (.cells #[] 28)) from (HR.out.b.trans (hb3.mono hsz)).alloc hws _)
            have Hn0 := Lib.hid (show OwnZ w.heap.size (w3.alloc (.cells #[] 28)) (.slice (some ⟨w3.heap.size, 0, none⟩) 0 0) 0 [] from own_mono (litZ0 w3) hws)
            have Hlt := Lib.hid (show (cZ (st.reverse.take k)).length = k * 1 by unfold cZ; rw [List.length_map, List.length_take, List.length_reverse, HR.out.len]; omega)
            have hn63 : 0 + k ≤ maxLen := by unfold maxLen; omega
            have hnby : (0 + k) * 16 ≤ 140737488355328 := by omega
            have hn63b : k + 1 ≤ maxLen := by unfold maxLen; omega
            have hnbyb : (k + 1) * 16 ≤ 140737488355328 := by omega
            have hbs : w.heap.size ≤ (w3.alloc (.cells #[] 28)).heap.size := by rw [World.size_alloc]; omega
            clear hnv hf hb3 hgz
            go_wp2_with (first
              | (at_builtin; refine wpList_append_own _ rfl (.tmp 115) (.tmp 118) 25 rfl w.heap.size 28 i0 (.complex .f64 0 0) 1 16 Try.underlying25 Hi.out.1 Hi.out.2.1 Hi.out.2.2.1 Hi.out.2.2.2 rfl (by decide) (.slice (some ⟨w3.heap.size, 0, none⟩) 0 0) 0 [] rfl Hn0.out ⟨gg, 0, none⟩ k cp (cZ (st.reverse.take k)) rfl Hlt.out (flatZ Hc3'.out) (all_oneZ _) hn63 hnby hbs ?_; intro v5 w5 hown5 hgrow5 hnil5; have H5 := Lib.hid (own_app hown5 (Hb3.out.grown hgrow5 hbs (fun q hq => (Hn0.out.lt q hq).1))); clear hown5 hgrow5 hnil5; have hs5 := H5.out.2.size; have Hown := Lib.hid (World.ownsRow.alloc H5.out.1 (.cells #[.complex .f64 x y] 28)); have hbs5 := alloc_ge (.cells #[.complex .f64 x y] 28) hs5; have Hnews := Lib.hid (one_cellZ w5 x y))
              | (at_builtin; refine wpList_append_lies _ rfl (.tmp 119) (.tmp 121) 25 rfl w.heap.size 28 i0 (.complex .f64 0 0) 1 16 Try.underlying25 Hi.out.1 Hi.out.2.1 Hi.out.2.2.1 Hi.out.2.2.2 rfl (by decide) v5 k (cZ (st.reverse.take k)) rfl Hown.out ⟨w5.heap.size, 0, none⟩ 1 1 [.complex .f64 x y] rfl rfl Hnews.out (one_oneZ x y) (by decide) hn63b hnbyb hbs5 _ rfl ?_; intro g6 cp6 w6 hown6 hgrow6 hat6 hlt6; have H6 := Lib.hid (own_put hown6 ((H5.out.2.alloc hs5 _).grown hgrow6 hbs5 (fun q hq => (Hown.out.lt q hq).1))); clear hown6 hgrow6 hat6 hlt6))
            go_roundw
            case rel => exact ⟨i + 1, k + 1, g6, cp6, _, rfl, by go_num, by omega, Lib.hid (HR.out.next Hs.out har Hkk.out Hg.out.1 Hg.out.2 H6.out.1 H6.out.2)⟩
            case measure => simp [intOf]; omega
        · have hl := HR.out.len
          obtain ⟨z, r, hst⟩ := one_of (st := st) (by have : 1 ≤ h := hah; omega)
          obtain ⟨k, hkl⟩ : ∃ k, r.length = k := ⟨_, rfl⟩
          have hhk : h = k + 1 := by rw [← hl, hst, List.length_cons, hkl]
          have cT : ∀ W, Calls Try.prog 27 #[.int .i64 4] W fun e w' => e = .returned (.int .i64 1) ∧ w' = W := fun W => takes_any 4 (by omega) W
          have har : ar (Nd.mk 4 0 0 0).k = 1 := rfl
          have hgz := HR.out.ok z (by rw [hst]; exact List.mem_cons_self ..)
          have hcell : wr.cell? ⟨gg, k, none⟩ = some (.complex .f64 z.1 z.2) := by
            have := (OwnZ.cells HR.out.own (by rw [List.length_reverse]; exact HR.out.len)).1 k z (rev_at HR.out.len (j := 0) (by rw [hst]; rfl) (by omega))
            rw [Nat.zero_add] at this
            exact this
          have hn0 : nodeV sl ⟨4, 0, 0, 0⟩ st = res (opO 4 z (0, 0)) := by rw [hst]; exact nodeV_un (by decide) z r
          have Hkk := Lib.hid (show h - 1 = k by omega)
          have Hz := Lib.hid hgz
          have e1 : (h : Int) - 1 = (k : Int) := by omega
          have e2 : IntKind.i64.wrap ((h : Int) - 1) = (k : Int) := by rw [IntKind.wrap_i64]; omega
          have e3 : (k : Int) < (h : Int) := by omega
          have hk60 : k < 60 := by omega
          clear hl hst hgz hah hk hhk
          obtain ⟨p, q⟩ := z
          have hcell : wr.cell? ⟨gg, k, none⟩ = some (.complex .f64 p q) := hcell
          have kn : ∀ W : World, (Op.unary .neg (.complex .f64 p q)).run Try.prog W = .ok (.complex .f64 (ng p) (ng q)) W := fun W => rfl
          obtain ⟨x, hx⟩ : ∃ x, x = ng p := ⟨_, rfl⟩
          obtain ⟨y, hy⟩ : ∃ y, y = ng q := ⟨_, rfl⟩
          have hnv : nodeV sl ⟨4, 0, 0, 0⟩ st = if (isFinD x && isFinD y) = true then some (x, y) else none := by rw [hn0, hx, hy]; exact res_of rfl rfl
          have Wxy := Lib.hid (show x < 18446744073709551616 ∧ y < 18446744073709551616 by rw [hx, hy]; exact ⟨ng_lt Hz.out.2.1, ng_lt Hz.out.2.2⟩)
          rw [← hx, ← hy] at kn
          clear hn0 hx hy
          go_wp2_with fail
          refine (cT _).mono ?_
          rintro e w2 ⟨rfl, hw2⟩
          subst w2
          go_wp2_with fail
          refine (finS_any x y _).mono ?_
          rintro e w3 ⟨rfl, j, hw3⟩
          have hb3 : Below wr.heap.size wr w3 := by
            rw [hw3]
            (repeat (first | exact Below.refl _ _ | refine below_drewN ?_ _ | refine Below.alloc ?_ (Nat.le_refl _) _))
          clear hw3
          cases hf : (isFinD x && isFinD y)
          · rw [hf] at hnv
            have He := Lib.hid (HR.out.none Hs.out hnv)
            have Hb3 := Lib.hid (HR.out.b.trans (hb3.mono hsz))
            clear hnv hf hb3
            go_wp2_with fail
            go_ret2
            exact ⟨by rw [He.out]; rfl, Hb3.out⟩
          · rw [hf] at hnv
            have hgz : GZ (x, y) := ⟨by rw [Bool.and_eq_true] at hf; exact hf, Wxy.out⟩
            have Hg := Lib.hid (And.intro hnv hgz)
            have hsl := slice_z gg h cp k (by have := owns_cap HR.out.own; omega)
            have hs3 := hb3.size
            have hws : w.heap.size ≤ w3.heap.size := by omega
            have Hc3 := Lib.hid (show CellsZ w3 gg 0 (st.reverse.take k) from CellsZ.take ((OwnZ.cells HR.out.own (by rw [List.length_reverse]; exact HR.out.len)).1.keep hgl hb3) k)
            have Hc3' := Lib.hid (show CellsZ (w3.alloc (.cells #[] 28)) gg 0 (st.reverse.take k) from Hc3.out.keep (by omega) ((Below.refl w3.heap.size w3).alloc (Nat.le_refl _) _))
            have Hb3 := Lib.hid (show Below w.heap.size w (w3.alloc (.cells #[] 28)) from (HR.out.b.trans (hb3.mono hsz)).alloc hws _)
            have Hn0 := Lib.hid (show OwnZ w.heap.size (w3.alloc (.cells #[] 28)) (.slice (some ⟨w3.heap.size, 0, none⟩) 0 0) 0 [] from own_mono (litZ0 w3) hws)
            have Hlt := Lib.hid (show (cZ (st.reverse.take k)).length = k * 1 by unfold cZ; rw [List.length_map, List.length_take, List.length_reverse, HR.out.len]; omega)
            have hn63 : 0 + k ≤ maxLen := by unfold maxLen; omega
            have hnby : (0 + k) * 16 ≤ 140737488355328 := by omega
            have hn63b : k + 1 ≤ maxLen := by unfold maxLen; omega
            have hnbyb : (k + 1) * 16 ≤ 140737488355328 := by omega
            have hbs : w.heap.size ≤ (w3.alloc (.cells #[] 28)).heap.size := by rw [World.size_alloc]; omega
            clear hnv hf hb3 hgz
            go_wp2_with (first
              | (at_builtin; refine wpList_append_own _ rfl (.tmp 115) (.tmp 118) 25 rfl w.heap.size 28 i0 (.complex .f64 0 0) 1 16 Try.underlying25 Hi.out.1 Hi.out.2.1 Hi.out.2.2.1 Hi.out.2.2.2 rfl (by decide) (.slice (some ⟨w3.heap.size, 0, none⟩) 0 0) 0 [] rfl Hn0.out ⟨gg, 0, none⟩ k cp (cZ (st.reverse.take k)) rfl Hlt.out (flatZ Hc3'.out) (all_oneZ _) hn63 hnby hbs ?_; intro v5 w5 hown5 hgrow5 hnil5; have H5 := Lib.hid (own_app hown5 (Hb3.out.grown hgrow5 hbs (fun q hq => (Hn0.out.lt q hq).1))); clear hown5 hgrow5 hnil5; have hs5 := H5.out.2.size; have Hown := Lib.hid (World.ownsRow.alloc H5.out.1 (.cells #[.complex .f64 x y] 28)); have hbs5 := alloc_ge (.cells #[.complex .f64 x y] 28) hs5; have Hnews := Lib.hid (one_cellZ w5 x y))
              | (at_builtin; refine wpList_append_lies _ rfl (.tmp 119) (.tmp 121) 25 rfl w.heap.size 28 i0 (.complex .f64 0 0) 1 16 Try.underlying25 Hi.out.1 Hi.out.2.1 Hi.out.2.2.1 Hi.out.2.2.2 rfl (by decide) v5 k (cZ (st.reverse.take k)) rfl Hown.out ⟨w5.heap.size, 0, none⟩ 1 1 [.complex .f64 x y] rfl rfl Hnews.out (one_oneZ x y) (by decide) hn63b hnbyb hbs5 _ rfl ?_; intro g6 cp6 w6 hown6 hgrow6 hat6 hlt6; have H6 := Lib.hid (own_put hown6 ((H5.out.2.alloc hs5 _).grown hgrow6 hbs5 (fun q hq => (Hown.out.lt q hq).1))); clear hown6 hgrow6 hat6 hlt6))
            go_roundw
            case rel => exact ⟨i + 1, k + 1, g6, cp6, _, rfl, by go_num, by omega, Lib.hid (HR.out.next Hs.out har Hkk.out Hg.out.1 Hg.out.2 H6.out.1 H6.out.2)⟩
            case measure => simp [intOf]; omega
        · have hl := HR.out.len
          obtain ⟨z, r, hst⟩ := one_of (st := st) (by have : 1 ≤ h := hah; omega)
          obtain ⟨k, hkl⟩ : ∃ k, r.length = k := ⟨_, rfl⟩
          have hhk : h = k + 1 := by rw [← hl, hst, List.length_cons, hkl]
          have cT : ∀ W, Calls Try.prog 27 #[.int .i64 5] W fun e w' => e = .returned (.int .i64 1) ∧ w' = W := fun W => takes_any 5 (by omega) W
          have har : ar (Nd.mk 5 0 0 0).k = 1 := rfl
          have hgz := HR.out.ok z (by rw [hst]; exact List.mem_cons_self ..)
          have hcell : wr.cell? ⟨gg, k, none⟩ = some (.complex .f64 z.1 z.2) := by
            have := (OwnZ.cells HR.out.own (by rw [List.length_reverse]; exact HR.out.len)).1 k z (rev_at HR.out.len (j := 0) (by rw [hst]; rfl) (by omega))
            rw [Nat.zero_add] at this
            exact this
          have hn0 : nodeV sl ⟨5, 0, 0, 0⟩ st = res (opO 5 z (0, 0)) := by rw [hst]; exact nodeV_un (by decide) z r
          have Hkk := Lib.hid (show h - 1 = k by omega)
          have Hz := Lib.hid hgz
          have e1 : (h : Int) - 1 = (k : Int) := by omega
          have e2 : IntKind.i64.wrap ((h : Int) - 1) = (k : Int) := by rw [IntKind.wrap_i64]; omega
          have e3 : (k : Int) < (h : Int) := by omega
          have hk60 : k < 60 := by omega
          clear hl hst hgz hah hk hhk
          obtain ⟨p, q⟩ := z
          have hcell : wr.cell? ⟨gg, k, none⟩ = some (.complex .f64 p q) := hcell
          have cC := fun W => conjS_any p q W
          obtain ⟨x, hx⟩ : ∃ x, x = p := ⟨_, rfl⟩
          obtain ⟨y, hy⟩ : ∃ y, y = ng q := ⟨_, rfl⟩
          have hnv : nodeV sl ⟨5, 0, 0, 0⟩ st = if (isFinD x && isFinD y) = true then some (x, y) else none := by rw [hn0, hx, hy]; exact res_of rfl rfl
          have Wxy := Lib.hid (show x < 18446744073709551616 ∧ y < 18446744073709551616 by rw [hx, hy]; exact ⟨Hz.out.2.1, ng_lt Hz.out.2.2⟩)
          rw [← hy] at cC
          subst hx
          clear hn0 hy
          go_wp2_with fail
          refine (cT _).mono ?_
          rintro e w2 ⟨rfl, hw2⟩
          subst w2
          go_wp2_with fail
          refine (cC _).mono ?_
          rintro e w2 ⟨rfl, hw2⟩
          subst w2
          go_wp2_with fail
          refine (finS_any x y _).mono ?_
          rintro e w3 ⟨rfl, j, hw3⟩
          have hb3 : Below wr.heap.size wr w3 := by
            rw [hw3]
            (repeat (first | exact Below.refl _ _ | refine below_drewN ?_ _ | refine Below.alloc ?_ (Nat.le_refl _) _))
          clear hw3
          cases hf : (isFinD x && isFinD y)
          · rw [hf] at hnv
            have He := Lib.hid (HR.out.none Hs.out hnv)
            have Hb3 := Lib.hid (HR.out.b.trans (hb3.mono hsz))
            clear hnv hf hb3
            go_wp2_with fail
            go_ret2
            exact ⟨by rw [He.out]; rfl, Hb3.out⟩
          · rw [hf] at hnv
            have hgz : GZ (x, y) := ⟨by rw [Bool.and_eq_true] at hf; exact hf, Wxy.out⟩
            have Hg := Lib.hid (And.intro hnv hgz)
            have hsl := slice_z gg h cp k (by have := owns_cap HR.out.own; omega)
            have hs3 := hb3.size
            have hws : w.heap.size ≤ w3.heap.size := by omega
            have Hc3 := Lib.hid (show CellsZ w3 gg 0 (st.reverse.take k) from CellsZ.take ((OwnZ.cells HR.out.own (by rw [List.length_reverse]; exact HR.out.len)).1.keep hgl hb3) k)
            have Hc3' := Lib.hid (show CellsZ (w3.alloc (.cells #[] 28)) gg 0 (st.reverse.take k) from Hc3.out.keep (by omega) ((Below.refl w3.heap.size w3).alloc (Nat.le_refl _) _))
            have Hb3 := Lib.hid (show Below w.heap.size w (w3.alloc (.cells #[] 28)) from (HR.out.b.trans (hb3.mono hsz)).alloc hws _)
            have Hn0 := Lib.hid (show OwnZ w.heap.size (w3.alloc (.cells #[] 28)) (.slice (some ⟨w3.heap.size, 0, none⟩) 0 0) 0 [] from own_mono (litZ0 w3) hws)
            have Hlt := Lib.hid (show (cZ (st.reverse.take k)).length = k * 1 by unfold cZ; rw [List.length_map, List.length_take, List.length_reverse, HR.out.len]; omega)
            have hn63 : 0 + k ≤ maxLen := by unfold maxLen; omega
            have hnby : (0 + k) * 16 ≤ 140737488355328 := by omega
            have hn63b : k + 1 ≤ maxLen := by unfold maxLen; omega
            have hnbyb : (k + 1) * 16 ≤ 140737488355328 := by omega
            have hbs : w.heap.size ≤ (w3.alloc (.cells #[] 28)).heap.size := by rw [World.size_alloc]; omega
            clear hnv hf hb3 hgz
            go_wp2_with (first
              | (at_builtin; refine wpList_append_own _ rfl (.tmp 115) (.tmp 118) 25 rfl w.heap.size 28 i0 (.complex .f64 0 0) 1 16 Try.underlying25 Hi.out.1 Hi.out.2.1 Hi.out.2.2.1 Hi.out.2.2.2 rfl (by decide) (.slice (some ⟨w3.heap.size, 0, none⟩) 0 0) 0 [] rfl Hn0.out ⟨gg, 0, none⟩ k cp (cZ (st.reverse.take k)) rfl Hlt.out (flatZ Hc3'.out) (all_oneZ _) hn63 hnby hbs ?_; intro v5 w5 hown5 hgrow5 hnil5; have H5 := Lib.hid (own_app hown5 (Hb3.out.grown hgrow5 hbs (fun q hq => (Hn0.out.lt q hq).1))); clear hown5 hgrow5 hnil5; have hs5 := H5.out.2.size; have Hown := Lib.hid (World.ownsRow.alloc H5.out.1 (.cells #[.complex .f64 x y] 28)); have hbs5 := alloc_ge (.cells #[.complex .f64 x y] 28) hs5; have Hnews := Lib.hid (one_cellZ w5 x y))
              | (at_builtin; refine wpList_append_lies _ rfl (.tmp 119) (.tmp 121) 25 rfl w.heap.size 28 i0 (.complex .f64 0 0) 1 16 Try.underlying25 Hi.out.1 Hi.out.2.1 Hi.out.2.2.1 Hi.out.2.2.2 rfl (by decide) v5 k (cZ (st.reverse.take k)) rfl Hown.out ⟨w5.heap.size, 0, none⟩ 1 1 [.complex .f64 x y] rfl rfl Hnews.out (one_oneZ x y) (by decide) hn63b hnbyb hbs5 _ rfl ?_; intro g6 cp6 w6 hown6 hgrow6 hat6 hlt6; have H6 := Lib.hid (own_put hown6 ((H5.out.2.alloc hs5 _).grown hgrow6 hbs5 (fun q hq => (Hown.out.lt q hq).1))); clear hown6 hgrow6 hat6 hlt6))
            go_roundw
            case rel => exact ⟨i + 1, k + 1, g6, cp6, _, rfl, by go_num, by omega, Lib.hid (HR.out.next Hs.out har Hkk.out Hg.out.1 Hg.out.2 H6.out.1 H6.out.2)⟩
            case measure => simp [intOf]; omega
        · have hl := HR.out.len
          obtain ⟨z, r, hst⟩ := one_of (st := st) (by have : 1 ≤ h := hah; omega)
          obtain ⟨k, hkl⟩ : ∃ k, r.length = k := ⟨_, rfl⟩
          have hhk : h = k + 1 := by rw [← hl, hst, List.length_cons, hkl]
          have cT : ∀ W, Calls Try.prog 27 #[.int .i64 6] W fun e w' => e = .returned (.int .i64 1) ∧ w' = W := fun W => takes_any 6 (by omega) W
          have har : ar (Nd.mk 6 0 0 0).k = 1 := rfl
          have hgz := HR.out.ok z (by rw [hst]; exact List.mem_cons_self ..)
          have hcell : wr.cell? ⟨gg, k, none⟩ = some (.complex .f64 z.1 z.2) := by
            have := (OwnZ.cells HR.out.own (by rw [List.length_reverse]; exact HR.out.len)).1 k z (rev_at HR.out.len (j := 0) (by rw [hst]; rfl) (by omega))
            rw [Nat.zero_add] at this
            exact this
          have hn0 : nodeV sl ⟨6, 0, 0, 0⟩ st = res (opO 6 z (0, 0)) := by rw [hst]; exact nodeV_un (by decide) z r
          have Hkk := Lib.hid (show h - 1 = k by omega)
          have Hz := Lib.hid hgz
          have e1 : (h : Int) - 1 = (k : Int) := by omega
          have e2 : IntKind.i64.wrap ((h : Int) - 1) = (k : Int) := by rw [IntKind.wrap_i64]; omega
          have e3 : (k : Int) < (h : Int) := by omega
          have hk60 : k < 60 := by omega
          clear hl hst hgz hah hk hhk
          obtain ⟨p, q⟩ := z
          have hcell : wr.cell? ⟨gg, k, none⟩ = some (.complex .f64 p q) := hcell
          obtain ⟨x, hx⟩ : ∃ x, x = p := ⟨_, rfl⟩
          have hnv : nodeV sl ⟨6, 0, 0, 0⟩ st = if (isFinD x && isFinD 0) = true then some (x, 0) else none := by rw [hn0, hx]; exact res_of (o := opO 6 (p, q) (0, 0)) rfl can0
          have Wxy := Lib.hid (show x < 18446744073709551616 ∧ (0 : Nat) < 18446744073709551616 by rw [hx]; exact ⟨Hz.out.2.1, by decide⟩)
          subst hx
          clear hn0
          go_wp2_with fail
          refine (cT _).mono ?_
          rintro e w2 ⟨rfl, hw2⟩
          subst w2
          go_wp2_with fail
          refine (finS_any x 0 _).mono ?_
          rintro e w3 ⟨rfl, j, hw3⟩
          have hb3 : Below wr.heap.size wr w3 := by
            rw [hw3]
            (repeat (first | exact Below.refl _ _ | refine below_drewN ?_ _ | refine Below.alloc ?_ (Nat.le_refl _) _))
          clear hw3
          cases hf : (isFinD x && isFinD 0)
          · rw [hf] at hnv
            have He := Lib.hid (HR.out.none Hs.out hnv)
            have Hb3 := Lib.hid (HR.out.b.trans (hb3.mono hsz))
            clear hnv hf hb3
            go_wp2_with fail
            go_ret2
            exact ⟨by rw [He.out]; rfl, Hb3.out⟩
          · rw [hf] at hnv
            have hgz : GZ (x, 0) := ⟨by rw [Bool.and_eq_true] at hf; exact hf, Wxy.out⟩
            have Hg := Lib.hid (And.intro hnv hgz)
            have hsl := slice_z gg h cp k (by have := owns_cap HR.out.own; omega)
            have hs3 := hb3.size
            have hws : w.heap.size ≤ w3.heap.size := by omega
            have Hc3 := Lib.hid (show CellsZ w3 gg 0 (st.reverse.take k) from CellsZ.take ((OwnZ.cells HR.out.own (by rw [List.length_reverse]; exact HR.out.len)).1.keep hgl hb3) k)
            have Hc3' := Lib.hid (show CellsZ (w3.alloc (.cells #[] 28)) gg 0 (st.reverse.take k) from Hc3.out.keep (by omega) ((Below.refl w3.heap.size w3).alloc (Nat.le_refl _) _))
            have Hb3 := Lib.hid (show Below w.heap.size w (w3.alloc (.cells #[] 28)) from (HR.out.b.trans (hb3.mono hsz)).alloc hws _)
            have Hn0 := Lib.hid (show OwnZ w.heap.size (w3.alloc (.cells #[] 28)) (.slice (some ⟨w3.heap.size, 0, none⟩) 0 0) 0 [] from own_mono (litZ0 w3) hws)
            have Hlt := Lib.hid (show (cZ (st.reverse.take k)).length = k * 1 by unfold cZ; rw [List.length_map, List.length_take, List.length_reverse, HR.out.len]; omega)
            have hn63 : 0 + k ≤ maxLen := by unfold maxLen; omega
            have hnby : (0 + k) * 16 ≤ 140737488355328 := by omega
            have hn63b : k + 1 ≤ maxLen := by unfold maxLen; omega
            have hnbyb : (k + 1) * 16 ≤ 140737488355328 := by omega
            have hbs : w.heap.size ≤ (w3.alloc (.cells #[] 28)).heap.size := by rw [World.size_alloc]; omega
            clear hnv hf hb3 hgz
            go_wp2_with (first
              | (at_builtin; refine wpList_append_own _ rfl (.tmp 115) (.tmp 118) 25 rfl w.heap.size 28 i0 (.complex .f64 0 0) 1 16 Try.underlying25 Hi.out.1 Hi.out.2.1 Hi.out.2.2.1 Hi.out.2.2.2 rfl (by decide) (.slice (some ⟨w3.heap.size, 0, none⟩) 0 0) 0 [] rfl Hn0.out ⟨gg, 0, none⟩ k cp (cZ (st.reverse.take k)) rfl Hlt.out (flatZ Hc3'.out) (all_oneZ _) hn63 hnby hbs ?_; intro v5 w5 hown5 hgrow5 hnil5; have H5 := Lib.hid (own_app hown5 (Hb3.out.grown hgrow5 hbs (fun q hq => (Hn0.out.lt q hq).1))); clear hown5 hgrow5 hnil5; have hs5 := H5.out.2.size; have Hown := Lib.hid (World.ownsRow.alloc H5.out.1 (.cells #[.complex .f64 x 0] 28)); have hbs5 := alloc_ge (.cells #[.complex .f64 x 0] 28) hs5; have Hnews := Lib.hid (one_cellZ w5 x 0))
              | (at_builtin; refine wpList_append_lies _ rfl (.tmp 119) (.tmp 121) 25 rfl w.heap.size 28 i0 (.complex .f64 0 0) 1 16 Try.underlying25 Hi.out.1 Hi.out.2.1 Hi.out.2.2.1 Hi.out.2.2.2 rfl (by decide) v5 k (cZ (st.reverse.take k)) rfl Hown.out ⟨w5.heap.size, 0, none⟩ 1 1 [.complex .f64 x 0] rfl rfl Hnews.out (one_oneZ x 0) (by decide) hn63b hnbyb hbs5 _ rfl ?_; intro g6 cp6 w6 hown6 hgrow6 hat6 hlt6; have H6 := Lib.hid (own_put hown6 ((H5.out.2.alloc hs5 _).grown hgrow6 hbs5 (fun q hq => (Hown.out.lt q hq).1))); clear hown6 hgrow6 hat6 hlt6))
            go_roundw
            case rel => exact ⟨i + 1, k + 1, g6, cp6, _, rfl, by go_num, by omega, Lib.hid (HR.out.next Hs.out har Hkk.out Hg.out.1 Hg.out.2 H6.out.1 H6.out.2)⟩
            case measure => simp [intOf]; omega
        · have hl := HR.out.len
          obtain ⟨z, r, hst⟩ := one_of (st := st) (by have : 1 ≤ h := hah; omega)
          obtain ⟨k, hkl⟩ : ∃ k, r.length = k := ⟨_, rfl⟩
          have hhk : h = k + 1 := by rw [← hl, hst, List.length_cons, hkl]
          have cT : ∀ W, Calls Try.prog 27 #[.int .i64 7] W fun e w' => e = .returned (.int .i64 1) ∧ w' = W := fun W => takes_any 7 (by omega) W
          have har : ar (Nd.mk 7 0 0 0).k = 1 := rfl
          have hgz := HR.out.ok z (by rw [hst]; exact List.mem_cons_self ..)
          have hcell : wr.cell? ⟨gg, k, none⟩ = some (.complex .f64 z.1 z.2) := by
            have := (OwnZ.cells HR.out.own (by rw [List.length_reverse]; exact HR.out.len)).1 k z (rev_at HR.out.len (j := 0) (by rw [hst]; rfl) (by omega))
            rw [Nat.zero_add] at this
            exact this
          have hn0 : nodeV sl ⟨7, 0, 0, 0⟩ st = res (opO 7 z (0, 0)) := by rw [hst]; exact nodeV_un (by decide) z r
          have Hkk := Lib.hid (show h - 1 = k by omega)
          have Hz := Lib.hid hgz
          have e1 : (h : Int) - 1 = (k : Int) := by omega
          have e2 : IntKind.i64.wrap ((h : Int) - 1) = (k : Int) := by rw [IntKind.wrap_i64]; omega
          have e3 : (k : Int) < (h : Int) := by omega
          have hk60 : k < 60 := by omega
          clear hl hst hgz hah hk hhk
          obtain ⟨p, q⟩ := z
          have hcell : wr.cell? ⟨gg, k, none⟩ = some (.complex .f64 p q) := hcell
          obtain ⟨x, hx⟩ : ∃ x, x = q := ⟨_, rfl⟩
          have hnv : nodeV sl ⟨7, 0, 0, 0⟩ st = if (isFinD x && isFinD 0) = true then some (x, 0) else none := by rw [hn0, hx]; exact res_of (o := opO 7 (p, q) (0, 0)) rfl can0
          have Wxy := Lib.hid (show x < 18446744073709551616 ∧ (0 : Nat) < 18446744073709551616 by rw [hx]; exact ⟨Hz.out.2.2, by decide⟩)
          subst hx
          clear hn0
          go_wp2_with fail
          refine (cT _).mono ?_
          rintro e w2 ⟨rfl, hw2⟩
          subst w2
          go_wp2_with fail
          refine (finS_any x 0 _).mono ?_
          rintro e w3 ⟨rfl, j, hw3⟩
          have hb3 : Below wr.heap.size wr w3 := by
            rw [hw3]
            (repeat (first | exact Below.refl _ _ | refine below_drewN ?_ _ | refine Below.alloc ?_ (Nat.le_refl _) _))
          clear hw3
          cases hf : (isFinD x && isFinD 0)
          · rw [hf] at hnv
            have He := Lib.hid (HR.out.none Hs.out hnv)
            have Hb3 := Lib.hid (HR.out.b.trans (hb3.mono hsz))
            clear hnv hf hb3
            go_wp2_with fail
            go_ret2
            exact ⟨by rw [He.out]; rfl, Hb3.out⟩
          · rw [hf] at hnv
            have hgz : GZ (x, 0) := ⟨by rw [Bool.and_eq_true] at hf; exact hf, Wxy.out⟩
            have Hg := Lib.hid (And.intro hnv hgz)
            have hsl := slice_z gg h cp k (by have := owns_cap HR.out.own; omega)
            have hs3 := hb3.size
            have hws : w.heap.size ≤ w3.heap.size := by omega
            have Hc3 := Lib.hid (show CellsZ w3 gg 0 (st.reverse.take k) from CellsZ.take ((OwnZ.cells HR.out.own (by rw [List.length_reverse]; exact HR.out.len)).1.keep hgl hb3) k)
            have Hc3' := Lib.hid (show CellsZ (w3.alloc (.cells #[] 28)) gg 0 (st.reverse.take k) from Hc3.out.keep (by omega) ((Below.refl w3.heap.size w3).alloc (Nat.le_refl _) _))
            have Hb3 := Lib.hid (show Below w.heap.size w (w3.alloc (.cells #[] 28)) from (HR.out.b.trans (hb3.mono hsz)).alloc hws _)
            have Hn0 := Lib.hid (show OwnZ w.heap.size (w3.alloc (.cells #[] 28)) (.slice (some ⟨w3.heap.size, 0, none⟩) 0 0) 0 [] from own_mono (litZ0 w3) hws)
            have Hlt := Lib.hid (show (cZ (st.reverse.take k)).length = k * 1 by unfold cZ; rw [List.length_map, List.length_take, List.length_reverse, HR.out.len]; omega)
            have hn63 : 0 + k ≤ maxLen := by unfold maxLen; omega
            have hnby : (0 + k) * 16 ≤ 140737488355328 := by omega
            have hn63b : k + 1 ≤ maxLen := by unfold maxLen; omega
            have hnbyb : (k + 1) * 16 ≤ 140737488355328 := by omega
            have hbs : w.heap.size ≤ (w3.alloc (.cells #[] 28)).heap.size := by rw [World.size_alloc]; omega
            clear hnv hf hb3 hgz
            go_wp2_with (first
              | (at_builtin; refine wpList_append_own _ rfl (.tmp 115) (.tmp 118) 25 rfl w.heap.size 28 i0 (.complex .f64 0 0) 1 16 Try.underlying25 Hi.out.1 Hi.out.2.1 Hi.out.2.2.1 Hi.out.2.2.2 rfl (by decide) (.slice (some ⟨w3.heap.size, 0, none⟩) 0 0) 0 [] rfl Hn0.out ⟨gg, 0, none⟩ k cp (cZ (st.reverse.take k)) rfl Hlt.out (flatZ Hc3'.out) (all_oneZ _) hn63 hnby hbs ?_; intro v5 w5 hown5 hgrow5 hnil5; have H5 := Lib.hid (own_app hown5 (Hb3.out.grown hgrow5 hbs (fun q hq => (Hn0.out.lt q hq).1))); clear hown5 hgrow5 hnil5; have hs5 := H5.out.2.size; have Hown := Lib.hid (World.ownsRow.alloc H5.out.1 (.cells #[.complex .f64 x 0] 28)); have hbs5 := alloc_ge (.cells #[.complex .f64 x 0] 28) hs5; have Hnews := Lib.hid (one_cellZ w5 x 0))
              | (at_builtin; refine wpList_append_lies _ rfl (.tmp 119) (.tmp 121) 25 rfl w.heap.size 28 i0 (.complex .f64 0 0) 1 16 Try.underlying25 Hi.out.1 Hi.out.2.1 Hi.out.2.2.1 Hi.out.2.2.2 rfl (by decide) v5 k (cZ (st.reverse.take k)) rfl Hown.out ⟨w5.heap.size, 0, none⟩ 1 1 [.complex .f64 x 0] rfl rfl Hnews.out (one_oneZ x 0) (by decide) hn63b hnbyb hbs5 _ rfl ?_; intro g6 cp6 w6 hown6 hgrow6 hat6 hlt6; have H6 := Lib.hid (own_put hown6 ((H5.out.2.alloc hs5 _).grown hgrow6 hbs5 (fun q hq => (Hown.out.lt q hq).1))); clear hown6 hgrow6 hat6 hlt6))
            go_roundw
            case rel => exact ⟨i + 1, k + 1, g6, cp6, _, rfl, by go_num, by omega, Lib.hid (HR.out.next Hs.out har Hkk.out Hg.out.1 Hg.out.2 H6.out.1 H6.out.2)⟩
            case measure => simp [intOf]; omega
        · have hl := HR.out.len
          obtain ⟨zb, za, r, hst⟩ := two_of (st := st) (by have : 2 ≤ h := hah; omega)
          obtain ⟨k, hkl⟩ : ∃ k, r.length = k := ⟨_, rfl⟩
          have hhk : h = k + 2 := by rw [← hl, hst, List.length_cons, List.length_cons, hkl]
          have cT : ∀ W, Calls Try.prog 27 #[.int .i64 8] W fun e w' => e = .returned (.int .i64 2) ∧ w' = W := fun W => takes_any 8 (by omega) W
          have har : ar (Nd.mk 8 0 0 0).k = 2 := rfl
          have hga := HR.out.ok za (by rw [hst]; exact List.mem_cons_of_mem _ (List.mem_cons_self ..))
          have hgb := HR.out.ok zb (by rw [hst]; exact List.mem_cons_self ..)
          have hca : wr.cell? ⟨gg, k, none⟩ = some (.complex .f64 za.1 za.2) := by
            have := (OwnZ.cells HR.out.own (by rw [List.length_reverse]; exact HR.out.len)).1 k za (rev_at HR.out.len (j := 1) (by rw [hst]; rfl) (by omega))
            rw [Nat.zero_add] at this
            exact this
          have hcb : wr.cell? ⟨gg, k + 1, none⟩ = some (.complex .f64 zb.1 zb.2) := by
            have := (OwnZ.cells HR.out.own (by rw [List.length_reverse]; exact HR.out.len)).1 (k + 1) zb (rev_at HR.out.len (j := 0) (by rw [hst]; rfl) (by omega))
            rw [Nat.zero_add] at this
            exact this
          have hn0 : nodeV sl ⟨8, 0, 0, 0⟩ st = res (opO 8 za zb) := by rw [hst]; exact nodeV_bin (by decide) za zb r
          have Hkk := Lib.hid (show h - 2 = k by omega)
          have Hz := Lib.hid (And.intro hga hgb)
          have e1 : (h : Int) - 2 = (k : Int) := by omega
          have e2 : IntKind.i64.wrap ((h : Int) - 2) = (k : Int) := by rw [IntKind.wrap_i64]; omega
          have e3 : (k : Int) < (h : Int) := by omega
          have e4 : (k : Int) + 1 < (h : Int) := by omega
          have e5 : IntKind.i64.wrap ((k : Int) + 1) = (k : Int) + 1 := by rw [IntKind.wrap_i64]; omega
          have hk60 : k < 60 := by omega
          clear hl hst hga hgb hah hk hhk
          obtain ⟨p, q⟩ := za
          obtain ⟨c, d⟩ := zb
          have hca : wr.cell? ⟨gg, k, none⟩ = some (.complex .f64 p q) := hca
          have hcb : wr.cell? ⟨gg, k + 1, none⟩ = some (.complex .f64 c d) := hcb
          obtain ⟨x, y, nn, wf, hc, kr⟩ := run_cas (P := Try.prog) .add (.inl rfl) 28 p q c d (wr.alloc (.cells #[.int .i64 8, .int .i64 0, .complex .f64 0 0] 33))
          have hnv : nodeV sl ⟨8, 0, 0, 0⟩ st = if (isFinD x && isFinD y) = true then some (x, y) else none := by rw [hn0]; exact res_of hc.1 hc.2
          have Wxy := Lib.hid wf
          clear hn0 wf hc
          go_wp2_with fail
          refine (cT _).mono ?_
          rintro e w2 ⟨rfl, hw2⟩
          subst w2
          go_wp2_with fail
          refine (finS_any x y _).mono ?_
          rintro e w3 ⟨rfl, j, hw3⟩
          have hb3 : Below wr.heap.size wr w3 := by
            rw [hw3]
            (repeat (first | exact Below.refl _ _ | refine below_drewN ?_ _ | refine Below.alloc ?_ (Nat.le_refl _) _))
          clear hw3
          cases hf : (isFinD x && isFinD y)
          · rw [hf] at hnv
            have He := Lib.hid (HR.out.none Hs.out hnv)
            have Hb3 := Lib.hid (HR.out.b.trans (hb3.mono hsz))
            clear hnv hf hb3
            go_wp2_with fail
            go_ret2
            exact ⟨by rw [He.out]; rfl, Hb3.out⟩
          · rw [hf] at hnv
            have hgz : GZ (x, y) := ⟨by rw [Bool.and_eq_true] at hf; exact hf, Wxy.out⟩
            have Hg := Lib.hid (And.intro hnv hgz)
            have hsl := slice_z gg h cp k (by have := owns_cap HR.out.own; omega)
            have hs3 := hb3.size
            have hws : w.heap.size ≤ w3.heap.size := by omega
            have Hc3 := Lib.hid (show CellsZ w3 gg 0 (st.reverse.take k) from CellsZ.take ((OwnZ.cells HR.out.own (by rw [List.length_reverse]; exact HR.out.len)).1.keep hgl hb3) k)
            have Hc3' := Lib.hid (show CellsZ (w3.alloc (.cells #[] 28)) gg 0 (st.reverse.take k) from Hc3.out.keep (by omega) ((Below.refl w3.heap.size w3).alloc (Nat.le_refl _) _))
            have Hb3 := Lib.hid (show Below w.heap.size w (w3.alloc (.cells #[] 28)) from (HR.out.b.trans (hb3.mono hsz)).alloc hws _)
            have Hn0 := Lib.hid (show OwnZ w.heap.size (w3.alloc (.cells #[] 28)) (.slice (some ⟨w3.heap.size, 0, none⟩) 0 0) 0 [] from own_mono (litZ0 w3) hws)
            have Hlt := Lib.hid (show (cZ (st.reverse.take k)).length = k * 1 by unfold cZ; rw [List.length_map, List.length_take, List.length_reverse, HR.out.len]; omega)
            have hn63 : 0 + k ≤ maxLen := by unfold maxLen; omega
            have hnby : (0 + k) * 16 ≤ 140737488355328 := by omega
            have hn63b : k + 1 ≤ maxLen := by unfold maxLen; omega
            have hnbyb : (k + 1) * 16 ≤ 140737488355328 := by omega
            have hbs : w.heap.size ≤ (w3.alloc (.cells #[] 28)).heap.size := by rw [World.size_alloc]; omega
            clear hnv hf hb3 hgz
            go_wp2_with (first
              | (at_builtin; refine wpList_append_own _ rfl (.tmp 115) (.tmp 118) 25 rfl w.heap.size 28 i0 (.complex .f64 0 0) 1 16 Try.underlying25 Hi.out.1 Hi.out.2.1 Hi.out.2.2.1 Hi.out.2.2.2 rfl (by decide) (.slice (some ⟨w3.heap.size, 0, none⟩) 0 0) 0 [] rfl Hn0.out ⟨gg, 0, none⟩ k cp (cZ (st.reverse.take k)) rfl Hlt.out (flatZ Hc3'.out) (all_oneZ _) hn63 hnby hbs ?_; intro v5 w5 hown5 hgrow5 hnil5; have H5 := Lib.hid (own_app hown5 (Hb3.out.grown hgrow5 hbs (fun q hq => (Hn0.out.lt q hq).1))); clear hown5 hgrow5 hnil5; have hs5 := H5.out.2.size; have Hown := Lib.hid (World.ownsRow.alloc H5.out.1 (.cells #[.complex .f64 x y] 28)); have hbs5 := alloc_ge (.cells #[.complex .f64 x y] 28) hs5; have Hnews := Lib.hid (one_cellZ w5 x y))
              | (at_builtin; refine wpList_append_lies _ rfl (.tmp 119) (.tmp 121) 25 rfl w.heap.size 28 i0 (.complex .f64 0 0) 1 16 Try.underlying25 Hi.out.1 Hi.out.2.1 Hi.out.2.2.1 Hi.out.2.2.2 rfl (by decide) v5 k (cZ (st.reverse.take k)) rfl Hown.out ⟨w5.heap.size, 0, none⟩ 1 1 [.complex .f64 x y] rfl rfl Hnews.out (one_oneZ x y) (by decide) hn63b hnbyb hbs5 _ rfl ?_; intro g6 cp6 w6 hown6 hgrow6 hat6 hlt6; have H6 := Lib.hid (own_put hown6 ((H5.out.2.alloc hs5 _).grown hgrow6 hbs5 (fun q hq => (Hown.out.lt q hq).1))); clear hown6 hgrow6 hat6 hlt6))
            go_roundw
            case rel => exact ⟨i + 1, k + 1, g6, cp6, _, rfl, by go_num, by omega, Lib.hid (HR.out.next Hs.out har Hkk.out Hg.out.1 Hg.out.2 H6.out.1 H6.out.2)⟩
            case measure => simp [intOf]; omega
        · have hl := HR.out.len
          obtain ⟨zb, za, r, hst⟩ := two_of (st := st) (by have : 2 ≤ h := hah; omega)
          obtain ⟨k, hkl⟩ : ∃ k, r.length = k := ⟨_, rfl⟩
          have hhk : h = k + 2 := by rw [← hl, hst, List.length_cons, List.length_cons, hkl]
          have cT : ∀ W, Calls Try.prog 27 #[.int .i64 9] W fun e w' => e = .returned (.int .i64 2) ∧ w' = W := fun W => takes_any 9 (by omega) W
          have har : ar (Nd.mk 9 0 0 0).k = 2 := rfl
          have hga := HR.out.ok za (by rw [hst]; exact List.mem_cons_of_mem _ (List.mem_cons_self ..))
          have hgb := HR.out.ok zb (by rw [hst]; exact List.mem_cons_self ..)
          have hca : wr.cell? ⟨gg, k, none⟩ = some (.complex .f64 za.1 za.2) := by
            have := (OwnZ.cells HR.out.own (by rw [List.length_reverse]; exact HR.out.len)).1 k za (rev_at HR.out.len (j := 1) (by rw [hst]; rfl) (by omega))
            rw [Nat.zero_add] at this
            exact this
          have hcb : wr.cell? ⟨gg, k + 1, none⟩ = some (.complex .f64 zb.1 zb.2) := by
            have := (OwnZ.cells HR.out.own (by rw [List.length_reverse]; exact HR.out.len)).1 (k + 1) zb (rev_at HR.out.len (j := 0) (by rw [hst]; rfl) (by omega))
            rw [Nat.zero_add] at this
            exact this
          have hn0 : nodeV sl ⟨9, 0, 0, 0⟩ st = res (opO 9 za zb) := by rw [hst]; exact nodeV_bin (by decide) za zb r
          have Hkk := Lib.hid (show h - 2 = k by omega)
          have Hz := Lib.hid (And.intro hga hgb)
          have e1 : (h : Int) - 2 = (k : Int) := by omega
          have e2 : IntKind.i64.wrap ((h : Int) - 2) = (k : Int) := by rw [IntKind.wrap_i64]; omega
          have e3 : (k : Int) < (h : Int) := by omega
          have e4 : (k : Int) + 1 < (h : Int) := by omega
          have e5 : IntKind.i64.wrap ((k : Int) + 1) = (k : Int) + 1 := by rw [IntKind.wrap_i64]; omega
          have hk60 : k < 60 := by omega
          clear hl hst hga hgb hah hk hhk
          obtain ⟨p, q⟩ := za
          obtain ⟨c, d⟩ := zb
          have hca : wr.cell? ⟨gg, k, none⟩ = some (.complex .f64 p q) := hca
          have hcb : wr.cell? ⟨gg, k + 1, none⟩ = some (.complex .f64 c d) := hcb
          obtain ⟨x, y, nn, wf, hc, kr⟩ := run_cas (P := Try.prog) .sub (.inr rfl) 28 p q c d (wr.alloc (.cells #[.int .i64 9, .int .i64 0, .complex .f64 0 0] 33))
          have hnv : nodeV sl ⟨9, 0, 0, 0⟩ st = if (isFinD x && isFinD y) = true then some (x, y) else none := by rw [hn0]; exact res_of hc.1 hc.2
          have Wxy := Lib.hid wf
          clear hn0 wf hc
          go_wp2_with fail
          refine (cT _).mono ?_
          rintro e w2 ⟨rfl, hw2⟩
          subst w2
          go_wp2_with fail
          refine (finS_any x y _).mono ?_
          rintro e w3 ⟨rfl, j, hw3⟩
          have hb3 : Below wr.heap.size wr w3 := by
            rw [hw3]
            (repeat (first | exact Below.refl _ _ | refine below_drewN ?_ _ | refine Below.alloc ?_ (Nat.le_refl _) _))
          clear hw3
          cases hf : (isFinD x && isFinD y)
          · rw [hf] at hnv
            have He := Lib.hid (HR.out.none Hs.out hnv)
            have Hb3 := Lib.hid (HR.out.b.trans (hb3.mono hsz))
            clear hnv hf hb3
            go_wp2_with fail
            go_ret2
            exact ⟨by rw [He.out]; rfl, Hb3.out⟩
          · rw [hf] at hnv
            have hgz : GZ (x, y) := ⟨by rw [Bool.and_eq_true] at hf; exact hf, Wxy.out⟩
            have Hg := Lib.hid (And.intro hnv hgz)
            have hsl := slice_z gg h cp k (by have := owns_cap HR.out.own; omega)
            have hs3 := hb3.size
            have hws : w.heap.size ≤ w3.heap.size := by omega
            have Hc3 := Lib.hid (show CellsZ w3 gg 0 (st.reverse.take k) from CellsZ.take ((OwnZ.cells HR.out.own (by rw [List.length_reverse]; exact HR.out.len)).1.keep hgl hb3) k)
            have Hc3' := Lib.hid (show CellsZ (w3.alloc (.cells #[] 28)) gg 0 (st.reverse.take k) from Hc3.out.keep (by omega) ((Below.refl w3.heap.size w3).alloc (Nat.le_refl _) _))
            have Hb3 := Lib.hid (show Below w.heap.size w (w3.alloc (.cells #[] 28)) from (HR.out.b.trans (hb3.mono hsz)).alloc hws _)
            have Hn0 := Lib.hid (show OwnZ w.heap.size (w3.alloc (.cells #[] 28)) (.slice (some ⟨w3.heap.size, 0, none⟩) 0 0) 0 [] from own_mono (litZ0 w3) hws)
            have Hlt := Lib.hid (show (cZ (st.reverse.take k)).length = k * 1 by unfold cZ; rw [List.length_map, List.length_take, List.length_reverse, HR.out.len]; omega)
            have hn63 : 0 + k ≤ maxLen := by unfold maxLen; omega
            have hnby : (0 + k) * 16 ≤ 140737488355328 := by omega
            have hn63b : k + 1 ≤ maxLen := by unfold maxLen; omega
            have hnbyb : (k + 1) * 16 ≤ 140737488355328 := by omega
            have hbs : w.heap.size ≤ (w3.alloc (.cells #[] 28)).heap.size := by rw [World.size_alloc]; omega
            clear hnv hf hb3 hgz
            go_wp2_with (first
              | (at_builtin; refine wpList_append_own _ rfl (.tmp 115) (.tmp 118) 25 rfl w.heap.size 28 i0 (.complex .f64 0 0) 1 16 Try.underlying25 Hi.out.1 Hi.out.2.1 Hi.out.2.2.1 Hi.out.2.2.2 rfl (by decide) (.slice (some ⟨w3.heap.size, 0, none⟩) 0 0) 0 [] rfl Hn0.out ⟨gg, 0, none⟩ k cp (cZ (st.reverse.take k)) rfl Hlt.out (flatZ Hc3'.out) (all_oneZ _) hn63 hnby hbs ?_; intro v5 w5 hown5 hgrow5 hnil5; have H5 := Lib.hid (own_app hown5 (Hb3.out.grown hgrow5 hbs (fun q hq => (Hn0.out.lt q hq).1))); clear hown5 hgrow5 hnil5; have hs5 := H5.out.2.size; have Hown := Lib.hid (World.ownsRow.alloc H5.out.1 (.cells #[.complex .f64 x y] 28)); have hbs5 := alloc_ge (.cells #[.complex .f64 x y] 28) hs5; have Hnews := Lib.hid (one_cellZ w5 x y))
              | (at_builtin; refine wpList_append_lies _ rfl (.tmp 119) (.tmp 121) 25 rfl w.heap.size 28 i0 (.complex .f64 0 0) 1 16 Try.underlying25 Hi.out.1 Hi.out.2.1 Hi.out.2.2.1 Hi.out.2.2.2 rfl (by decide) v5 k (cZ (st.reverse.take k)) rfl Hown.out ⟨w5.heap.size, 0, none⟩ 1 1 [.complex .f64 x y] rfl rfl Hnews.out (one_oneZ x y) (by decide) hn63b hnbyb hbs5 _ rfl ?_; intro g6 cp6 w6 hown6 hgrow6 hat6 hlt6; have H6 := Lib.hid (own_put hown6 ((H5.out.2.alloc hs5 _).grown hgrow6 hbs5 (fun q hq => (Hown.out.lt q hq).1))); clear hown6 hgrow6 hat6 hlt6))
            go_roundw
            case rel => exact ⟨i + 1, k + 1, g6, cp6, _, rfl, by go_num, by omega, Lib.hid (HR.out.next Hs.out har Hkk.out Hg.out.1 Hg.out.2 H6.out.1 H6.out.2)⟩
            case measure => simp [intOf]; omega
        · have hl := HR.out.len
          obtain ⟨zb, za, r, hst⟩ := two_of (st := st) (by have : 2 ≤ h := hah; omega)
          obtain ⟨k, hkl⟩ : ∃ k, r.length = k := ⟨_, rfl⟩
          have hhk : h = k + 2 := by rw [← hl, hst, List.length_cons, List.length_cons, hkl]
          have cT : ∀ W, Calls Try.prog 27 #[.int .i64 10] W fun e w' => e = .returned (.int .i64 2) ∧ w' = W := fun W => takes_any 10 (by omega) W
          have har : ar (Nd.mk 10 0 0 0).k = 2 := rfl
          have hga := HR.out.ok za (by rw [hst]; exact List.mem_cons_of_mem _ (List.mem_cons_self ..))
          have hgb := HR.out.ok zb (by rw [hst]; exact List.mem_cons_self ..)
          have hca : wr.cell? ⟨gg, k, none⟩ = some (.complex .f64 za.1 za.2) := by
            have := (OwnZ.cells HR.out.own (by rw [List.length_reverse]; exact HR.out.len)).1 k za (rev_at HR.out.len (j := 1) (by rw [hst]; rfl) (by omega))
            rw [Nat.zero_add] at this
            exact this
          have hcb : wr.cell? ⟨gg, k + 1, none⟩ = some (.complex .f64 zb.1 zb.2) := by
            have := (OwnZ.cells HR.out.own (by rw [List.length_reverse]; exact HR.out.len)).1 (k + 1) zb (rev_at HR.out.len (j := 0) (by rw [hst]; rfl) (by omega))
            rw [Nat.zero_add] at this
            exact this
          have hn0 : nodeV sl ⟨10, 0, 0, 0⟩ st = res (opO 10 za zb) := by rw [hst]; exact nodeV_bin (by decide) za zb r
          have Hkk := Lib.hid (show h - 2 = k by omega)
          have Hz := Lib.hid (And.intro hga hgb)
          have e1 : (h : Int) - 2 = (k : Int) := by omega
          have e2 : IntKind.i64.wrap ((h : Int) - 2) = (k : Int) := by rw [IntKind.wrap_i64]; omega
          have e3 : (k : Int) < (h : Int) := by omega
          have e4 : (k : Int) + 1 < (h : Int) := by omega
          have e5 : IntKind.i64.wrap ((k : Int) + 1) = (k : Int) + 1 := by rw [IntKind.wrap_i64]; omega
          have hk60 : k < 60 := by omega
          clear hl hst hga hgb hah hk hhk
          obtain ⟨p, q⟩ := za
          obtain ⟨c, d⟩ := zb
          have hca : wr.cell? ⟨gg, k, none⟩ = some (.complex .f64 p q) := hca
          have hcb : wr.cell? ⟨gg, k + 1, none⟩ = some (.complex .f64 c d) := hcb
          go_wp2_with fail
          refine (cT _).mono ?_
          rintro e w2 ⟨rfl, hw2⟩
          subst w2
          go_wp2_with fail
          refine (timesS_any _ _ _ _ _).mono ?_
          rintro e w2 ⟨x, y, wf, hc, rfl, nn, hw2⟩
          subst w2
          have hnv : nodeV sl ⟨10, 0, 0, 0⟩ st = if (isFinD x && isFinD y) = true then some (x, y) else none := by rw [hn0]; exact res_of hc.1 hc.2
          have Wxy := Lib.hid wf
          clear hn0 wf hc
          go_wp2_with fail
          refine (finS_any x y _).mono ?_
          rintro e w3 ⟨rfl, j, hw3⟩
          have hb3 : Below wr.heap.size wr w3 := by
            rw [hw3]
            (repeat (first | exact Below.refl _ _ | refine below_drewN ?_ _ | refine Below.alloc ?_ (Nat.le_refl _) _))
          clear hw3
          cases hf : (isFinD x && isFinD y)
          · rw [hf] at hnv
            have He := Lib.hid (HR.out.none Hs.out hnv)
            have Hb3 := Lib.hid (HR.out.b.trans (hb3.mono hsz))
            clear hnv hf hb3
            go_wp2_with fail
            go_ret2
            exact ⟨by rw [He.out]; rfl, Hb3.out⟩
          · rw [hf] at hnv
            have hgz : GZ (x, y) := ⟨by rw [Bool.and_eq_true] at hf; exact hf, Wxy.out⟩
            have Hg := Lib.hid (And.intro hnv hgz)
            have hsl := slice_z gg h cp k (by have := owns_cap HR.out.own; omega)
            have hs3 := hb3.size
            have hws : w.heap.size ≤ w3.heap.size := by omega
            have Hc3 := Lib.hid (show CellsZ w3 gg 0 (st.reverse.take k) from CellsZ.take ((OwnZ.cells HR.out.own (by rw [List.length_reverse]; exact HR.out.len)).1.keep hgl hb3) k)
            have Hc3' := Lib.hid (show CellsZ (w3.alloc (.cells #[] 28)) gg 0 (st.reverse.take k) from Hc3.out.keep (by omega) ((Below.refl w3.heap.size w3).alloc (Nat.le_refl _) _))
            have Hb3 := Lib.hid (show Below w.heap.size w (w3.alloc (.cells #[] 28)) from (HR.out.b.trans (hb3.mono hsz)).alloc hws _)
            have Hn0 := Lib.hid (show OwnZ w.heap.size (w3.alloc (.cells #[] 28)) (.slice (some ⟨w3.heap.size, 0, none⟩) 0 0) 0 [] from own_mono (litZ0 w3) hws)
            have Hlt := Lib.hid (show (cZ (st.reverse.take k)).length = k * 1 by unfold cZ; rw [List.length_map, List.length_take, List.length_reverse, HR.out.len]; omega)
            have hn63 : 0 + k ≤ maxLen := by unfold maxLen; omega
            have hnby : (0 + k) * 16 ≤ 140737488355328 := by omega
            have hn63b : k + 1 ≤ maxLen := by unfold maxLen; omega
            have hnbyb : (k + 1) * 16 ≤ 140737488355328 := by omega
            have hbs : w.heap.size ≤ (w3.alloc (.cells #[] 28)).heap.size := by rw [World.size_alloc]; omega
            clear hnv hf hb3 hgz
            go_wp2_with (first
              | (at_builtin; refine wpList_append_own _ rfl (.tmp 115) (.tmp 118) 25 rfl w.heap.size 28 i0 (.complex .f64 0 0) 1 16 Try.underlying25 Hi.out.1 Hi.out.2.1 Hi.out.2.2.1 Hi.out.2.2.2 rfl (by decide) (.slice (some ⟨w3.heap.size, 0, none⟩) 0 0) 0 [] rfl Hn0.out ⟨gg, 0, none⟩ k cp (cZ (st.reverse.take k)) rfl Hlt.out (flatZ Hc3'.out) (all_oneZ _) hn63 hnby hbs ?_; intro v5 w5 hown5 hgrow5 hnil5; have H5 := Lib.hid (own_app hown5 (Hb3.out.grown hgrow5 hbs (fun q hq => (Hn0.out.lt q hq).1))); clear hown5 hgrow5 hnil5; have hs5 := H5.out.2.size; have Hown := Lib.hid (World.ownsRow.alloc H5.out.1 (.cells #[.complex .f64 x y] 28)); have hbs5 := alloc_ge (.cells #[.complex .f64 x y] 28) hs5; have Hnews := Lib.hid (one_cellZ w5 x y))
              | (at_builtin; refine wpList_append_lies _ rfl (.tmp 119) (.tmp 121) 25 rfl w.heap.size 28 i0 (.complex .f64 0 0) 1 16 Try.underlying25 Hi.out.1 Hi.out.2.1 Hi.out.2.2.1 Hi.out.2.2.2 rfl (by decide) v5 k (cZ (st.reverse.take k)) rfl Hown.out ⟨w5.heap.size, 0, none⟩ 1 1 [.complex .f64 x y] rfl rfl Hnews.out (one_oneZ x y) (by decide) hn63b hnbyb hbs5 _ rfl ?_; intro g6 cp6 w6 hown6 hgrow6 hat6 hlt6; have H6 := Lib.hid (own_put hown6 ((H5.out.2.alloc hs5 _).grown hgrow6 hbs5 (fun q hq => (Hown.out.lt q hq).1))); clear hown6 hgrow6 hat6 hlt6))
            go_roundw
            case rel => exact ⟨i + 1, k + 1, g6, cp6, _, rfl, by go_num, by omega, Lib.hid (HR.out.next Hs.out har Hkk.out Hg.out.1 Hg.out.2 H6.out.1 H6.out.2)⟩
            case measure => simp [intOf]; omega
        · have hl := HR.out.len
          obtain ⟨zb, za, r, hst⟩ := two_of (st := st) (by have : 2 ≤ h := hah; omega)
          obtain ⟨k, hkl⟩ : ∃ k, r.length = k := ⟨_, rfl⟩
          have hhk : h = k + 2 := by rw [← hl, hst, List.length_cons, List.length_cons, hkl]
          have cT : ∀ W, Calls Try.prog 27 #[.int .i64 11] W fun e w' => e = .returned (.int .i64 2) ∧ w' = W := fun W => takes_any 11 (by omega) W
          have har : ar (Nd.mk 11 0 0 0).k = 2 := rfl
          have hga := HR.out.ok za (by rw [hst]; exact List.mem_cons_of_mem _ (List.mem_cons_self ..))
          have hgb := HR.out.ok zb (by rw [hst]; exact List.mem_cons_self ..)
          have hca : wr.cell? ⟨gg, k, none⟩ = some (.complex .f64 za.1 za.2) := by
            have := (OwnZ.cells HR.out.own (by rw [List.length_reverse]; exact HR.out.len)).1 k za (rev_at HR.out.len (j := 1) (by rw [hst]; rfl) (by omega))
            rw [Nat.zero_add] at this
            exact this
          have hcb : wr.cell? ⟨gg, k + 1, none⟩ = some (.complex .f64 zb.1 zb.2) := by
            have := (OwnZ.cells HR.out.own (by rw [List.length_reverse]; exact HR.out.len)).1 (k + 1) zb (rev_at HR.out.len (j := 0) (by rw [hst]; rfl) (by omega))
            rw [Nat.zero_add] at this
            exact this
          have hn0 : nodeV sl ⟨11, 0, 0, 0⟩ st = res (opO 11 za zb) := by rw [hst]; exact nodeV_bin (by decide) za zb r
          have Hkk := Lib.hid (show h - 2 = k by omega)
          have Hz := Lib.hid (And.intro hga hgb)
          have e1 : (h : Int) - 2 = (k : Int) := by omega
          have e2 : IntKind.i64.wrap ((h : Int) - 2) = (k : Int) := by rw [IntKind.wrap_i64]; omega
          have e3 : (k : Int) < (h : Int) := by omega
          have e4 : (k : Int) + 1 < (h : Int) := by omega
          have e5 : IntKind.i64.wrap ((k : Int) + 1) = (k : Int) + 1 := by rw [IntKind.wrap_i64]; omega
          have hk60 : k < 60 := by omega
          clear hl hst hga hgb hah hk hhk
          obtain ⟨p, q⟩ := za
          obtain ⟨c, d⟩ := zb
          have hca : wr.cell? ⟨gg, k, none⟩ = some (.complex .f64 p q) := hca
          have hcb : wr.cell? ⟨gg, k + 1, none⟩ = some (.complex .f64 c d) := hcb
          have kz := fun W => run_ceq (P := Try.prog) 28 c d 0 0 W
          cases hzz : isZ c d
          · rw [show (eqW Ieee.double c 0 && eqW Ieee.double d 0) = false from hzz] at kz
            obtain ⟨x, y, nn, wf, hc, kr⟩ := run_cquo64 (P := Try.prog) Hz.out.1.1.1 Hz.out.1.1.2 Hz.out.2.1.1 Hz.out.2.1.2 hzz 28 (wr.alloc (.cells #[.int .i64 11, .int .i64 0, .complex .f64 0 0] 33))
            have ho : opO 11 (p, q) (c, d) = quoO p q c d := by
              show (if isZ c d = true then ((none, none) : Option Nat × Option Nat) else quoO p q c d) = _
              rw [hzz]; rfl
            have hnv : nodeV sl ⟨11, 0, 0, 0⟩ st = if (isFinD x && isFinD y) = true then some (x, y) else none := by rw [hn0]; exact res_of (by rw [ho]; exact hc.1) (by rw [ho]; exact hc.2)
            have Wxy := Lib.hid (show x < 18446744073709551616 ∧ y < 18446744073709551616 from ⟨lt_double wf.1, lt_double wf.2⟩)
            clear hn0 wf hc ho hzz
            go_wp2_with fail
            refine (cT _).mono ?_
            rintro e w2 ⟨rfl, hw2⟩
            subst w2
            go_wp2_with fail
            refine (finS_any x y _).mono ?_
            rintro e w3 ⟨rfl, j, hw3⟩
            have hb3 : Below wr.heap.size wr w3 := by
              rw [hw3]
              (repeat (first | exact Below.refl _ _ | refine below_drewN ?_ _ | refine Below.alloc ?_ (Nat.le_refl _) _))
            clear hw3
            cases hf : (isFinD x && isFinD y)
            · rw [hf] at hnv
              have He := Lib.hid (HR.out.none Hs.out hnv)
              have Hb3 := Lib.hid (HR.out.b.trans (hb3.mono hsz))
              clear hnv hf hb3
              go_wp2_with fail
              go_ret2
              exact ⟨by rw [He.out]; rfl, Hb3.out⟩
            · rw [hf] at hnv
              have hgz : GZ (x, y) := ⟨by rw [Bool.and_eq_true] at hf; exact hf, Wxy.out⟩
              have Hg := Lib.hid (And.intro hnv hgz)
              have hsl := slice_z gg h cp k (by have := owns_cap HR.out.own; omega)
              have hs3 := hb3.size
              have hws : w.heap.size ≤ w3.heap.size := by omega
              have Hc3 := Lib.hid (show CellsZ w3 gg 0 (st.reverse.take k) from CellsZ.take ((OwnZ.cells HR.out.own (by rw [List.length_reverse]; exact HR.out.len)).1.keep hgl hb3) k)
              have Hc3' := Lib.hid (show CellsZ (w3.alloc (.cells #[] 28)) gg 0 (st.reverse.take k) from Hc3.out.keep (by omega) ((Below.refl w3.heap.size w3).alloc (Nat.le_refl _) _))
              have Hb3 := Lib.hid (show Below w.heap.size w (w3.alloc (.cells #[] 28)) from (HR.out.b.trans (hb3.mono hsz)).alloc hws _)
              have Hn0 := Lib.hid (show OwnZ w.heap.size (w3.alloc (.cells #[] 28)) (.slice (some ⟨w3.heap.size, 0, none⟩) 0 0) 0 [] from own_mono (litZ0 w3) hws)
              have Hlt := Lib.hid (show (cZ (st.reverse.take k)).length = k * 1 by unfold cZ; rw [List.length_map, List.length_take, List.length_reverse, HR.out.len]; omega)
              have hn63 : 0 + k ≤ maxLen := by unfold maxLen; omega
              have hnby : (0 + k) * 16 ≤ 140737488355328 := by omega
              have hn63b : k + 1 ≤ maxLen := by unfold maxLen; omega
              have hnbyb : (k + 1) * 16 ≤ 140737488355328 := by omega
              have hbs : w.heap.size ≤ (w3.alloc (.cells #[] 28)).heap.size := by rw [World.size_alloc]; omega
              clear hnv hf hb3 hgz
              go_wp2_with (first
                | (at_builtin; refine wpList_append_own _ rfl (.tmp 115) (.tmp 118) 25 rfl w.heap.size 28 i0 (.complex .f64 0 0) 1 16 Try.underlying25 Hi.out.1 Hi.out.2.1 Hi.out.2.2.1 Hi.out.2.2.2 rfl (by decide) (.slice (some ⟨w3.heap.size, 0, none⟩) 0 0) 0 [] rfl Hn0.out ⟨gg, 0, none⟩ k cp (cZ (st.reverse.take k)) rfl Hlt.out (flatZ Hc3'.out) (all_oneZ _) hn63 hnby hbs ?_; intro v5 w5 hown5 hgrow5 hnil5; have H5 := Lib.hid (own_app hown5 (Hb3.out.grown hgrow5 hbs (fun q hq => (Hn0.out.lt q hq).1))); clear hown5 hgrow5 hnil5; have hs5 := H5.out.2.size; have Hown := Lib.hid (World.ownsRow.alloc H5.out.1 (.cells #[.complex .f64 x y] 28)); have hbs5 := alloc_ge (.cells #[.complex .f64 x y] 28) hs5; have Hnews := Lib.hid (one_cellZ w5 x y))
                | (at_builtin; refine wpList_append_lies _ rfl (.tmp 119) (.tmp 121) 25 rfl w.heap.size 28 i0 (.complex .f64 0 0) 1 16 Try.underlying25 Hi.out.1 Hi.out.2.1 Hi.out.2.2.1 Hi.out.2.2.2 rfl (by decide) v5 k (cZ (st.reverse.take k)) rfl Hown.out ⟨w5.heap.size, 0, none⟩ 1 1 [.complex .f64 x y] rfl rfl Hnews.out (one_oneZ x y) (by decide) hn63b hnbyb hbs5 _ rfl ?_; intro g6 cp6 w6 hown6 hgrow6 hat6 hlt6; have H6 := Lib.hid (own_put hown6 ((H5.out.2.alloc hs5 _).grown hgrow6 hbs5 (fun q hq => (Hown.out.lt q hq).1))); clear hown6 hgrow6 hat6 hlt6))
              go_roundw
              case rel => exact ⟨i + 1, k + 1, g6, cp6, _, rfl, by go_num, by omega, Lib.hid (HR.out.next Hs.out har Hkk.out Hg.out.1 Hg.out.2 H6.out.1 H6.out.2)⟩
              case measure => simp [intOf]; omega
          · rw [show (eqW Ieee.double c 0 && eqW Ieee.double d 0) = true from hzz] at kz
            have ho : opO 11 (p, q) (c, d) = (none, none) := by
              show (if isZ c d = true then ((none, none) : Option Nat × Option Nat) else quoO p q c d) = _
              rw [hzz]; rfl
            have hv : nodeV sl ⟨11, 0, 0, 0⟩ st = none := by rw [hn0, ho]; rfl
            have He := Lib.hid (HR.out.none Hs.out hv)
            clear hn0 ho hzz hv
            go_wp2_with fail
            refine (cT _).mono ?_
            rintro e w2 ⟨rfl, hw2⟩
            subst w2
            go_wp2_with fail
            go_ret2
            exact ⟨by rw [He.out]; rfl, HR.out.b.alloc hsz _⟩
        · have hl := HR.out.len
          obtain ⟨zb, za, r, hst⟩ := two_of (st := st) (by have : 2 ≤ h := hah; omega)
          obtain ⟨k, hkl⟩ : ∃ k, r.length = k := ⟨_, rfl⟩
          have hhk : h = k + 2 := by rw [← hl, hst, List.length_cons, List.length_cons, hkl]
          have cT : ∀ W, Calls Try.prog 27 #[.int .i64 12] W fun e w' => e = .returned (.int .i64 2) ∧ w' = W := fun W => takes_any 12 (by omega) W
          have har : ar (Nd.mk 12 0 0 0).k = 2 := rfl
          have hga := HR.out.ok za (by rw [hst]; exact List.mem_cons_of_mem _ (List.mem_cons_self ..))
          have hgb := HR.out.ok zb (by rw [hst]; exact List.mem_cons_self ..)
          have hca : wr.cell? ⟨gg, k, none⟩ = some (.complex .f64 za.1 za.2) := by
            have := (OwnZ.cells HR.out.own (by rw [List.length_reverse]; exact HR.out.len)).1 k za (rev_at HR.out.len (j := 1) (by rw [hst]; rfl) (by omega))
            rw [Nat.zero_add] at this
            exact this
          have hcb : wr.cell? ⟨gg, k + 1, none⟩ = some (.complex .f64 zb.1 zb.2) := by
            have := (OwnZ.cells HR.out.own (by rw [List.length_reverse]; exact HR.out.len)).1 (k + 1) zb (rev_at HR.out.len (j := 0) (by rw [hst]; rfl) (by omega))
            rw [Nat.zero_add] at this
            exact this
          have hn0 : nodeV sl ⟨12, 0, 0, 0⟩ st = res (opO 12 za zb) := by rw [hst]; exact nodeV_bin (by decide) za zb r
          have Hkk := Lib.hid (show h - 2 = k by omega)
          have Hz := Lib.hid (And.intro hga hgb)
          have e1 : (h : Int) - 2 = (k : Int) := by omega
          have e2 : IntKind.i64.wrap ((h : Int) - 2) = (k : Int) := by rw [IntKind.wrap_i64]; omega
          have e3 : (k : Int) < (h : Int) := by omega
          have e4 : (k : Int) + 1 < (h : Int) := by omega
          have e5 : IntKind.i64.wrap ((k : Int) + 1) = (k : Int) + 1 := by rw [IntKind.wrap_i64]; omega
          have hk60 : k < 60 := by omega
          clear hl hst hga hgb hah hk hhk
          obtain ⟨p, q⟩ := za
          obtain ⟨c, d⟩ := zb
          have hca : wr.cell? ⟨gg, k, none⟩ = some (.complex .f64 p q) := hca
          have hcb : wr.cell? ⟨gg, k + 1, none⟩ = some (.complex .f64 c d) := hcb
          have kz := fun W => run_ceq (P := Try.prog) 28 p q c d W
          have ho : opO 12 (p, q) (c, d) = (if (eqW Ieee.double p c && eqW Ieee.double q d) = true then some one64 else some 0, some 0) := rfl
          obtain ⟨bb, hbb⟩ : ∃ bb, (eqW Ieee.double p c && eqW Ieee.double q d) = bb := ⟨_, rfl⟩
          rw [hbb] at kz ho
          clear hbb
          have cB := fun W => truth_any bb W
          obtain ⟨x, hx⟩ : ∃ x, (if bb = true then one64 else 0) = x := ⟨_, rfl⟩
          have hnv : nodeV sl ⟨12, 0, 0, 0⟩ st = if (isFinD x && isFinD 0) = true then some (x, 0) else none := by
            rw [hn0]
            refine res_of ?_ ?_
            · rw [ho, ← hx]; exact can_ite bb
            · rw [ho]; exact can0
          have Wxy := Lib.hid (show x < 18446744073709551616 ∧ (0 : Nat) < 18446744073709551616 by rw [← hx]; exact lt_ite bb)
          rw [hx] at cB
          clear hn0 ho hx
          go_wp2_with fail
          refine (cT _).mono ?_
          rintro e w2 ⟨rfl, hw2⟩
          subst w2
          go_wp2_with fail
          refine (cB _).mono ?_
          rintro e w2 ⟨rfl, hw2⟩
          subst w2
          go_wp2_with fail
          refine (finS_any x 0 _).mono ?_
          rintro e w3 ⟨rfl, j, hw3⟩
          have hb3 : Below wr.heap.size wr w3 := by
            rw [hw3]
            (repeat (first | exact Below.refl _ _ | refine below_drewN ?_ _ | refine Below.alloc ?_ (Nat.le_refl _) _))
          clear hw3
          cases hf : (isFinD x && isFinD 0)
          · rw [hf] at hnv
            have He := Lib.hid (HR.out.none Hs.out hnv)
            have Hb3 := Lib.hid (HR.out.b.trans (hb3.mono hsz))
            clear hnv hf hb3
            go_wp2_with fail
            go_ret2
            exact ⟨by rw [He.out]; rfl, Hb3.out⟩
          · rw [hf] at hnv
            have hgz : GZ (x, 0) := ⟨by rw [Bool.and_eq_true] at hf; exact hf, Wxy.out⟩
            have Hg := Lib.hid (And.intro hnv hgz)
            have hsl := slice_z gg h cp k (by have := owns_cap HR.out.own; omega)
            have hs3 := hb3.size
            have hws : w.heap.size ≤ w3.heap.size := by omega
            have Hc3 := Lib.hid (show CellsZ w3 gg 0 (st.reverse.take k) from CellsZ.take ((OwnZ.cells HR.out.own (by rw [List.length_reverse]; exact HR.out.len)).1.keep hgl hb3) k)
            have Hc3' := Lib.hid (show CellsZ (w3.alloc (.cells #[] 28)) gg 0 (st.reverse.take k) from Hc3.out.keep (by omega) ((Below.refl w3.heap.size w3).alloc (Nat.le_refl _) _))
            have Hb3 := Lib.hid (show Below w.heap.size w (w3.alloc (.cells #[] 28)) from (HR.out.b.trans (hb3.mono hsz)).alloc hws _)
            have Hn0 := Lib.hid (show OwnZ w.heap.size (w3.alloc (.cells #[] 28)) (.slice (some ⟨w3.heap.size, 0, none⟩) 0 0) 0 [] from own_mono (litZ0 w3) hws)
            have Hlt := Lib.hid (show (cZ (st.reverse.take k)).length = k * 1 by unfold cZ; rw [List.length_map, List.length_take, List.length_reverse, HR.out.len]; omega)
            have hn63 : 0 + k ≤ maxLen := by unfold maxLen; omega
            have hnby : (0 + k) * 16 ≤ 140737488355328 := by omega
            have hn63b : k + 1 ≤ maxLen := by unfold maxLen; omega
            have hnbyb : (k + 1) * 16 ≤ 140737488355328 := by omega
            have hbs : w.heap.size ≤ (w3.alloc (.cells #[] 28)).heap.size := by rw [World.size_alloc]; omega
            clear hnv hf hb3 hgz
            go_wp2_with (first
              | (at_builtin; refine wpList_append_own _ rfl (.tmp 115) (.tmp 118) 25 rfl w.heap.size 28 i0 (.complex .f64 0 0) 1 16 Try.underlying25 Hi.out.1 Hi.out.2.1 Hi.out.2.2.1 Hi.out.2.2.2 rfl (by decide) (.slice (some ⟨w3.heap.size, 0, none⟩) 0 0) 0 [] rfl Hn0.out ⟨gg, 0, none⟩ k cp (cZ (st.reverse.take k)) rfl Hlt.out (flatZ Hc3'.out) (all_oneZ _) hn63 hnby hbs ?_; intro v5 w5 hown5 hgrow5 hnil5; have H5 := Lib.hid (own_app hown5 (Hb3.out.grown hgrow5 hbs (fun q hq => (Hn0.out.lt q hq).1))); clear hown5 hgrow5 hnil5; have hs5 := H5.out.2.size; have Hown := Lib.hid (World.ownsRow.alloc H5.out.1 (.cells #[.complex .f64 x 0] 28)); have hbs5 := alloc_ge (.cells #[.complex .f64 x 0] 28) hs5; have Hnews := Lib.hid (one_cellZ w5 x 0))
              | (at_builtin; refine wpList_append_lies _ rfl (.tmp 119) (.tmp 121) 25 rfl w.heap.size 28 i0 (.complex .f64 0 0) 1 16 Try.underlying25 Hi.out.1 Hi.out.2.1 Hi.out.2.2.1 Hi.out.2.2.2 rfl (by decide) v5 k (cZ (st.reverse.take k)) rfl Hown.out ⟨w5.heap.size, 0, none⟩ 1 1 [.complex .f64 x 0] rfl rfl Hnews.out (one_oneZ x 0) (by decide) hn63b hnbyb hbs5 _ rfl ?_; intro g6 cp6 w6 hown6 hgrow6 hat6 hlt6; have H6 := Lib.hid (own_put hown6 ((H5.out.2.alloc hs5 _).grown hgrow6 hbs5 (fun q hq => (Hown.out.lt q hq).1))); clear hown6 hgrow6 hat6 hlt6))
            go_roundw
            case rel => exact ⟨i + 1, k + 1, g6, cp6, _, rfl, by go_num, by omega, Lib.hid (HR.out.next Hs.out har Hkk.out Hg.out.1 Hg.out.2 H6.out.1 H6.out.2)⟩
            case measure => simp [intOf]; omega
    · obtain rfl : i = n := by omega
      have hil' : ¬ (i : Int) < (i : Int) := by omega
      have hw1 := HR.out.wt
      have hev := HR.out.ev
      rw [List.drop_eq_nil_of_le (by omega)] at hw1 hev
      have h1 : h = 1 := Option.some.inj hw1
      have hst : st.length = 1 := HR.out.len.trans h1
      obtain ⟨z, rfl⟩ : ∃ z, st = [z] := by
        match st, hst with
        | [z], _ => exact ⟨z, rfl⟩
      have He := Lib.hid (show evL sl xs [] = some z from hev)
      have hcell : wr.cell? ⟨gg, 0, none⟩ = some (.complex .f64 z.1 z.2) := (OwnZ.cells HR.out.own (by rw [List.length_reverse]; exact HR.out.len)).1 0 z rfl
      have h0h : (0 : Int) < (h : Int) := by omega
      clear hw1 hev hst h1
      go_wp2_with fail
      go_ret2
      exact ⟨by rw [He.out]; rfl, HR.out.b⟩
end Go.Proofs.Ytjkjgichneoflaa.Ex
