/- The program's ExprOk and DepthOf of valid expressions. -/
import Derived.Test.YtlngplohnknhjaaGreatDoorKExpB
namespace Go.Proofs.YtlngplohnknhjaaGreatDoor.Ex
open Go.ChangeShapes Go.WideShapes Go.ChangeAt Go.RowKit Go.Proofs.YtlngplohnknhjaaGreatDoor Go.Proofs.YtlngplohnknhjaaGreatDoor.Flt Go.Proofs.YtlngplohnknhjaaGreatDoor.Mth Go.Proofs.YtlngplohnknhjaaGreatDoor.Cpx
set_option linter.unusedVariables false
def C3 (w : World) (b : Nat) (k s : Int) (x y : Nat) : Prop := w.cell? ⟨b, 0, none⟩ = some (.int .i64 k) ∧ w.cell? ⟨b, 1, none⟩ = some (.int .i64 s) ∧ w.cell? ⟨b, 2, none⟩ = some (.complex .f64 x y)
theorem keep3 {w w' : World} {b : Nat} {k s : Int} {x y : Nat} (h : C3 w b k s x y) (hl : b < w.heap.size) (hb : Below w.heap.size w w') : C3 w' b k s x y ∧ b < w'.heap.size :=
  ⟨⟨(hb.cell (by exact hl)).trans h.1, (hb.cell (by exact hl)).trans h.2.1, (hb.cell (by exact hl)).trans h.2.2⟩, Nat.lt_of_lt_of_le hl hb.size⟩
theorem new3 {w w1 : World} {k s : Int} {x y : Nat} {T : TypeId} (hb : Below (w.alloc (.cells #[.int .i64 k, .int .i64 s, .complex .f64 x y] T)).heap.size (w.alloc (.cells #[.int .i64 k, .int .i64 s, .complex .f64 x y] T)) w1) : C3 w1 w.heap.size k s x y ∧ w.heap.size < w1.heap.size :=
  ⟨cells3 hb, by have := hb.size; simp at this; omega⟩
theorem wt_cons {h : Nat} {n : Nd} {r : List Nd} {v : Nat} (e : wt h (n :: r) = some v) : ar n.k ≤ h ∧ wt (h - ar n.k + 1) r = some v := by
  unfold wt at e
  split at e
  · exact ⟨by assumption, e⟩
  · cases e
theorem drop_cons {xs : List Nd} {i : Nat} {n : Nd} (h : xs[i]? = some n) : xs.drop i = n :: xs.drop (i + 1) := by
  have hl : i < xs.length := by
    rcases Nat.lt_or_ge i xs.length with h1 | h1
    · exact h1
    · rw [List.getElem?_eq_none h1] at h; cases h
  rw [List.getElem?_eq_getElem hl] at h
  cases h
  exact List.drop_eq_getElem_cons hl
/-- what depthOf answers -/
def DepOut (n : Nat) (w : World) (e : Ending) (w' : World) : Prop := ∃ d : Nat, (1 ≤ d ∧ d ≤ n) ∧ e = .returned (.tuple #[.int .i64 (d : Int), .bool true]) ∧ Below w.heap.size w w'
set_option maxRecDepth 20000 in
set_option maxHeartbeats 3200000 in
theorem depth_any (g off cap : Nat) (xs : List Nd) (w : World) (hv : Valid xs) (h : CellsN w g off xs) (hg : g < w.heap.size) :
    Calls Tryz.prog 21 #[.slice (some ⟨g, off, none⟩) xs.length cap] w (DepOut xs.length w) := by
  have H := Lib.hid (And.intro hv h)
  have hlen := hv.len
  clear hv h
  obtain ⟨n, hn⟩ : ∃ n, xs.length = n := ⟨_, rfl⟩
  rw [hn] at hlen ⊢
  have Hst := Lib.hid (Below.refl w.heap.size w)
  go_enter Tryz.func21, Tryz.ntmps21
  go_wp2_with fail
  go_loopw [4, 5, 13] (fun vh vm vi wr => ∃ i h m : Nat, vh = .int .i64 (h : Int) ∧ vm = .int .i64 (m : Int) ∧ vi = .int .i64 (i : Int) ∧ i ≤ n ∧ m ≤ i ∧ h ≤ m ∧ (0 < i → 1 ≤ m) ∧ Below w.heap.size w wr ∧ Hid (wt h (xs.drop i) = some 1))
    (fun _ _ vi _ => n - (intOf vi).toNat)
  case atStart => exact ⟨0, 0, 0, rfl, rfl, rfl, by omega, by omega, by omega, by omega, Hst.out, Lib.hid H.out.1.wt⟩
  case round =>
    obtain ⟨i, h, m, rfl, rfl, rfl, hi, hmi, hhm, hpos, hbel, Hw⟩ := hrel
    have hsz := hbel.size
    by_cases hil : i < n
    · have hil' : (i : Int) < (n : Int) := by omega
      obtain ⟨nd, hs⟩ : ∃ nd, xs[i]? = some nd := ⟨_, List.getElem?_eq_getElem (by rw [hn]; exact hil)⟩
      have hc := H.out.1.ok nd (List.mem_of_getElem? hs)
      obtain ⟨a0, a1, a2⟩ := (H.out.2.keep hg hbel) i nd hs
      obtain ⟨k0, s0, x0, y0⟩ := nd
      have Hbel := Lib.hid hbel
      have Hs := Lib.hid hs
      clear hs hbel
      rcases hc with hc | hc | hc
      · obtain rfl : k0 = 1 := hc.1
        obtain rfl : s0 = 0 := hc.2.1
        have cK := fun W => nodeOk_num x0 y0 hc.2.2 W
        have cP := fun W => part_num 0 x0 y0 W
        have cO := fun W => oper_num x0 y0 W
        have har : ar 1 = 0 := rfl
        unfold numVal at cP
        have Hc := Lib.hid hc
        have hwt := wt_cons (by rw [← drop_cons Hs.out]; exact Hw.out)
        rw [show (Nd.mk 1 _ _ _).k = 1 from rfl, har] at hwt
        obtain ⟨hah, hwt⟩ := hwt
        obtain ⟨h2, hh2⟩ : ∃ h2, h - 0 + 1 = h2 := ⟨_, rfl⟩
        rw [hh2] at hwt
        have Hw2 := Lib.hid hwt
        obtain ⟨m2, hm2⟩ : ∃ m2, max m h2 = m2 := ⟨_, rfl⟩
        have e1 : ¬ (h : Int) < 0 := by omega
        have e2 : (h : Int) + (1 - 0) = (h2 : Int) := by omega
        have e3 : IntKind.i64.wrap ((h : Int) + IntKind.i64.wrap (1 - 0)) = (h2 : Int) := by rw [IntKind.wrap_i64, IntKind.wrap_i64]; omega
        have e4 : max (m : Int) (h2 : Int) = (m2 : Int) := by omega
        have e5 : (if (m : Int) < (h2 : Int) then (h2 : Int) else (m : Int)) = (m2 : Int) := by split <;> omega
        clear hc hwt har
        go_wp2_with fail
        refine (cK _).mono ?_
        rintro e w1 ⟨rfl, hb⟩
        have Hb1 := Lib.hid (Hbel.out.trans ((below_on (B := wr.heap.size) hb (by go_grown) (by simp)).mono hsz))
        obtain ⟨⟨c0, c1, c2⟩, l1⟩ := new3 hb
        have hs1 := Hb1.out.size
        clear hb
        go_wp2_with fail
        refine (cP _).mono ?_
        rintro e w2 ⟨rfl, hw2⟩
        have hb : Below w1.heap.size w1 w2 := by rw [hw2]; go_grown
        clear hw2
        have Hb2 := Lib.hid (Hb1.out.trans (hb.mono hs1))
        obtain ⟨⟨d0, d1, d2⟩, l2⟩ := keep3 ⟨c0, c1, c2⟩ l1 hb
        have hs2 := Hb2.out.size
        clear hb c0 c1 c2 l1 hs1
        go_wp2_with fail
        refine (cO _).mono ?_
        rintro e w3 ⟨rfl, hb⟩
        have Hb3 := Lib.hid (Hb2.out.trans (hb.mono hs2))
        obtain ⟨⟨c0, c1, c2⟩, l3⟩ := keep3 ⟨d0, d1, d2⟩ l2 hb
        have hs3 := Hb3.out.size
        clear hb d0 d1 d2 l2 hs2
        go_wp2_with fail
        refine (cP _).mono ?_
        rintro e w4 ⟨rfl, hw4⟩
        have hb : Below w3.heap.size w3 w4 := by rw [hw4]; go_grown
        clear hw4
        have Hb4 := Lib.hid (Hb3.out.trans (hb.mono hs3))
        have hs4 := Hb4.out.size
        clear hb c0 c1 c2 l3 hs3
        go_wp2_with fail
        refine (cO _).mono ?_
        rintro e w5 ⟨rfl, hb⟩
        have Hb5 := Lib.hid (Hb4.out.trans (hb.mono hs4))
        clear hb hs4
        go_wp2_with fail
        go_roundw
        case rel => exact ⟨i + 1, h2, m2, by go_num, by go_num, by go_num, by omega, by omega, by omega, by omega, Hb5.out, Lib.hid Hw2.out⟩
        case measure => simp [intOf]; omega
      · obtain rfl : k0 = 2 := hc.1
        obtain rfl : x0 = 0 := hc.2.2.1
        obtain rfl : y0 = 0 := hc.2.2.2
        have cK := fun W => nodeOk_slot s0 hc.2.1.1 hc.2.1.2 W
        have cP := fun W => part_slot s0 0 0 W
        have cO := fun W => oper_slot s0 W
        have har : ar 2 = 0 := rfl
        unfold slotVal at cP
        have Hc := Lib.hid hc
        have hwt := wt_cons (by rw [← drop_cons Hs.out]; exact Hw.out)
        rw [show (Nd.mk 2 _ _ _).k = 2 from rfl, har] at hwt
        obtain ⟨hah, hwt⟩ := hwt
        obtain ⟨h2, hh2⟩ : ∃ h2, h - 0 + 1 = h2 := ⟨_, rfl⟩
        rw [hh2] at hwt
        have Hw2 := Lib.hid hwt
        obtain ⟨m2, hm2⟩ : ∃ m2, max m h2 = m2 := ⟨_, rfl⟩
        have e1 : ¬ (h : Int) < 0 := by omega
        have e2 : (h : Int) + (1 - 0) = (h2 : Int) := by omega
        have e3 : IntKind.i64.wrap ((h : Int) + IntKind.i64.wrap (1 - 0)) = (h2 : Int) := by rw [IntKind.wrap_i64, IntKind.wrap_i64]; omega
        have e4 : max (m : Int) (h2 : Int) = (m2 : Int) := by omega
        have e5 : (if (m : Int) < (h2 : Int) then (h2 : Int) else (m : Int)) = (m2 : Int) := by split <;> omega
        clear hc hwt har
        go_wp2_with fail
        refine (cK _).mono ?_
        rintro e w1 ⟨rfl, hb⟩
        have Hb1 := Lib.hid (Hbel.out.trans ((below_on (B := wr.heap.size) hb (by go_grown) (by simp)).mono hsz))
        obtain ⟨⟨c0, c1, c2⟩, l1⟩ := new3 hb
        have hs1 := Hb1.out.size
        clear hb
        go_wp2_with fail
        refine (cP _).mono ?_
        rintro e w2 ⟨rfl, hw2⟩
        have hb : Below w1.heap.size w1 w2 := by rw [hw2]; go_grown
        clear hw2
        have Hb2 := Lib.hid (Hb1.out.trans (hb.mono hs1))
        obtain ⟨⟨d0, d1, d2⟩, l2⟩ := keep3 ⟨c0, c1, c2⟩ l1 hb
        have hs2 := Hb2.out.size
        clear hb c0 c1 c2 l1 hs1
        go_wp2_with fail
        refine (cO _).mono ?_
        rintro e w3 ⟨rfl, hb⟩
        have Hb3 := Lib.hid (Hb2.out.trans (hb.mono hs2))
        obtain ⟨⟨c0, c1, c2⟩, l3⟩ := keep3 ⟨d0, d1, d2⟩ l2 hb
        have hs3 := Hb3.out.size
        clear hb d0 d1 d2 l2 hs2
        go_wp2_with fail
        refine (cP _).mono ?_
        rintro e w4 ⟨rfl, hw4⟩
        have hb : Below w3.heap.size w3 w4 := by rw [hw4]; go_grown
        clear hw4
        have Hb4 := Lib.hid (Hb3.out.trans (hb.mono hs3))
        have hs4 := Hb4.out.size
        clear hb c0 c1 c2 l3 hs3
        go_wp2_with fail
        refine (cO _).mono ?_
        rintro e w5 ⟨rfl, hb⟩
        have Hb5 := Lib.hid (Hb4.out.trans (hb.mono hs4))
        clear hb hs4
        go_wp2_with fail
        go_roundw
        case rel => exact ⟨i + 1, h2, m2, by go_num, by go_num, by go_num, by omega, by omega, by omega, by omega, Hb5.out, Lib.hid Hw2.out⟩
        case measure => simp [intOf]; omega
      · obtain rfl : s0 = 0 := hc.2.1
        obtain rfl : x0 = 0 := hc.2.2.1
        obtain rfl : y0 = 0 := hc.2.2.2
        have cK := fun W => nodeOk_op k0 hc.1 W
        have cP := fun W => part_op k0 0 0 0 W hc.1
        have cO := fun W => oper_op k0 W hc.1
        obtain ⟨a, har⟩ : ∃ a, ar k0 = a := ⟨_, rfl⟩
        rw [har] at cO
        unfold opV at cP
        generalize txt k0 = tx at *
        generalize stg k0 = st at *
        have Hc := Lib.hid hc
        have hwt := wt_cons (by rw [← drop_cons Hs.out]; exact Hw.out)
        rw [show (Nd.mk k0 _ _ _).k = k0 from rfl, har] at hwt
        obtain ⟨hah, hwt⟩ := hwt
        obtain ⟨h2, hh2⟩ : ∃ h2, h - a + 1 = h2 := ⟨_, rfl⟩
        rw [hh2] at hwt
        have Hw2 := Lib.hid hwt
        obtain ⟨m2, hm2⟩ : ∃ m2, max m h2 = m2 := ⟨_, rfl⟩
        have e1 : ¬ (h : Int) < (a : Int) := by omega
        have e2 : (h : Int) + (1 - (a : Int)) = (h2 : Int) := by omega
        have e3 : IntKind.i64.wrap ((h : Int) + IntKind.i64.wrap (1 - (a : Int))) = (h2 : Int) := by rw [IntKind.wrap_i64, IntKind.wrap_i64]; omega
        have e4 : max (m : Int) (h2 : Int) = (m2 : Int) := by omega
        have e5 : (if (m : Int) < (h2 : Int) then (h2 : Int) else (m : Int)) = (m2 : Int) := by split <;> omega
        clear hc hwt har
        go_wp2_with fail
        refine (cK _).mono ?_
        rintro e w1 ⟨rfl, hb⟩
        have Hb1 := Lib.hid (Hbel.out.trans ((below_on (B := wr.heap.size) hb (by go_grown) (by simp)).mono hsz))
        obtain ⟨⟨c0, c1, c2⟩, l1⟩ := new3 hb
        have hs1 := Hb1.out.size
        clear hb
        go_wp2_with fail
        refine (cP _).mono ?_
        rintro e w2 ⟨rfl, hw2⟩
        have hb : Below w1.heap.size w1 w2 := by rw [hw2]; go_grown
        clear hw2
        have Hb2 := Lib.hid (Hb1.out.trans (hb.mono hs1))
        obtain ⟨⟨d0, d1, d2⟩, l2⟩ := keep3 ⟨c0, c1, c2⟩ l1 hb
        have hs2 := Hb2.out.size
        clear hb c0 c1 c2 l1 hs1
        go_wp2_with fail
        refine (cO _).mono ?_
        rintro e w3 ⟨rfl, hb⟩
        have Hb3 := Lib.hid (Hb2.out.trans (hb.mono hs2))
        obtain ⟨⟨c0, c1, c2⟩, l3⟩ := keep3 ⟨d0, d1, d2⟩ l2 hb
        have hs3 := Hb3.out.size
        clear hb d0 d1 d2 l2 hs2
        go_wp2_with fail
        refine (cP _).mono ?_
        rintro e w4 ⟨rfl, hw4⟩
        have hb : Below w3.heap.size w3 w4 := by rw [hw4]; go_grown
        clear hw4
        have Hb4 := Lib.hid (Hb3.out.trans (hb.mono hs3))
        have hs4 := Hb4.out.size
        clear hb c0 c1 c2 l3 hs3
        go_wp2_with fail
        refine (cO _).mono ?_
        rintro e w5 ⟨rfl, hb⟩
        have Hb5 := Lib.hid (Hb4.out.trans (hb.mono hs4))
        clear hb hs4
        go_wp2_with fail
        go_roundw
        case rel => exact ⟨i + 1, h2, m2, by go_num, by go_num, by go_num, by omega, by omega, by omega, by omega, Hb5.out, Lib.hid Hw2.out⟩
        case measure => simp [intOf]; omega
    · obtain rfl : i = n := by omega
      have hil' : ¬ (i : Int) < (i : Int) := by omega
      have h1 : h = 1 := by
        have := Hw.out
        rw [List.drop_eq_nil_of_le (by omega)] at this
        exact Option.some.inj this
      subst h1
      have Hbel := Lib.hid hbel
      clear hbel
      go_wp2_with fail
      go_ret2
      exact ⟨m, by omega, rfl, Hbel.out⟩
theorem exprOk_any (g off cap : Nat) (xs : List Nd) (w : World) (hv : Valid xs) (h : CellsN w g off xs) (hg : g < w.heap.size) :
    Calls Tryz.prog 8 #[.slice (some ⟨g, off, none⟩) xs.length cap] w fun e w' => e = .returned (.bool true) ∧ Below w.heap.size w w' := by
  have c := depth_any g off cap xs w hv h hg
  unfold DepOut at c
  clear hv h
  generalize xs.length = n at *
  go_enter Tryz.func8, Tryz.ntmps8
  go_wp2_with fail
  refine c.mono ?_
  rintro e w1 ⟨d, hd, rfl, hb⟩
  have Hb := Lib.hid hb
  clear hb
  go_wp2_with fail
  go_ret
  exact ⟨rfl, Hb.out⟩
end Go.Proofs.YtlngplohnknhjaaGreatDoor.Ex
