/- The walk of FnUndone: it returns true. -/
import Derived.Test.YtpemmmnohlimmaaRows
import Derived.Test.YtpemmmnohlimmaaStpH
import Derived.Test.YtpemmmnohlimmaaCrt
import Derived.Test.YtpemmmnohlimmaaUndI
namespace Go.Proofs.Ytpemmmnohlimmaa.fnUndone
open Go.ChangeShapes Go.WideShapes Go.ChangeAt Go.RowKit Go.Proofs.Ytpemmmnohlimmaa Go.Proofs.Ytpemmmnohlimmaa.Flt Go.Proofs.Ytpemmmnohlimmaa.Mth Go.Proofs.Ytpemmmnohlimmaa.Cpx Go.Proofs.Ytpemmmnohlimmaa.Trn Go.Proofs.Ytpemmmnohlimmaa.Stp Go.Proofs.Ytpemmmnohlimmaa.Drw
set_option linter.unusedVariables false
theorem un_len {xs : List Stp} : (xs.map unS).reverse.length = xs.length := by rw [List.length_reverse, List.length_map]
/-- there and back -/
theorem cor_back {xs : List Stp} {x y : Nat} (hl : xs.length ≤ 5) (h : ∀ s ∈ xs, exS s) (hz : Fz (x, y)) : ∃ p q, corA xs (x, y) = some (p, q) ∧ (p < 18446744073709551616 ∧ q < 18446744073709551616) ∧ corA (xs.map unS).reverse (p, q) = some (x, y) := by
  obtain ⟨⟨p, q⟩, e1, e2, e3⟩ := fld_un xs (x, y) h hz
  have h1 := exOk hl h
  have h2 := exOk (xs := (xs.map unS).reverse) (by rw [un_len]; exact hl) (mem_un h)
  refine ⟨p, q, ?_, e2.2, ?_⟩
  · unfold corA okZ
    rw [h1, show isFinD (x, y).1 = true from hz.1.1, show isFinD (x, y).2 = true from hz.1.2]
    exact e1
  · unfold corA okZ
    rw [h2, show isFinD (p, q).1 = true from e2.1.1, show isFinD (p, q).2 = true from e2.1.2]
    exact e3
theorem cor_inf {xs : List Stp} {x y : Nat} (hz : (isFinD x && isFinD y) = false) : corA xs (x, y) = none := by
  unfold corA okZ
  rw [show (isFinD (x, y).1 && isFinD (x, y).2) = (isFinD x && isFinD y) from rfl, hz, Bool.and_false]
  rfl
def Ans (o : Option (Nat × Nat)) (W : World) (e : Ending) (w' : World) : Prop := e = .returned (ansV o) ∧ Below W.heap.size W w'
theorem ans_none {f : FuncId} {args : Array Value} {o : Option (Nat × Nat)} {W : World} (h : Calls Try.prog f args W (Ans o W)) (ho : o = none) : Calls Try.prog f args W fun e w' => e = .returned (.tuple #[.complex .f64 0 0, .bool false]) ∧ Below W.heap.size W w' := by
  subst ho; exact h
theorem ans_some {f : FuncId} {args : Array Value} {o : Option (Nat × Nat)} {p q : Nat} {W : World} (h : Calls Try.prog f args W (Ans o W)) (ho : o = some (p, q)) : Calls Try.prog f args W fun e w' => e = .returned (.tuple #[.complex .f64 p q, .bool true]) ∧ Below W.heap.size W w' := by
  subst ho; exact h
/-- what is known of both lists all along -/
structure Ctx (w : World) (g G : Nat) (xs : List Stp) (W : World) : Prop where
  c : CellsS W g 0 xs
  l : g < W.heap.size
  c2 : CellsS W G 0 (xs.map unS).reverse
  l2 : G < W.heap.size
  b : Below w.heap.size w W
theorem Ctx.next {w : World} {g G : Nat} {xs : List Stp} {W W' : World} (h : Ctx w g G xs W) (hb : Below W.heap.size W W') : Ctx w g G xs W' :=
  ⟨h.c.keep h.l hb, Nat.lt_of_lt_of_le h.l hb.size, h.c2.keep h.l2 hb, Nat.lt_of_lt_of_le h.l2 hb.size, h.b.trans (hb.mono h.b.size)⟩
set_option maxRecDepth 20000 in
set_option maxHeartbeats 3200000 in
theorem walk (a : Option Addr) (len cap : Nat) (zs : List Int) (w : World) (hr : IsRow .u8 w a len cap zs) :
    Calls Try.prog 4 #[.slice a len cap] w fun x w' => x = .returned (.bool true) ∧ Below w.heap.size w w' := by
  by_cases hl : (len : Int) ≤ 1048576
  · go_enter Try.func4, Try.ntmps4
    go_wp2_with fail
    refine (Drw.big_no _ _ _ _ hl).mono ?_
    rintro e w' ⟨rfl, rfl⟩
    go_wp2_with fail
    refine (drawExact a len cap zs _ hr).mono ?_
    rintro e w1 ⟨g, cp, xs, x, y, ⟨hx5, hwf, hex⟩, ⟨wx, wy⟩, rfl, hcell, hg, hcp, hb1⟩
    have Hu := Lib.hid (undo_any g 0 cp xs w1 hg hcell hx5 hex)
    have C := Lib.hid (And.intro hcell (And.intro hg hb1))
    have Hx := Lib.hid (And.intro hx5 hex)
    clear hr hcell hb1 hg hwf hex hx5 hcp
    obtain ⟨n, hn⟩ : ∃ n, xs.length = n := ⟨_, rfl⟩
    rw [hn]
    go_wp2_with fail
    have cU := Hu.out
    rw [hn] at cU
    refine cU.mono ?_
    rintro e w2 ⟨G, rfl, hcG, hG, hb⟩
    have C2 := Lib.hid (show Ctx w' g G xs w2 from ⟨C.out.1.keep C.out.2.1 hb, Nat.lt_of_lt_of_le C.out.2.1 hb.size, hcG, hG, C.out.2.2.trans (hb.mono C.out.2.2.size)⟩)
    clear hcG hG hb cU C Hu
    have cE := Lib.hid (show ∀ W, Ctx w' g G xs W → Calls Try.prog 15 #[.slice (some ⟨g, 0, none⟩) n cp] W fun e w2 => e = .returned (.bool true) ∧ Below W.heap.size W w2 from fun W h => by
      have := exact_any' g 0 cp xs W h.l h.c Hx.out.1 Hx.out.2
      rw [hn] at this
      exact this)
    have cE2 := Lib.hid (show ∀ W, Ctx w' g G xs W → Calls Try.prog 15 #[.slice (some ⟨G, 0, none⟩) n n] W fun e w2 => e = .returned (.bool true) ∧ Below W.heap.size W w2 from fun W h => by
      have := exact_any' G 0 n (xs.map unS).reverse W h.l2 h.c2 (by rw [un_len]; exact Hx.out.1) (mem_un Hx.out.2)
      rw [un_len, hn] at this
      exact this)
    have cC := Lib.hid (show ∀ W, Ctx w' g G xs W → Calls Try.prog 8 #[.slice (some ⟨g, 0, none⟩) n cp, .complex .f64 x y] W (Ans (corA xs (x, y)) W) from fun W h => by
      have := correct_any g 0 cp xs x y W h.l (ex_wf Hx.out.2) h.c wx wy
      rw [hn] at this
      exact this)
    have cD := Lib.hid (show ∀ W (u v : Nat), Ctx w' g G xs W → u < 18446744073709551616 → v < 18446744073709551616 → Calls Try.prog 8 #[.slice (some ⟨G, 0, none⟩) n n, .complex .f64 u v] W (Ans (corA (xs.map unS).reverse (u, v)) W) from fun W u v h wu wv => by
      have := correct_any G 0 n (xs.map unS).reverse u v W h.l2 (ex_wf (mem_un Hx.out.2)) h.c2 wu wv
      rw [un_len, hn] at this
      exact this)
    have cF := fun W => finI_any x y W wx wy
    have cQ := fun W => same_any x y W wx wy
    cases hz : (isFinD x && isFinD y)
    · rw [hz] at cF
      have hA := Lib.hid (cor_inf (xs := xs) hz)
      clear hz
      go_wp2_with fail
      refine (cE.out _ C2.out).mono ?_
      rintro e w3 ⟨rfl, hb⟩
      have C3 := Lib.hid (C2.out.next hb)
      clear hb
      go_wp2_with fail
      refine (cE2.out _ C3.out).mono ?_
      rintro e w4 ⟨rfl, hb⟩
      have C4 := Lib.hid (C3.out.next hb)
      clear hb
      go_wp2_with fail
      refine (ans_none (cC.out _ C4.out) hA.out).mono ?_
      rintro e w5 ⟨rfl, hb⟩
      have C5 := Lib.hid (C4.out.next hb)
      clear hb
      go_wp2_with fail
      have cD0 := cD.out _ 0 0 C5.out (by decide) (by decide)
      cases hd : corA (xs.map unS).reverse (0, 0) with
      | none =>
        refine (ans_none cD0 hd).mono ?_
        rintro e w6 ⟨rfl, hb⟩
        have C6 := Lib.hid (C5.out.next hb)
        clear hb cD0 hd
        go_wp2_with fail
        refine (cF _).mono ?_
        rintro e w7 ⟨rfl, rfl⟩
        go_wp2_with fail
        go_ret
        exact ⟨rfl, C6.out.b⟩
      | some u =>
        obtain ⟨p, q⟩ := u
        refine (ans_some cD0 hd).mono ?_
        rintro e w6 ⟨rfl, hb⟩
        have C6 := Lib.hid (C5.out.next hb)
        clear hb cD0 hd
        go_wp2_with fail
        refine (cF _).mono ?_
        rintro e w7 ⟨rfl, rfl⟩
        go_wp2_with fail
        go_ret
        exact ⟨rfl, C6.out.b⟩
    · rw [hz] at cF
      rw [Bool.and_eq_true] at hz
      obtain ⟨p, q, h1, hwp, h2⟩ := cor_back Hx.out.1 Hx.out.2 (show Fz (x, y) from ⟨⟨hz.1, hz.2⟩, wx, wy⟩)
      have H12 := Lib.hid (And.intro h1 h2)
      clear hz h1 h2
      go_wp2_with fail
      refine (cE.out _ C2.out).mono ?_
      rintro e w3 ⟨rfl, hb⟩
      have C3 := Lib.hid (C2.out.next hb)
      clear hb
      go_wp2_with fail
      refine (cE2.out _ C3.out).mono ?_
      rintro e w4 ⟨rfl, hb⟩
      have C4 := Lib.hid (C3.out.next hb)
      clear hb
      go_wp2_with fail
      refine (ans_some (cC.out _ C4.out) H12.out.1).mono ?_
      rintro e w5 ⟨rfl, hb⟩
      have C5 := Lib.hid (C4.out.next hb)
      clear hb
      go_wp2_with fail
      refine (ans_some (cD.out _ p q C5.out hwp.1 hwp.2) H12.out.2).mono ?_
      rintro e w6 ⟨rfl, hb⟩
      have C6 := Lib.hid (C5.out.next hb)
      clear hb
      go_wp2_with fail
      refine (cF _).mono ?_
      rintro e w7 ⟨rfl, rfl⟩
      go_wp2_with fail
      refine (cQ _).mono ?_
      rintro e w8 ⟨rfl, rfl⟩
      go_wp2_with fail
      go_ret
      exact ⟨rfl, C6.out.b⟩
  · go_enter Try.func4, Try.ntmps4
    go_wp2_with fail
    refine (Drw.big_yes _ _ _ _ (by omega)).mono ?_
    rintro e w' ⟨rfl, rfl⟩
    go_wp2_with fail
    go_ret
    exact ⟨rfl, Below.refl _ _⟩
end Go.Proofs.Ytpemmmnohlimmaa.fnUndone
