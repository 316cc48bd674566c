/- The walk of FnExprAgain: it returns true. -/
import Derived.Test.YtlngplohnknhjaaGreatDoorRows
import Derived.Test.YtlngplohnknhjaaGreatDoorKExpPo
import Derived.Test.YtlngplohnknhjaaGreatDoorKSamN
import Derived.Test.YtlngplohnknhjaaGreatDoorKExpRt
import Derived.Lib.SmallJoins
namespace Go.Proofs.YtlngplohnknhjaaGreatDoor.fnExprAgain
open Go.ChangeShapes Go.WideShapes Go.ChangeAt Go.RowKit Go.Proofs.YtlngplohnknhjaaGreatDoor Go.Proofs.YtlngplohnknhjaaGreatDoor.Flt Go.Proofs.YtlngplohnknhjaaGreatDoor.Mth Go.Proofs.YtlngplohnknhjaaGreatDoor.Cpx Go.Proofs.YtlngplohnknhjaaGreatDoor.Drw Go.Proofs.YtlngplohnknhjaaGreatDoor.Ex Go.Proofs.YtlngplohnknhjaaGreatDoor.Px Go.Proofs.YtlngplohnknhjaaGreatDoor.Sng
set_option linter.unusedVariables false
/-- what is known on the way -/
structure K (w : World) (g : Nat) (xs : List Nd) (W : World) : Prop where
  c : CellsN W g 0 xs
  gl : g < W.heap.size
  b : Below w.heap.size w W
  t : Door.Tab W
theorem K.next {w W W' : World} {g : Nat} {xs : List Nd} (h : K w g xs W) (hb : Below W.heap.size W W') : K w g xs W' :=
  ⟨h.c.keep h.gl hb, Nat.lt_of_lt_of_le h.gl hb.size, h.b.trans (hb.mono h.b.size), Door.tab_below h.t hb⟩
/-- a list that was read -/
structure Rd (xs : List Nd) (n : Nat) (v : Value) (W : World) : Prop where
  r : ∃ g cap, v = .slice (some ⟨g, 0, none⟩) n cap ∧ CellsN W g 0 xs ∧ g < W.heap.size
theorem Rd.next {W W' : World} {n : Nat} {v : Value} {xs : List Nd} (h : Rd xs n v W) (hb : Below W.heap.size W W') : Rd xs n v W' := by
  obtain ⟨g, cap, e, hc, hl⟩ := h.r
  exact ⟨g, cap, e, hc.keep hl hb, Nat.lt_of_lt_of_le hl hb.size⟩
theorem Rd.of {base n : Nat} {w : World} {v : Value} {xs : List Nd} (h : OwnN base w v xs.length xs) (hn : xs.length = n) (h0 : 0 < n) : Rd xs n v w := by
  rw [hn] at h
  obtain ⟨g, cap, rfl⟩ := Go.Joins.ownsRow_form h h0
  obtain ⟨h1, h2, _⟩ := OwnN.cells h hn
  exact ⟨g, cap, rfl, h1, h2⟩
theorem same_rd (xs : List Nd) (n : Nat) (hn : xs.length = n) (hok : ∀ s ∈ xs, s.ok) (h60 : n ≤ 60) (v : Value) (g cp : Nat) (w W : World) (h : Rd xs n v W) (k : K w g xs W) :
    Calls Tryz.prog 10 #[v, .slice (some ⟨g, 0, none⟩) n cp] W fun e w' => e = .returned (.bool true) ∧ Below W.heap.size W w' := by
  obtain ⟨b, cap, rfl, hc, hl⟩ := h.r
  exact sameN b 0 g 0 n cap cp xs hn hok W (by omega) hl k.gl hc k.c
set_option maxRecDepth 20000 in
set_option maxHeartbeats 3200000 in
theorem walk (a : Option Addr) (len cap : Nat) (zs : List Int) (w : World) (htab : Door.Tab w) (hr : IsRow .u8 w a len cap zs) :
    Calls Tryz.prog 3 #[.slice a len cap] w fun x w' => x = .returned (.bool true) ∧ Below w.heap.size w w' := by
  have Ht := Lib.hid htab
  clear htab
  by_cases hl : (len : Int) ≤ 1048576
  · go_enter Tryz.func3, Tryz.ntmps3
    go_wp2_with fail
    refine (Drw.big_no _ _ _ _ hl).mono ?_
    rintro e w' ⟨rfl, rfl⟩
    go_wp2_with fail
    refine (drawExpr a len cap zs _ hr).mono ?_
    rintro e w1 ⟨g, cp, t, h, cq, sl, ⟨tok, tlen⟩, _, rfl, ⟨hc, hg, hcp⟩, _, hb1⟩
    have K1 := Lib.hid (show K w' g (pf t) w1 from ⟨hc, hg, hb1, Door.tab_below Ht.out hb1⟩)
    have tl60 : (pf t).length ≤ 60 := by omega
    have hV := Valid.tree tok tl60
    have cF := fun W (k : K w' g (pf t) W) => format_any g 0 cp t W tok tl60 k.t k.c k.gl
    have cO := fun W (k : K w' g (pf t) W) => exprOk_any g 0 cp (pf t) W hV k.c k.gl
    have r1 := Px.written tok tl60
    have r2 := Px.written_paren tok tl60
    have r3 := Px.written_space tok tl60
    have hpos := pf_pos t
    unfold fmtV at cF
    obtain ⟨tx, htx⟩ : ∃ tx, txT t = tx := ⟨_, rfl⟩
    rw [htx] at cF r1 r2 r3
    obtain ⟨xs, hxs⟩ : ∃ xs, pf t = xs := ⟨_, rfl⟩
    rw [hxs] at K1 tl60 hV cF cO r1 r2 r3 hpos ⊢
    obtain ⟨n, hn⟩ : ∃ n, xs.length = n := ⟨_, rfl⟩
    have hok := hV.ok
    have cS := fun v W (hr : Rd xs n v W) (k : K w' g xs W) => same_rd xs n hn hok (by omega) v g cp w' W hr k
    have cP := fun (s : Tx) (r : Tx) (hs : s.length ≤ 600) (hR : R (.chain 1) [] s xs r) (hr : sk r = []) W (k : K w' g xs W) => (parse_any s hs xs r hR hr W k.t).mono (fun e w2 he => (show ∃ v, e = .returned (.tuple #[v, .bool true]) ∧ Rd xs n v w2 ∧ Below W.heap.size W w2 from by obtain ⟨v, h1, h2, h3⟩ := he; exact ⟨v, h1, Rd.of h2 hn (by omega), h3⟩))
    have CS := Lib.hid cS
    have CP := Lib.hid cP
    have CO := Lib.hid cO
    have CR := Lib.hid (And.intro r1 (And.intro r2 r3))
    rw [hn] at cF cO tl60 ⊢
    rw [hn] at CO
    clear hr hc hb1 hg hcp tok tlen hV hok cS cP cO r1 r2 r3 htx hxs
    by_cases h6 : tx.length ≤ 600
    · rw [if_pos h6] at cF
      have c1 := CP.out tx [] h6 CR.out.1 rfl
      have z1 := size_tx tx
      have z2 := size_tx (40 :: tx)
      have z3 := size_tx (32 :: tx)
      rw [List.length_cons] at z2 z3
      have e1 : (⟨#[40]⟩ : ByteArray) ++ ⟨tx.toArray⟩ = ⟨(40 :: tx).toArray⟩ := tx_app [40] tx
      have e2 : (⟨(40 :: tx).toArray⟩ : ByteArray) ++ ⟨#[41]⟩ = ⟨(40 :: (tx ++ [41])).toArray⟩ := tx_app (40 :: tx) [41]
      have e3 : (⟨#[32]⟩ : ByteArray) ++ ⟨tx.toArray⟩ = ⟨(32 :: tx).toArray⟩ := tx_app [32] tx
      have e4 : (⟨(32 :: tx).toArray⟩ : ByteArray) ++ ⟨#[32]⟩ = ⟨(32 :: (tx ++ [32])).toArray⟩ := tx_app (32 :: tx) [32]
      by_cases h8 : tx.length + 2 ≤ 600
      · have c2 := CP.out (40 :: (tx ++ [41])) [] (by simp only [List.length_append, List.length_cons, List.length_nil]; omega) CR.out.2.1 rfl
        have c3 := CP.out (32 :: (tx ++ [32])) [32] (by simp only [List.length_append, List.length_cons, List.length_nil]; omega) CR.out.2.2 rfl
        obtain ⟨b0, hb0⟩ : ∃ b, (⟨tx.toArray⟩ : ByteArray) = b := ⟨_, rfl⟩
        obtain ⟨b1, hb1⟩ : ∃ b, (⟨(40 :: tx).toArray⟩ : ByteArray) = b := ⟨_, rfl⟩
        obtain ⟨b2, hb2⟩ : ∃ b, (⟨(40 :: (tx ++ [41])).toArray⟩ : ByteArray) = b := ⟨_, rfl⟩
        obtain ⟨b3, hb3⟩ : ∃ b, (⟨(32 :: tx).toArray⟩ : ByteArray) = b := ⟨_, rfl⟩
        obtain ⟨b4, hb4⟩ : ∃ b, (⟨(32 :: (tx ++ [32])).toArray⟩ : ByteArray) = b := ⟨_, rfl⟩
        rw [hb0] at cF c1 z1 e1 e3
        rw [hb1] at z2 e1 e2
        rw [hb2] at e2 c2
        rw [hb3] at z3 e3 e4
        rw [hb4] at e4 c3
        have w1 : IntKind.i64.wrap ((b0.size : Int) + 2) = (b0.size : Int) + 2 := by rw [IntKind.wrap_i64, z1]; omega
        have w2 : ¬ (600 : Int) < (b0.size : Int) + 2 := by rw [z1]; omega
        have C1 := Lib.hid c1
        have C2 := Lib.hid c2
        have C3 := Lib.hid c3
        clear hb0 hb1 hb2 hb3 hb4 c1 c2 c3
        go_wp2_with fail
        refine (cF _ K1.out).mono ?_
        rintro e w2 ⟨rfl, hb⟩
        have K2 := Lib.hid (K1.out.next hb)
        clear hb
        go_wp2_with fail
        refine (C1.out _ K2.out).mono ?_
        rintro e w3 ⟨v1, rfl, hr1, hb⟩
        have K3 := Lib.hid (K2.out.next hb)
        have R1 := Lib.hid hr1
        clear hb hr1
        go_wp2_with fail
        refine (CS.out _ _ R1.out K3.out).mono ?_
        rintro e w4 ⟨rfl, hb⟩
        have K4 := Lib.hid (K3.out.next hb)
        clear hb
        go_wp2_with fail
        refine (C2.out _ K4.out).mono ?_
        rintro e w5 ⟨v2, rfl, hr2, hb⟩
        have K5 := Lib.hid (K4.out.next hb)
        have R2 := Lib.hid hr2
        clear hb hr2
        go_wp2_with fail
        refine (C3.out _ K5.out).mono ?_
        rintro e w6 ⟨v3, rfl, hr3, hb⟩
        have K6 := Lib.hid (K5.out.next hb)
        have R26 := Lib.hid (R2.out.next hb)
        have R3 := Lib.hid hr3
        clear hb hr3
        go_wp2_with fail
        refine (CS.out _ _ R26.out K6.out).mono ?_
        rintro e w7 ⟨rfl, hb⟩
        have K7 := Lib.hid (K6.out.next hb)
        have R37 := Lib.hid (R3.out.next hb)
        clear hb
        go_wp2_with fail
        refine (CS.out _ _ R37.out K7.out).mono ?_
        rintro e w8 ⟨rfl, hb⟩
        have K8 := Lib.hid (K7.out.next hb)
        clear hb
        go_wp2_with fail
        go_ret
        exact ⟨rfl, K8.out.b⟩
      · obtain ⟨b0, hb0⟩ : ∃ b, (⟨tx.toArray⟩ : ByteArray) = b := ⟨_, rfl⟩
        rw [hb0] at cF c1 z1
        have w1 : IntKind.i64.wrap ((b0.size : Int) + 2) = (b0.size : Int) + 2 := by rw [IntKind.wrap_i64, z1]; omega
        have w2 : (600 : Int) < (b0.size : Int) + 2 := by rw [z1]; omega
        have C1 := Lib.hid c1
        clear hb0 c1 e1 e2 e3 e4 z2 z3
        go_wp2_with fail
        refine (cF _ K1.out).mono ?_
        rintro e w2 ⟨rfl, hb⟩
        have K2 := Lib.hid (K1.out.next hb)
        clear hb
        go_wp2_with fail
        refine (C1.out _ K2.out).mono ?_
        rintro e w3 ⟨v1, rfl, hr1, hb⟩
        have K3 := Lib.hid (K2.out.next hb)
        have R1 := Lib.hid hr1
        clear hb hr1
        go_wp2_with fail
        refine (CS.out _ _ R1.out K3.out).mono ?_
        rintro e w4 ⟨rfl, hb⟩
        have K4 := Lib.hid (K3.out.next hb)
        clear hb
        go_wp2_with fail
        go_ret
        exact ⟨rfl, K4.out.b⟩
    · rw [if_neg h6] at cF
      go_wp2_with fail
      refine (cF _ K1.out).mono ?_
      rintro e w2 ⟨rfl, hb⟩
      have K2 := Lib.hid (K1.out.next hb)
      clear hb
      go_wp2_with fail
      refine (CO.out _ K2.out).mono ?_
      rintro e w3 ⟨rfl, hb⟩
      have K3 := Lib.hid (K2.out.next hb)
      clear hb
      go_wp2_with fail
      go_ret
      exact ⟨rfl, K3.out.b⟩
  · go_enter Tryz.func3, Tryz.ntmps3
    go_wp2_with fail
    refine (Drw.big_yes _ _ _ _ (by omega)).mono ?_
    rintro e w' ⟨rfl, rfl⟩
    go_wp2_with fail
    go_ret
    exact ⟨rfl, Below.refl _ _⟩
end Go.Proofs.YtlngplohnknhjaaGreatDoor.fnExprAgain
