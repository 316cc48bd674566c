/- Contracts of the model's draws: the cursor over the bytes of a draw. -/
import Derived.Test.YtkjjeccgmeiniaaChecked
import Derived.Test.YtkjjeccgmeiniaaOnly
import Derived.Handy
import Derived.Deep.QuietTactic
import Derived.BigQuiet
import Derived.OneCell
namespace Go.Proofs.Ytkjjeccgmeiniaa
/-- What a walk is told of a slice of integers that came in: it is nil; or it leads to a row of 'cap' cells, the numbers 'zs'. -/
def IsRow (k : IntKind) (w : World) (a : Option Addr) (len cap : Nat) (zs : List Int) : Prop :=
  (a = none ∧ len = 0 ∧ cap = 0 ∧ zs = []) ∨
  ∃ x, a = some x ∧ len ≤ cap ∧ cap ≤ maxLen ∧ zs.length = cap ∧ (∀ i, i < zs.length → w.cell? (x.add i) = some (.int k (zs.getD i 0))) ∧ ∀ n ∈ zs, (Lit.int k n).wf = true
end Go.Proofs.Ytkjjeccgmeiniaa
namespace Go.Proofs.Ytkjjeccgmeiniaa.Drw
open Go.ChangeShapes Go.WideShapes Go.ChangeAt Go.RowKit Go.Proofs.Ytkjjeccgmeiniaa
set_option linter.unusedVariables false
/-- block 'B' is a cursor over a slice that lies below block 'base' -/
structure Cur (base : Nat) (w : World) (B : Nat) : Prop where
  hB : base ≤ B
  bl : ∃ a len cap zs i h, w.heap[B]? = some (.cells #[.slice a len cap, .int .i64 i, .int .i64 h] 67 (0, 0)) ∧ 0 ≤ i ∧ i ≤ (len : Int) ∧ IsRow .u8 w a len cap zs ∧ ∀ x, a = some x → 0 < cap → x.block < base

theorem and255_bd (n : Int) : 0 ≤ bits .and .i64 n 255 ∧ bits .and .i64 n 255 ≤ 255 := by
  have hx : (BitVec.ofInt 64 n &&& BitVec.ofInt 64 255).toNat ≤ 255 := by
    rw [BitVec.toNat_and]
    exact Nat.and_le_right
  show 0 ≤ IntKind.i64.wrap ((BitVec.ofInt 64 n &&& BitVec.ofInt 64 255).toNat : Int) ∧ IntKind.i64.wrap ((BitVec.ofInt 64 n &&& BitVec.ofInt 64 255).toNat : Int) ≤ 255
  rw [IntKind.wrap_i64]
  omega
/-- a byte has been drawn -/
def ByteOut (base B : Nat) (w : World) (e : Ending) (w' : World) : Prop := ∃ n : Int, 0 ≤ n ∧ n ≤ 255 ∧ e = .returned (.int .i64 n) ∧ Cur base w' B ∧ Only B w w'
theorem IsRow.below {base : Nat} {w w' : World} {a : Option Addr} {len cap : Nat} {zs : List Int} (h : IsRow .u8 w a len cap zs) (ha : ∀ x, a = some x → 0 < cap → x.block < base) (hb : Below base w w') : IsRow .u8 w' a len cap zs := by
  rcases h with h | ⟨x, rfl, h1, h2, h3, h4, h5⟩
  · exact .inl h
  · refine .inr ⟨x, rfl, h1, h2, h3, fun i hi => ?_, h5⟩
    rw [hb.cell (p := x.add i) (by simp only [Addr.add]; split <;> exact ha x rfl (by omega))]
    exact h4 i hi
theorem Cur.mk' {base B : Nat} {w w' : World} {a : Option Addr} {len cap : Nat} {zs : List Int} {i h : Int} (hB : base ≤ B) (hr : IsRow .u8 w a len cap zs) (ha : ∀ x, a = some x → 0 < cap → x.block < base) (hb : Below base w w') (h0 : 0 ≤ i) (h1 : i ≤ (len : Int))
    (hc : w'.heap[B]? = some (.cells #[.slice a len cap, .int .i64 i, .int .i64 h] 67 (0, 0))) : Cur base w' B :=
  ⟨hB, a, len, cap, zs, i, h, hc, h0, h1, IsRow.below hr ha hb, ha⟩
set_option maxHeartbeats 400000 in
theorem byte_end (base B : Nat) (a : Option Addr) (len cap : Nat) (zs : List Int) (i h : Int) (w : World) (hB : base ≤ B) (hr : IsRow .u8 w a len cap zs) (ha : ∀ x, a = some x → 0 < cap → x.block < base) (h0 : 0 ≤ i) (h1 : i ≤ (len : Int))
    (hb : w.heap[B]? = some (.cells #[.slice a len cap, .int .i64 i, .int .i64 h] 67 (0, 0))) (hi : (len : Int) ≤ i) :
    Calls Try.prog 46 #[.pointer (some ⟨B, 0, none⟩)] w (ByteOut base B w) := by
  have c0 : w.cell? ⟨B, 0, none⟩ = some (.slice a len cap) := by simp [World.cell?, hb]
  have c1 : w.cell? ⟨B, 1, none⟩ = some (.int .i64 i) := by simp [World.cell?, hb]
  have c2 : w.cell? ⟨B, 2, none⟩ = some (.int .i64 h) := by simp [World.cell?, hb]
  have f0 : w.frozen? ⟨B, 1, none⟩ = false := by simp [World.frozen?, hb]
  have f1 : w.frozen? ⟨B, 2, none⟩ = false := by simp [World.frozen?, hb]
  have Hb := Lib.hid hb
  have Hr := Lib.hid hr
  have Ha := Lib.hid ha
  clear hb hr ha
  go_enter Try.func46, Try.ntmps46
  go_wp2
  go_quiet (fail)
  go_wp2
  go_quiet (fail)
  go_wp2
  go_ret
  refine ⟨_, (and255_bd _).1, (and255_bd _).2, rfl, Cur.mk' hB Hr.out Ha.out (below_drewN (below_drewN (Below.setCell (Below.refl _ _) hB _) _) _) h0 h1 (block_setCell Hb.out _), ((((Only.refl _ _).setCell _ _).drewN _).drewN _)⟩
set_option maxHeartbeats 800000 in
theorem byte_mid (base B b off : Nat) (len cap k : Nat) (zs : List Int) (h v : Int) (w : World) (hB : base ≤ B) (hr : IsRow .u8 w (some ⟨b, off, none⟩) len cap zs) (ha : b < base) (hk : k < len) (hlen : len ≤ 9223372036854775807)
    (hb : w.heap[B]? = some (.cells #[.slice (some ⟨b, off, none⟩) len cap, .int .i64 (k : Int), .int .i64 h] 67 (0, 0))) (hc : w.cell? ⟨b, off + k, none⟩ = some (.int .u8 v)) :
    Calls Try.prog 46 #[.pointer (some ⟨B, 0, none⟩)] w (ByteOut base B w) := by
  have c0 : w.cell? ⟨B, 0, none⟩ = some (.slice (some ⟨b, off, none⟩) len cap) := by simp [World.cell?, hb]
  have c1 : w.cell? ⟨B, 1, none⟩ = some (.int .i64 (k : Int)) := by simp [World.cell?, hb]
  have c2 : w.cell? ⟨B, 2, none⟩ = some (.int .i64 h) := by simp [World.cell?, hb]
  have f0 : w.frozen? ⟨B, 1, none⟩ = false := by simp [World.frozen?, hb]
  have f1 : w.frozen? ⟨B, 2, none⟩ = false := by simp [World.frozen?, hb]
  have hne : ¬ b = B := by omega
  have hne2 : ¬ B = b := by omega
  have hkl : (k : Int) < (len : Int) := by omega
  have Hb := Lib.hid hb
  have Hr := Lib.hid hr
  clear hb hr
  go_enter Try.func46, Try.ntmps46
  go_wp2
  go_quiet (fail)
  go_wp2
  go_quiet (fail)
  go_wp2
  go_quiet (fail)
  go_wp2
  go_ret
  refine ⟨_, (and255_bd _).1, (and255_bd _).2, rfl, Cur.mk' (i := (k : Int) + 1) hB Hr.out (fun x hx _ => by cases hx; exact ha) ?_ (by omega) (by omega) (block_setCell (block_setCell Hb.out _) _), ?_⟩
  · (repeat (first | exact Below.refl _ _ | refine below_drewN ?_ _ | refine Below.setCell ?_ hB _))
  · (repeat (first | exact Only.refl _ _ | refine Only.drewN ?_ _ | refine Only.setCell ?_ _ _))
theorem byte_any (base B : Nat) (w : World) (hc : Cur base w B) : Calls Try.prog 46 #[.pointer (some ⟨B, 0, none⟩)] w (ByteOut base B w) := by
  obtain ⟨hB, a, len, cap, zs, i, h, hb, h0, h1, hr, ha⟩ := hc
  by_cases hi : (len : Int) ≤ i
  · exact byte_end base B a len cap zs i h w hB hr ha h0 h1 hb hi
  · obtain ⟨k, rfl⟩ := Int.eq_ofNat_of_zero_le h0
    have hr' := hr
    rcases hr with ⟨rfl, rfl, rfl, rfl⟩ | ⟨x, rfl, hl, hm, hz, hcell, hwz⟩
    · omega
    · have hs := World.cell?_spot (hcell 0 (by omega))
      obtain ⟨b, off, spot⟩ := x
      have hspot : spot = none := by simpa [Addr.add] using hs
      subst hspot
      have hck : w.cell? ⟨b, off + k, none⟩ = some (.int .u8 (zs.getD k 0)) := by
        have := hcell k (by omega)
        by_cases hk0 : k = 0
        · subst hk0; simpa [Addr.add] using this
        · simpa [Addr.add, hk0] using this
      unfold maxLen at hm
      exact byte_mid base B b off len cap k zs h (zs.getD k 0) w hB hr' (ha _ rfl (by omega)) (by omega) (by omega) hb hck
/-- the cursor stays while other blocks turn -/
theorem Cur.lt {base B : Nat} {w : World} (hc : Cur base w B) : B < w.heap.size := by
  obtain ⟨hB, a, len, cap, zs, i, h, hb, _⟩ := hc
  exact lt_of_block hb
theorem Cur.keep {base B : Nat} {w w' : World} (hc : Cur base w B) (hb' : Below w.heap.size w w') : Cur base w' B := by
  have hlt := hc.lt
  obtain ⟨hB, a, len, cap, zs, i, h, hb, h0, h1, hr, ha⟩ := hc
  exact Cur.mk' hB hr ha (hb'.mono (by omega)) h0 h1 (by rw [hb'.block B hlt]; exact hb)
theorem Cur.alloc {base B : Nat} {w : World} (hc : Cur base w B) (o : Obj) : Cur base (w.alloc o) B := hc.keep ((Below.refl _ _).alloc (Nat.le_refl _) _)
theorem Cur.drewN {base B : Nat} {w : World} (hc : Cur base w B) (n : Nat) : Cur base (w.drewN n) B := hc.keep (below_drewN (Below.refl _ _) n)
/-- a number below 'n' has been drawn -/
def BelowOut (base B : Nat) (n : Int) (w : World) (e : Ending) (w' : World) : Prop := ∃ r : Int, 0 ≤ r ∧ (0 < n → r < n) ∧ e = .returned (.int .i64 r) ∧ Cur base w' B ∧ Only B w w'
set_option maxHeartbeats 400000 in
theorem below_any (base B : Nat) (n : Int) (w : World) (hc : Cur base w B) (hn : n ≤ 9223372036854775807) :
    Calls Try.prog 32 #[.pointer (some ⟨B, 0, none⟩), .int .i64 n] w (BelowOut base B n w) := by
  by_cases h0 : n ≤ 0
  · have Hc := Lib.hid hc
    clear hc
    go_enter Try.func32, Try.ntmps32
    go_wp2_with fail
    go_ret
    exact ⟨0, by omega, by omega, rfl, Hc.out, Only.refl _ _⟩
  · by_cases h1 : n ≤ 256
    · have hz : ¬ n = 0 := by omega
      go_enter Try.func32, Try.ntmps32
      go_wp2_with fail
      refine (byte_any base B _ hc).mono ?_
      rintro e w1 ⟨r, r0, r1, rfl, hc1, ho1⟩
      have Hc1 := Lib.hid hc1
      have Ho1 := Lib.hid ho1
      clear hc1 ho1 hc
      go_wp2_with fail
      go_ret
      exact ⟨_, Int.emod_nonneg _ hz, fun h => Int.emod_lt_of_pos _ h, rfl, Hc1.out, Ho1.out⟩
    · have hz : ¬ n = 0 := by omega
      go_enter Try.func32, Try.ntmps32
      go_wp2_with fail
      refine (byte_any base B _ hc).mono ?_
      rintro e w1 ⟨a, a0, a1, rfl, hc1, ho1⟩
      have Ho1 := Lib.hid ho1
      clear hc ho1
      go_wp2_with fail
      refine (byte_any base B _ hc1).mono ?_
      rintro e w2 ⟨b, b0, b1, rfl, hc2, ho2⟩
      have Ho2 := Lib.hid ho2
      clear hc1 ho2
      go_wp2_with fail
      refine (byte_any base B _ hc2).mono ?_
      rintro e w3 ⟨c, c0, c1, rfl, hc3, ho3⟩
      have Ho3 := Lib.hid ho3
      clear hc2 ho3
      go_wp2_with fail
      refine (byte_any base B _ hc3).mono ?_
      rintro e w4 ⟨d, d0, d1, rfl, hc4, ho4⟩
      have Hc4 := Lib.hid hc4
      have Ho4 := Lib.hid ho4
      clear hc3 hc4 ho4
      go_wp2_with fail
      go_ret
      exact ⟨_, Int.emod_nonneg _ hz, fun h => Int.emod_lt_of_pos _ h, rfl, Hc4.out, ((Ho1.out.trans Ho2.out).trans Ho3.out).trans Ho4.out⟩
/-- a cursor has been made -/
def NewOut (w : World) (e : Ending) (w' : World) : Prop := e = .returned (.pointer (some ⟨w.heap.size, 0, none⟩)) ∧ Cur w.heap.size w' w.heap.size ∧ Below w.heap.size w w'
theorem new_zero (a : Option Addr) (cap : Nat) (zs : List Int) (w : World) (hr : IsRow .u8 w a 0 cap zs) (ha : ∀ x, a = some x → 0 < cap → x.block < w.heap.size) :
    Calls Try.prog 24 #[.slice a 0 cap] w (NewOut w) := by
  have Hr := Lib.hid hr
  have Ha := Lib.hid ha
  clear hr ha
  go_enter Try.func24, Try.ntmps24
  go_wp2
  go_rounds 1
  go_ret
  have hb := (Below.refl w.heap.size w).alloc (Nat.le_refl _) (.cells #[.slice a 0 cap, .int .i64 0, .int .i64 33203] 67)
  exact ⟨rfl, Cur.mk' (Nat.le_refl _) Hr.out Ha.out hb (by omega) (by omega) (block_new _ _), hb⟩
set_option maxHeartbeats 400000 in
theorem new_pos (b off len cap : Nat) (zs : List Int) (w : World) (hr : IsRow .u8 w (some ⟨b, off, none⟩) len cap zs) (ha : b < w.heap.size) (hl : len ≤ 9223372036854775807)
    (hcell : ∀ k, k < len → w.cell? ⟨b, off + k, none⟩ = some (.int .u8 (zs.getD k 0))) :
    Calls Try.prog 24 #[.slice (some ⟨b, off, none⟩) len cap] w (NewOut w) := by
  have Hr := Lib.hid hr
  have Hc := Lib.hid hcell
  clear hr hcell
  go_enter Try.func24, Try.ntmps24
  go_wp2
  go_loop [3, 4] (fun hv iv => ∃ k : Nat, ∃ h : Int, k ≤ len ∧ iv = .int .i64 k ∧ hv = .int .i64 h) (fun _ iv => len - (intOf iv).toNat)
  case atStart => exact ⟨0, _, Nat.zero_le _, rfl, rfl⟩
  case round =>
    obtain ⟨k, h, hk, rfl, rfl⟩ := hrel
    by_cases hlt : (k : Int) < (len : Int)
    · by_cases h4 : (k : Int) < 4000
      · have hx := Hc.out k (by omega)
        have hk0 : k < len := by omega
        go_wp2
        go_round
        case rel => exact ⟨k + 1, _, by omega, by go_num, rfl⟩
        case measure => simp [intOf]; omega
      · go_wp2
        go_ret
        have hb := (Below.refl w.heap.size w).alloc (Nat.le_refl _) (.cells #[.slice (some ⟨b, off, none⟩) len cap, .int .i64 0, .int .i64 h] 67)
        exact ⟨rfl, Cur.mk' (Nat.le_refl _) Hr.out (fun x hx _ => by cases hx; exact ha) hb (by omega) (by omega) (block_new _ _), hb⟩
    · go_wp2
      go_ret
      have hb := (Below.refl w.heap.size w).alloc (Nat.le_refl _) (.cells #[.slice (some ⟨b, off, none⟩) len cap, .int .i64 0, .int .i64 h] 67)
      exact ⟨rfl, Cur.mk' (Nat.le_refl _) Hr.out (fun x hx _ => by cases hx; exact ha) hb (by omega) (by omega) (block_new _ _), hb⟩
theorem new_any (a : Option Addr) (len cap : Nat) (zs : List Int) (w : World) (hr : IsRow .u8 w a len cap zs) :
    Calls Try.prog 24 #[.slice a len cap] w (NewOut w) := by
  have hr' := hr
  have ha : ∀ x, a = some x → 0 < cap → x.block < w.heap.size := by
    rintro x rfl hc
    rcases hr with ⟨e, _⟩ | ⟨y, e, h1, h2, h3, h4, h5⟩
    · cases e
    · cases e
      have h6 := h4 0 (by omega)
      have hlt := lt_of_cell h6
      simpa [Addr.add] using hlt
  by_cases h0 : len = 0
  · subst h0; exact new_zero a cap zs w hr' ha
  · rcases hr with ⟨rfl, rfl, rfl, rfl⟩ | ⟨x, rfl, h1, h2, h3, hcell, h5⟩
    · omega
    · have hs := World.cell?_spot (hcell 0 (by omega))
      obtain ⟨b, off, spot⟩ := x
      have hspot : spot = none := by simpa [Addr.add] using hs
      subst hspot
      unfold maxLen at h2
      refine new_pos b off len cap zs w hr' (ha _ rfl (by omega)) (by omega) (fun k hk => ?_)
      have := hcell k (by omega)
      by_cases hk0 : k = 0
      · subst hk0; simpa [Addr.add] using this
      · simpa [Addr.add, hk0] using this
end Go.Proofs.Ytkjjeccgmeiniaa.Drw
