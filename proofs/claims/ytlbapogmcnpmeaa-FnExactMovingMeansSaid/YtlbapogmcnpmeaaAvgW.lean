/- The program's moving means: the closure of MovingMeans, and MovingMeans. -/
import Derived.Test.YtlbapogmcnpmeaaAvgJ
import Derived.Test.YtlbapogmcnpmeaaAvgV
namespace Go.Proofs.Ytlbapogmcnpmeaa.Avg
open Go.ChangeShapes Go.WideShapes Go.ChangeAt Go.RowKit Go.Deep Go.Proofs.Ytlbapogmcnpmeaa Go.Proofs.Ytlbapogmcnpmeaa.Flt Go.Proofs.Ytlbapogmcnpmeaa.Mth Go.Proofs.Ytlbapogmcnpmeaa.Sgl
open Ieee (single double)
set_option linter.unusedVariables false
set_option linter.unusedSimpArgs false
theorem makeRoom (len : Nat) (hl : len ≤ 1048576) (w : World) :
    (Instr.makeSlice 22 (.int .i64 0) (.int .i64 (len : Int))).run Try.prog w = .ok (.slice (some ⟨w.heap.size, 0, none⟩) 0 len) (w.alloc (.cells (madeCells #[.float .f32 0] len) 30)) := by
  obtain ⟨i, hi, hz, hs, hb⟩ := info_partsF
  have h := run_make (P := Try.prog) w 22 30 i _ Try.underlying22 hi hz .i64 .i64 0 len (by omega) (by omega) (by rw [hb]; omega) (by omega)
  rw [hs] at h
  rw [show (Value.float .f32 0).cells = #[.float .f32 0] from rfl] at h
  simpa [Nat.mul_one] using h
theorem roomF (len : Nat) (hl : len ≤ 1048576) (w : World) (Z : Nat → Nat) : OwnF w.heap.size (w.alloc (.cells (madeCells #[.float .f32 0] len) 30)) (.slice (some ⟨w.heap.size, 0, none⟩) 0 len) 0 Z :=
  World.ownsRow_made w _ len (Nat.le_refl _) (by unfold maxLen; omega) (by rw [size_madeCells, Nat.mul_one])
/-- what the closure of MovingMeans answers -/
def MovOut (len : Nat) (X : Nat → Nat) (wd : Int) (w : World) (e : Ending) (w' : World) : Prop :=
  Below w.heap.size w w' ∧ ((∃ v, e = .returned v ∧ mvB len X wd = true ∧ OwnF w.heap.size w' v (len + 1 - wd.toNat) (mvX X wd.toNat)) ∨ (e = .panicked left ∧ mvB len X wd = false))
theorem mov_low (p : Addr) (a : Option Addr) (len cap : Nat) (X : Nat → Nat) (wd : Int) (w : World) (hp : w.cell? p = some (.int .i64 wd)) (h : wd < 1 ∨ (len : Int) < wd) :
    Calls Try.prog 54 #[.slice a len cap, .pointer (some p)] w (MovOut len X wd w) := by
  have hno : mvB len X wd = false := by unfold mvB; rw [decide_eq_false (by omega), Bool.and_false]
  have Hno := Lib.hid hno
  have Hst := Lib.hid (Below.refl w.heap.size w)
  clear hno
  by_cases h1 : wd < 1
  · have h1' : decide ((1 : Int) ≤ wd) = false := decide_eq_false (by omega)
    have h1'' : ¬ (1 : Int) ≤ wd := by omega
    clear h
    go_enter Try.func54, Try.ntmps54
    go_wp2_with fail
    refine (leave_no _).mono ?_
    rintro e w9 ⟨rfl, hw9⟩
    subst w9
    go_wp2_with fail
    exact ⟨rfl, Hst.out, .inr ⟨rfl, Hno.out⟩⟩
  · have h1' : (1 : Int) ≤ wd := by omega
    have h2 : decide (wd ≤ (len : Int)) = false := decide_eq_false (by omega)
    clear h
    go_enter Try.func54, Try.ntmps54
    go_wp2_with fail
    try rw [h2]
    refine (leave_no _).mono ?_
    rintro e w9 ⟨rfl, hw9⟩
    subst w9
    go_wp2_with fail
    exact ⟨rfl, Hst.out, .inr ⟨rfl, Hno.out⟩⟩
set_option maxHeartbeats 1600000 in
theorem mov_yes (p : Addr) (a : Option Addr) (len cap : Nat) (X : Nat → Nat) (wd : Nat) (w : World) (hlc : len ≤ cap) (hq : goodB len X = true) (hp : w.cell? p = some (.int .i64 (wd : Int))) (h1 : 1 ≤ wd) (h2 : wd ≤ len) (h : LstF w a len X) :
    Calls Try.prog 54 #[.slice a len cap, .pointer (some p)] w fun e w' => Below w.heap.size w w' ∧ ∃ v, e = .returned v ∧ OwnF w.heap.size w' v (len + 1 - wd) (mvX X wd) := by
  have h64 := (good_iff.1 hq).1
  have hpb := lt_of_cell hp
  have hmk := makeRoom len (by omega)
  have Hst := Lib.hid (And.intro (roomF len (by omega) w (mvX X wd)) ((Below.refl w.heap.size w).alloc (Nat.le_refl _) (.cells (madeCells #[.float .f32 0] len) 30)))
  obtain ⟨b, off, ha, hlt, hc⟩ := LstF.cells h (by omega)
  subst ha
  have H0 := Lib.hid h
  have Hq := Lib.hid hq
  have Hp := Lib.hid (And.intro hp hpb)
  have g1 : (1 : Int) ≤ (wd : Int) := by omega
  have g2 : (wd : Int) ≤ (len : Int) := by omega
  clear h hc hq hpb hlt
  go_enter Try.func54, Try.ntmps54
  go_wp2_with fail
  refine (leave_yes _).mono ?_
  rintro e w9 ⟨rfl, hw9⟩
  subst w9
  clear hp
  go_wp2_with fail
  go_loopw [4, 5] (fun v iv wr => ∃ (r g cp : Nat), v = .slice (some ⟨g, 0, none⟩) r cp ∧ iv = .int .i64 (r : Int) ∧ r ≤ len + 1 - wd ∧ OwnF w.heap.size wr (.slice (some ⟨g, 0, none⟩) r cp) r (mvX X wd) ∧ Below w.heap.size w wr)
    (fun _ iv _ => len + 1 - wd - (intOf iv).toNat)
  case atStart => exact ⟨0, w.heap.size, len, rfl, rfl, Nat.zero_le _, Hst.out.1, Hst.out.2⟩
  case round =>
    obtain ⟨r, g, cp, rfl, rfl, hr, hown, hbel⟩ := hrel
    have hp' : wr.cell? p = some (.int .i64 (wd : Int)) := by rw [hbel.cell Hp.out.2]; exact Hp.out.1
    have hw0 : IntKind.i64.wrap ((r : Int) + (wd : Int)) = ((r + wd : Nat) : Int) := by rw [IntKind.wrap_i64]; omega
    by_cases hrl : r + wd ≤ len
    · have hrl' : (r : Int) + (wd : Int) ≤ (len : Int) := by omega
      have hL : LstF wr (some ⟨b, off, none⟩) len X := H0.out.keep hbel
      have hL2 := LstF.sub hL (i := r) (wd := wd) hrl h1
      have hsl := fun wx => run_mid b off len cap r (r + wd) wx (by omega) (by omega)
      rw [Nat.add_sub_cancel_left] at hsl
      have hmb := sub_mean Hq.out h1 hrl
      have hsm := meanOf_any (some ⟨b, off + r, none⟩) wd (cap - r) (fun j => X (r + j)) wr hmb hL2
      have Hs := Lib.hid hsm
      have Hr := Lib.hid (And.intro hown hbel)
      have hsz := hbel.size
      obtain ⟨mm, hmm⟩ : ∃ mm, meanN wd (fun j => X (r + j)) = mm := ⟨_, rfl⟩
      have Hmm := Lib.hid (show mvX X wd r = mm from hmm)
      rw [hmm] at Hs
      clear hown hbel hL hL2 hsm hmb hmm
      go_wp2_with fail
      refine Hs.out.mono ?_
      rintro e w9 ⟨rfl, hw9⟩
      subst w9
      have H5 := Lib.hid (show OwnF w.heap.size wr (.slice (some ⟨g, 0, none⟩) r cp) r (mvX X wd) ∧ Below w.heap.size w wr from ⟨Hr.out.1, Hr.out.2⟩)
      have hba := H5.out.2.alloc H5.out.2.size (.cells #[.float .f32 mm] 30)
      obtain ⟨gC, cC, wC, krunC, hownC, hbelC⟩ := appF (base := w.heap.size) (w := wr.alloc (.cells #[.float .f32 mm] 30)) (n := r) (cap := cp) (m := 1) (c := 1) (g := g) (ad := ⟨wr.heap.size, 0, none⟩) (Y := fun _ => mm) (World.ownsRow.alloc H5.out.1 _) (fun j hj => by
        have hn : (wr.alloc (.cells #[.float .f32 mm] 30)).heap[wr.heap.size]? = some (.cells #[.float .f32 mm] 30 (0, 0)) := block_new wr _
        rw [addr_add, Nat.zero_add, cell_of_row _ wr.heap.size j _ _ _ hn]
        obtain rfl : j = 0 := by omega
        rfl) (by omega) hba.size
      have H9 := Lib.hid (show OwnF w.heap.size wC (.slice (some ⟨gC, 0, none⟩) (r + 1) cC) (r + 1) (mvX X wd) ∧ Below w.heap.size w wC from ⟨ownF_congr hownC (fun j hj => by
        by_cases e : j < r
        · rw [spl_eq, if_neg (by omega)]
        · obtain rfl : j = r := by omega
          rw [spl_eq, if_pos (by omega), Hmm.out]), hba.trans hbelC⟩)
      clear hba hownC hbelC
      go_wp2_with (at_builtin; go_loud (refine wpList_append_run rfl (.tmp 26) (.tmp 34) _ rfl rfl rfl krunC ?_))
      go_roundw
      case rel => exact ⟨r + 1, gC, cC, rfl, by go_num, by omega, H9.out.1, H9.out.2⟩
      case measure => simp [intOf]; omega
    · obtain rfl : r = len + 1 - wd := by omega
      have hrl' : ¬ ((len + 1 - wd : Nat) : Int) + (wd : Int) ≤ (len : Int) := by omega
      have Hr := Lib.hid (And.intro hown hbel)
      clear hown hbel
      go_wp2_with fail
      go_ret
      exact ⟨Hr.out.2, _, rfl, Hr.out.1⟩
theorem mov_any (p : Addr) (a : Option Addr) (len cap : Nat) (X : Nat → Nat) (wd : Int) (w : World) (hlc : len ≤ cap) (hq : goodB len X = true) (hp : w.cell? p = some (.int .i64 wd)) (h : LstF w a len X) :
    Calls Try.prog 54 #[.slice a len cap, .pointer (some p)] w (MovOut len X wd w) := by
  by_cases h1 : wd < 1 ∨ (len : Int) < wd
  · exact mov_low p a len cap X wd w hp h1
  · obtain ⟨k, rfl⟩ : ∃ k : Nat, wd = k := ⟨wd.toNat, by omega⟩
    refine (mov_yes p a len cap X k w hlc hq hp (by omega) (by omega) h).mono ?_
    rintro e w' ⟨hb, v, rfl, ho⟩
    refine ⟨hb, .inl ⟨v, rfl, ?_, ?_⟩⟩
    · unfold mvB; rw [hq, decide_eq_true (by omega)]; rfl
    · rw [Int.toNat_natCast]; exact ho
theorem ent_mov : ∀ args w, (callFunc 54 args).run Try.prog w = .ok (.enter 54 args) w := ent _ _ _ Try.func54 (by kernel_rfl) rfl
/-- how many moving means there are -/
def mvN (n : Nat) (X : Nat → Nat) (wd : Int) : Nat := if mvB n X wd = true then n + 1 - wd.toNat else 0
theorem ownF_nil (base : Nat) (w : World) (Z : Nat → Nat) : OwnF base w (.slice none 0 0) 0 Z := ⟨rfl, .inl ⟨rfl, rfl⟩⟩
theorem ownF_cell {base : Nat} {w : World} {v : Value} {n : Nat} {Z : Nat → Nat} (h : OwnF base w v n Z) {b : Nat} (hb : b < base) (o : Nat) (u : Value) : OwnF base (w.setCell ⟨b, o, none⟩ u) v n Z :=
  ((OwnU.of h).only (Nat.le_refl _) (.inl hb) ((Only.refl b w).setCell o u)).1
theorem reck_mov (p : Addr) (a : Option Addr) (len cap : Nat) (X : Nat → Nat) (wd : Int) (w : World) (hl : len ≤ 1048576) (hlc : len ≤ cap) (hp : w.cell? p = some (.int .i64 wd)) (h : LstF w a len X) :
    Calls Try.prog 53 #[.slice a len cap, .int .i64 0, .func (.func 54) #[] #[.pointer (some p)]] w fun e w' => ∃ v, e = .returned (.tuple #[v, .bool (mvB len X wd)]) ∧ OwnF w.heap.size w' v (mvN len X wd) (mvX X wd.toNat) ∧ Below w.heap.size w w' := by
  by_cases h64 : 64 < len
  · have hk : mvB len X wd = false := by unfold mvB; rw [← good_out h64, Bool.false_and]
    unfold mvN
    rw [hk]
    refine (reck_few_L a len cap 0 _ w hl (by omega) (.inr h64)).mono ?_
    rintro e w' ⟨rfl, hb⟩
    exact ⟨_, rfl, ownF_nil _ _ _, hb⟩
  · have h64 : len ≤ 64 := by omega
    cases hq : goodB len X
    · have hk : mvB len X wd = false := by unfold mvB; rw [hq, Bool.false_and]
      unfold mvN
      rw [hk]
      refine (reck_bad_L a len cap 0 _ X w (Nat.zero_le _) h64 h hq).mono ?_
      rintro e w' ⟨rfl, hb⟩
      exact ⟨_, rfl, ownF_nil _ _ _, hb⟩
    · refine (reck_go_L (fun v wX => ∃ base, w.heap.size < base ∧ mvB len X wd = true ∧ OwnF base wX v (len + 1 - wd.toNat) (mvX X wd.toNat)) (mvB len X wd = false) _ #[.pointer (some p)] ent_mov a len cap 0 X w (Nat.zero_le _) h64 h hq (fun w1 hL hb1 hs1 => ?_)).mono ?_
      · refine (mov_any p a len cap X wd w1 hlc hq (by rw [hb1.cell (lt_of_cell hp)]; exact hp) hL).mono ?_
        rintro e wX ⟨hb, hr⟩
        refine ⟨hb, ?_⟩
        rcases hr with ⟨v, rfl, hm, ho⟩ | ⟨rfl, hm⟩
        · exact .inl ⟨v, rfl, _, hs1, hm, ho⟩
        · exact .inr ⟨rfl, hm⟩
      · rintro e w' ⟨hb, hr⟩
        rcases hr with ⟨v, wX, rfl, ⟨base, hbs, hm, ho⟩, _, _, rfl⟩ | ⟨rfl, hm⟩
        · refine ⟨v, by rw [hm], ?_, hb⟩
          unfold mvN
          rw [if_pos hm]
          exact own_mono (ownF_cell (ownF_cell ho hbs 0 _) hbs 0 _) (by omega)
        · refine ⟨_, by rw [hm], ?_, hb⟩
          unfold mvN
          rw [hm]
          exact ownF_nil _ _ _
set_option maxHeartbeats 400000 in
theorem impl_moving (a : Option Addr) (len cap : Nat) (X : Nat → Nat) (wd : Int) (w : World) (hl : len ≤ 1048576) (hlc : len ≤ cap) (h : LstF w a len X) :
    Calls Try.prog 30 #[.slice a len cap, .int .i64 wd] w fun e w' => ∃ v, e = .returned (.tuple #[v, .bool (mvB len X wd)]) ∧ OwnF w.heap.size w' v (mvN len X wd) (mvX X wd.toNat) ∧ Below w.heap.size w w' := by
  have hmf : ∀ (fn : Fn) (first cap : Array Value) (w : World), (Instr.makeFunc fn first cap).run Try.prog w = .ok (.func fn first cap) w := fun _ _ _ _ => rfl
  have hb := (Below.refl w.heap.size w).alloc (Nat.le_refl _) (.cells #[.int .i64 wd] 3)
  have c0 : (w.alloc (.cells #[.int .i64 wd] 3)).cell? ⟨w.heap.size, 0, none⟩ = some (.int .i64 wd) := by simp [go_sem]
  have HR := Lib.hid (reck_mov ⟨w.heap.size, 0, none⟩ a len cap X wd (w.alloc (.cells #[.int .i64 wd] 3)) hl hlc c0 (h.keep hb))
  have hs0 : w.heap.size ≤ (w.alloc (.cells #[.int .i64 wd] 3)).heap.size := hb.size
  have Hb := Lib.hid (And.intro hb hs0)
  clear hb c0 h hs0
  go_enter Try.func30, Try.ntmps30
  go_wp2_with fail
  refine HR.out.mono ?_
  rintro e w' ⟨v, rfl, ho, hb⟩
  have HF := Lib.hid (And.intro (own_mono ho Hb.out.2) (Hb.out.1.trans (hb.mono Hb.out.2)))
  clear ho hb
  go_wp2_with fail
  go_ret2
  exact ⟨v, rfl, HF.out.1, HF.out.2⟩
theorem spec_moving (a : Option Addr) (len cap : Nat) (X : Nat → Nat) (wd : Int) (w : World) (hl : len ≤ 1048576) (hlc : len ≤ cap) (h : LstF w a len X) :
    Calls Try.prog 29 #[.slice a len cap, .int .i64 wd] w fun e w' => ∃ v, e = .returned (.tuple #[v, .bool (mvB len X wd)]) ∧ OwnF w.heap.size w' v (mvN len X wd) (mvX X wd.toNat) ∧ Below w.heap.size w w' := by
  cases hb : mvB len X wd
  · refine (spec_moving_no a len cap X wd w hl h hb).mono ?_
    rintro e w' ⟨rfl, ho, hbl⟩
    unfold mvN
    rw [hb]
    exact ⟨_, rfl, ownF_congr ho (fun j hj => absurd hj (Nat.not_lt_zero _)), hbl⟩
  · have hb' := hb
    unfold mvB at hb'
    rw [Bool.and_eq_true, decide_eq_true_iff] at hb'
    obtain ⟨k, rfl⟩ : ∃ k : Nat, wd = k := ⟨wd.toNat, by omega⟩
    obtain ⟨b, off, ha, _, _⟩ := LstF.cells h (by omega)
    subst ha
    refine (spec_moving_yes b off len cap X k w hlc h hb).mono ?_
    rintro e w' ⟨g, cp, rfl, ho, hbl⟩
    unfold mvN
    rw [hb, if_pos rfl, Int.toNat_natCast]
    exact ⟨_, rfl, ho, hbl⟩
theorem mvN_le (n : Nat) (X : Nat → Nat) (wd : Int) : mvN n X wd ≤ 64 := by
  unfold mvN
  split
  · rename_i h
    unfold mvB at h
    rw [Bool.and_eq_true, decide_eq_true_iff] at h
    have := (good_iff.1 h.1).1
    omega
  · omega
theorem mvX_wf (n : Nat) (X : Nat → Nat) (wd : Nat) : WfF n (mvX X wd) := fun i _ => meanN_wf _ _
end Go.Proofs.Ytlbapogmcnpmeaa.Avg
