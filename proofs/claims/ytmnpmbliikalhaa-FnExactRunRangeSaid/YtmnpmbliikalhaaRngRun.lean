/- RunRange in the model. -/
import Derived.Test.YtmnpmbliikalhaaRngSettle
import Derived.Test.YtmnpmbliikalhaaRngMark
import Derived.Test.YtmnpmbliikalhaaIntL
import Derived.Deep.AppendLies
namespace Go.Proofs.Ytmnpmbliikalhaa.Rng
open Go.ChangeShapes Go.WideShapes Go.ChangeAt Go.RowKit Go.Deep Go.Proofs.Ytmnpmbliikalhaa Go.Proofs.Ytmnpmbliikalhaa.Flt Go.Proofs.Ytmnpmbliikalhaa.Mth Go.Proofs.Ytmnpmbliikalhaa.Sgl Go.Proofs.Ytmnpmbliikalhaa.Ils
set_option linter.unusedVariables false
/-- the range at which the readings have settled after 'i' of them -/
def runN (len : Nat) (X Y : Nat → Nat) (k : Nat) : Nat → Nat
  | 0 => k
  | i + 1 => settleN len X (Y i) (runN len X Y k i)
theorem runN_lt {len : Nat} {X Y : Nat → Nat} {k : Nat} (hk : k < len) : ∀ i, runN len X Y k i < len
  | 0 => hk
  | i + 1 => settle_lt _ _ (runN_lt hk i)
def runL (len : Nat) (X Y : Nat → Nat) (k : Nat) (n : Nat) : List Int := (List.range n).map fun i => ((runN len X Y k (i + 1) : Nat) : Int)
theorem runL_len (len : Nat) (X Y : Nat → Nat) (k n : Nat) : (runL len X Y k n).length = n := by simp [runL]
theorem runL_snoc (len : Nat) (X Y : Nat → Nat) (k n : Nat) : runL len X Y k (n + 1) = runL len X Y k n ++ [((runN len X Y k (n + 1) : Nat) : Int)] := by
  simp [runL, List.range_succ]
/-- all of RunRange's answer -/
def runV (len : Nat) (X : Nat → Nat) (k : Int) (Y : Nat → Nat) (n : Nat) : List Int := if hasB len X k = true ∧ n ≤ 100 then runL len X Y k.toNat n else []
theorem runV_len {len : Nat} {X : Nat → Nat} {k : Int} {Y : Nat → Nat} {n : Nat} : (runV len X k Y n).length ≤ 100 := by
  unfold runV
  split
  · rename_i h; rw [runL_len]; exact h.2
  · exact Nat.zero_le _
theorem runV_no {len : Nat} {X : Nat → Nat} {k : Int} {Y : Nat → Nat} {n : Nat} (h : ¬ (hasB len X k = true ∧ n ≤ 100)) : runV len X k Y n = [] := by unfold runV; rw [if_neg h]
theorem runV_yes {len : Nat} {X : Nat → Nat} {k : Nat} {Y : Nat → Nat} {n : Nat} (h : hasB len X (k : Int) = true) (hn : n ≤ 100) : runV len X (k : Int) Y n = runL len X Y k n := by unfold runV; rw [if_pos ⟨h, hn⟩]; rfl
theorem infoI : (Try.prog.info? 3).map (fun i => (i.zero, i.size, i.bytes)) = some (some (.int .i64 0), 1, 8) := by kernel_rfl
theorem one_cellI (wr : World) (x : Int) : ∀ j u, [Value.int .i64 x][j]? = some u → (wr.alloc (.cells #[.int .i64 x] 3)).cell? ((⟨wr.heap.size, 0, none⟩ : Addr).add j) = some u := by
  intro j u hj
  have e : (⟨wr.heap.size, 0, none⟩ : Addr).add j = ⟨wr.heap.size, j, none⟩ := by unfold Addr.add; split <;> simp_all
  rw [e, cell_of_row _ wr.heap.size j #[.int .i64 x] 3 (0, 0) (block_new wr _)]
  simpa using hj
theorem one_oneI (x : Int) : ∀ u ∈ [Value.int .i64 x], u.oneCell' = true := by
  intro u hu
  simp at hu
  subst hu
  rfl
theorem litI (w : World) : (w.alloc (.cells #[] 3)).ownsRow w.heap.size 3 1 (.slice (some ⟨w.heap.size, 0, none⟩) 0 0) 0 [] := World.ownsRow_lit (base := w.heap.size) (e := 3) (size := 1) w #[] 0 (Nat.le_refl _) (Nat.zero_le _) rfl
theorem specRun_no (a a' : Option Addr) (len cap n cap' : Nat) (X : Nat → Nat) (k : Int) (w : World) (hl : len ≤ 1048576) (h : Lst w a len X) (hc : ¬ (hasB len X k = true ∧ n ≤ 100)) :
    Calls Try.prog 31 #[.slice a len cap, .int .i64 k, .slice a' n cap'] w fun e w' => ∃ v, e = .returned v ∧ OwnI w.heap.size w' v [] ∧ Below w.heap.size w w' := by
  have Hn := Lib.hid (And.intro ((Below.refl w.heap.size w).alloc (Nat.le_refl _) (.cells #[] 3)) (litI w))
  have H := Lib.hid h
  clear h
  obtain ⟨c, hok⟩ : ∃ c, okB len X = c := ⟨_, rfl⟩
  unfold hasB at hc
  cases c
  · clear hc
    go_enter Try.func31, Try.ntmps31
    go_wp2_with fail
    refine (specOk _ _ _ X _ hl (H.out.keep Hn.out.1)).mono ?_
    rintro e w1 ⟨rfl, hb1⟩
    rw [hok]
    have H1 := Lib.hid (show OwnI w.heap.size w1 _ [] ∧ Below w.heap.size w w1 from ⟨Ils.own_keep Hn.out.2 hb1, Hn.out.1.trans (hb1.mono Hn.out.1.size)⟩)
    clear hb1
    go_wp2_with fail
    refine bodyPost_ret (results_tmp rfl _ _ _) rfl ?_
    exact ⟨_, rfl, H1.out.1, H1.out.2⟩
  · rw [hok, Bool.true_and, ← in_dec] at hc
    obtain ⟨d, hd⟩ : ∃ d, decide ((0 : Int) ≤ k ∧ k ≤ (len : Int) - 1) = d := ⟨_, rfl⟩
    rw [hd] at hc
    cases d
    · clear hc
      go_enter Try.func31, Try.ntmps31
      go_wp2_with fail
      refine (specOk _ _ _ X _ hl (H.out.keep Hn.out.1)).mono ?_
      rintro e w1 ⟨rfl, hb1⟩
      rw [hok]
      have H1 := Lib.hid (show OwnI w.heap.size w1 _ [] ∧ Below w.heap.size w w1 from ⟨Ils.own_keep Hn.out.2 hb1, Hn.out.1.trans (hb1.mono Hn.out.1.size)⟩)
      clear hb1
      go_wp2_with fail
      refine (in_any _ _ _ _).mono ?_
      rintro e w2 ⟨rfl, hw⟩
      subst w2
      rw [hd]
      go_wp2_with fail
      refine bodyPost_ret (results_tmp rfl _ _ _) rfl ?_
      exact ⟨_, rfl, H1.out.1, H1.out.2⟩
    · have hn : (100 : Int) < n := by
        have : ¬ n ≤ 100 := fun h => hc ⟨rfl, h⟩
        omega
      clear hc
      go_enter Try.func31, Try.ntmps31
      go_wp2_with fail
      refine (specOk _ _ _ X _ hl (H.out.keep Hn.out.1)).mono ?_
      rintro e w1 ⟨rfl, hb1⟩
      rw [hok]
      have H1 := Lib.hid (show OwnI w.heap.size w1 _ [] ∧ Below w.heap.size w w1 from ⟨Ils.own_keep Hn.out.2 hb1, Hn.out.1.trans (hb1.mono Hn.out.1.size)⟩)
      clear hb1
      go_wp2_with fail
      refine (in_any _ _ _ _).mono ?_
      rintro e w2 ⟨rfl, hw⟩
      subst w2
      rw [hd]
      go_wp2_with fail
      refine bodyPost_ret (results_tmp rfl _ _ _) rfl ?_
      exact ⟨_, rfl, H1.out.1, H1.out.2⟩
set_option maxHeartbeats 800000 in
theorem specRun_yes (b off len cap n cap' : Nat) (a' : Option Addr) (X Y : Nat → Nat) (k : Nat) (w : World) (hk : k < len) (hb : b < w.heap.size) (h : Cells w b off len X) (hL : Lst w (some ⟨b, off, none⟩) len X) (ho : okB len X = true) (hn : n ≤ 100) (hY : LstF w a' n Y) :
    Calls Try.prog 31 #[.slice (some ⟨b, off, none⟩) len cap, .int .i64 (k : Int), .slice a' n cap'] w fun e w' => ∃ v, e = .returned v ∧ OwnI w.heap.size w' v (runL len X Y k n) ∧ Below w.heap.size w w' := by
  have Hn := Lib.hid (And.intro ((Below.refl w.heap.size w).alloc (Nat.le_refl _) (.cells #[] 3)) (litI w))
  have H := Lib.hid h
  have HL := Lib.hid hL
  have HY := Lib.hid hY
  have hl := (okB_bounds ho).2
  have HO := Lib.hid ho
  have hin : decide ((0 : Int) ≤ (k : Int) ∧ (k : Int) ≤ (len : Int) - 1) = true := decide_eq_true (by omega)
  obtain ⟨i0, hi, hz0, hz1, hz2⟩ := info_parts infoI
  have Hi := Lib.hid (And.intro hi (And.intro hz0 (And.intro hz1 hz2)))
  clear h ho hL hY hi hz0 hz1 hz2
  go_enter Try.func31, Try.ntmps31
  go_wp2_with fail
  refine (specOk _ _ _ X _ (by omega) (HL.out.keep Hn.out.1)).mono ?_
  rintro e w1 ⟨rfl, hb1⟩
  rw [HO.out]
  have H1 := Lib.hid (show w1.ownsRow w.heap.size 3 1 _ _ _ ∧ Below w.heap.size w w1 from ⟨Ils.own_keep Hn.out.2 hb1, Hn.out.1.trans (hb1.mono Hn.out.1.size)⟩)
  clear hb1
  go_wp2_with fail
  refine (in_any _ _ _ _).mono ?_
  rintro e w2 ⟨rfl, hw⟩
  subst w2
  rw [hin]
  clear hin
  have hn1 : ¬ (100 : Int) < n := by omega
  have hn2 : decide ((100 : Int) < n) = false := decide_eq_false hn1
  go_wp2_with fail
  clear hn2
  go_loopw [1, 7, 8] (fun kv v iv wr => ∃ i m g cp : Nat, Hid (m = runN len X Y k i) ∧ m < len ∧ kv = .int .i64 (m : Int) ∧ v = .slice (some ⟨g, 0, none⟩) i cp ∧ iv = .int .i64 (i : Int) ∧ i ≤ n ∧ wr.ownsRow w.heap.size 3 1 v i (intV (runL len X Y k i)) ∧ Below w.heap.size w wr)
    (fun _ _ iv _ => n - (intOf iv).toNat)
  case atStart => exact ⟨0, k, w.heap.size, 0, rfl, hk, rfl, rfl, rfl, Nat.zero_le _, H1.out.1, H1.out.2⟩
  case round =>
    obtain ⟨i, m, g0, cp, hm, hml, rfl, rfl, rfl, hi, hown, hbel⟩ := hrel
    have Hr := Lib.hid (And.intro hown hbel)
    have hsz := hbel.size
    clear hown hbel
    by_cases hin : i < n
    · have hin' : (i : Int) < n := by omega
      obtain ⟨hwf, hY0 | ⟨b', off', rfl, hlt', hcY⟩⟩ := HY.out.keep Hr.out.2
      · omega
      have c0 := hcY i hin
      have Hm := Lib.hid (show settleN len X (Y i) m = runN len X Y k (i + 1) by rw [hm.out]; rfl)
      have hq : settleN len X (Y i) m < len := settle_lt _ _ hml
      clear hwf hcY
      go_wp2_with fail
      refine (specSettle_yes b off len cap X m (Y i) _ hml (Nat.lt_of_lt_of_le hb hsz) (H.out.keep hb Hr.out.2) (HL.out.keep Hr.out.2) HO.out).mono ?_
      rintro e w3 ⟨rfl, hb3⟩
      obtain ⟨q, hqq⟩ : ∃ q, q = settleN len X (Y i) m := ⟨_, rfl⟩
      rw [← hqq] at hq Hm ⊢
      clear hqq
      have Hw3 := Lib.hid (show w3.ownsRow w.heap.size 3 1 _ _ _ ∧ Below w.heap.size w w3 from ⟨Ils.own_keep Hr.out.1 hb3, Hr.out.2.trans (hb3.mono hsz)⟩)
      clear hb3
      have hn63 : i + 1 ≤ maxLen := by unfold maxLen; omega
      have hnby : (i + 1) * 8 ≤ 140737488355328 := by omega
      have hbs : w.heap.size ≤ (w3.alloc (.cells #[.int .i64 (q : Int)] 3)).heap.size := by
        have := Hw3.out.2.size
        rw [sz_alloc]; omega
      have Hown := Lib.hid (show (w3.alloc (.cells #[.int .i64 (q : Int)] 3)).ownsRow w.heap.size 3 1 _ _ _ from Hw3.out.1.alloc (.cells #[.int .i64 (q : Int)] 3))
      have Hnews := Lib.hid (one_cellI w3 (q : Int))
      have Hone := Lib.hid (one_oneI (q : Int))
      go_wp2_with (at_builtin; go_loud (refine wpList_append_lies _ rfl (.tmp 40) (.tmp 42) 46 rfl w.heap.size 3 i0 (.int .i64 0) 1 8 Try.underlying46 Hi.out.1 Hi.out.2.1 Hi.out.2.2.1 Hi.out.2.2.2 rfl (by decide) (.slice (some ⟨g0, 0, none⟩) i cp) i (intV (runL len X Y k i)) rfl Hown.out ⟨w3.heap.size, 0, none⟩ 1 1 [.int .i64 (q : Int)] rfl rfl Hnews.out Hone.out (by omega) hn63 hnby hbs _ rfl ?_; intro g cap1 w4 hown1 hgrow1 hat1 hlt1))
      have H2 := Lib.hid (show w4.ownsRow w.heap.size 3 1 (.slice (some ⟨g, 0, none⟩) (i + 1) cap1) (i + 1) (intV (runL len X Y k (i + 1))) ∧ Below w.heap.size w w4 from ⟨by
        rw [runL_snoc, ← Hm.out]
        unfold intV at hown1 ⊢
        rw [List.map_append]
        exact hown1, ((Hw3.out.2.alloc Hw3.out.2.size _).grown hgrow1 hbs (fun j hj => (Hown.out.lt j hj).1))⟩)
      clear hown1 hgrow1 hat1 hlt1
      go_wp2_with fail
      go_roundw
      case rel => exact ⟨i + 1, q, g, cap1, Hm.out, hq, rfl, rfl, by go_num, hin, H2.out.1, H2.out.2⟩
      case measure => simp [intOf]; omega
    · have hin' : ¬ (i : Int) < n := by omega
      obtain rfl : i = n := by omega
      have Ho := Lib.hid (show OwnI w.heap.size wr (.slice (some ⟨g0, 0, none⟩) i cp) (runL len X Y k i) from by unfold OwnI; rw [runL_len]; exact Hr.out.1)
      go_wp2_with fail
      refine bodyPost_ret (results_tmp rfl _ _ _) rfl ?_
      exact ⟨_, rfl, Ho.out, Hr.out.2⟩
theorem specRun (a a' : Option Addr) (len cap n cap' : Nat) (X Y : Nat → Nat) (k : Int) (w : World) (hl : len ≤ 1048576) (h : Lst w a len X) (hY : LstF w a' n Y) :
    Calls Try.prog 31 #[.slice a len cap, .int .i64 k, .slice a' n cap'] w fun e w' => ∃ v, e = .returned v ∧ OwnI w.heap.size w' v (runV len X k Y n) ∧ Below w.heap.size w w' := by
  by_cases hc : hasB len X k = true ∧ n ≤ 100
  · obtain ⟨ho, m, rfl, hm⟩ := hasB_at hc.1
    rw [runV_yes hc.1 hc.2]
    obtain ⟨b, off, rfl, hlt, hcells⟩ := h.cells (by omega)
    exact specRun_yes b off len cap n cap' a' X Y m w hm hlt hcells h ho hc.2 hY
  · rw [runV_no hc]
    exact specRun_no a a' len cap n cap' X k w hl h hc
end Go.Proofs.Ytmnpmbliikalhaa.Rng
