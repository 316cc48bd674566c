/- The program's stable sort, last part: blocks that are sorted and merged; the copy; middleOf, MiddleOf. -/
import Derived.Test.YtlbapogmcnpmeaaSrtQ
namespace Go.Proofs.Ytlbapogmcnpmeaa.Avg
open Go.ChangeShapes Go.WideShapes Go.ChangeAt Go.RowKit Go.Deep Go.Proofs.Ytlbapogmcnpmeaa Go.Proofs.Ytlbapogmcnpmeaa.Flt Go.Proofs.Ytlbapogmcnpmeaa.Mth Go.Proofs.Ytlbapogmcnpmeaa.Sgl
open Ieee (single double)
set_option linter.unusedVariables false
set_option linter.unusedSimpArgs false
theorem seg_keep {X σ τ : Nat → Nat} {a b c d : Nat} (h : Seg X σ a b) (o : Oth σ τ c d) (k : b ≤ c ∨ d ≤ a) : Seg X τ a b := h.same fun p h1 h2 => o p (by omega)
set_option maxRecDepth 20000 in
set_option maxHeartbeats 6400000 in
theorem stb_0 (g cap n : Nat) (X : Nat → Nat) (w : World) (hlo : 1 ≤ n) (hhi : n ≤ 19) (hrow : RowS w g cap n X (fun p => p)) (hfin : FinS n X (fun p => p)) :
    Calls Try.prog 77 #[.slice (some ⟨g, 0, none⟩) n cap, .int .i64 (n : Int), .func (.func 69) #[] #[]] w fun e w' => e = .returned (.tuple #[]) ∧ ∃ τ, RowS w' g cap n X τ ∧ Seg X τ 0 n ∧ Only g w w' := by
  have K0 := Lib.hid (And.intro hrow (And.intro hfin (Only.refl g w)))
  have J0 := Lib.hid (show ∀ p, 0 ≤ p → (fun p : Nat => p) p = p from fun _ _ => rfl)
  clear hrow hfin
  have ge20 : ¬ (20 : Int) ≤ (n : Int) := by omega
  have gt20 : ¬ (20 : Int) < (n : Int) := by omega
  have ge40 : ¬ (40 : Int) ≤ (n : Int) := by omega
  have gt40 : ¬ (40 : Int) < (n : Int) := by omega
  have ge60 : ¬ (60 : Int) ≤ (n : Int) := by omega
  have gt60 : ¬ (60 : Int) < (n : Int) := by omega
  have ge80 : ¬ (80 : Int) ≤ (n : Int) := by omega
  have gt80 : ¬ (80 : Int) < (n : Int) := by omega
  go_enter Try.func77, Try.ntmps77
  go_wp2_with fail
  refine wp_loop_rounds 1 ?_
  rw [rounds_succ]
  go_wp2_with fail
  refine (ins_any g cap n 0 n X (fun p : Nat => p) w (by omega) (by omega) (by omega) K0.out.1 K0.out.2.1 (fun p h1 _ => rfl)).mono ?_
  rintro e w1 ⟨rfl, τ1, q1, q2, q3, q4, q5⟩
  have K1 := Lib.hid (And.intro q1 (And.intro q4 (K0.out.2.2.trans q5)))
  have J1 := Lib.hid (show ∀ p, n ≤ p → τ1 p = p from fun p hp => (q3 p (.inr hp)).trans rfl)
  have S1_0_n := Lib.hid q2
  clear q1 q2 q3 q4 q5
  go_wp2_with fail
  refine wp_loop_rounds 1 ?_
  rw [rounds_succ]
  go_wp2_with fail
  go_end0
  exact ⟨rfl, τ1, K1.out.1, S1_0_n.out, K1.out.2.2⟩
set_option maxRecDepth 20000 in
set_option maxHeartbeats 6400000 in
theorem stb_1 (g cap n : Nat) (X : Nat → Nat) (w : World) (hlo : 20 ≤ n) (hhi : n ≤ 20) (hrow : RowS w g cap n X (fun p => p)) (hfin : FinS n X (fun p => p)) :
    Calls Try.prog 77 #[.slice (some ⟨g, 0, none⟩) n cap, .int .i64 (n : Int), .func (.func 69) #[] #[]] w fun e w' => e = .returned (.tuple #[]) ∧ ∃ τ, RowS w' g cap n X τ ∧ Seg X τ 0 n ∧ Only g w w' := by
  have K0 := Lib.hid (And.intro hrow (And.intro hfin (Only.refl g w)))
  have J0 := Lib.hid (show ∀ p, 0 ≤ p → (fun p : Nat => p) p = p from fun _ _ => rfl)
  clear hrow hfin
  have ge20 : (20 : Int) ≤ (n : Int) := by omega
  have gt20 : ¬ (20 : Int) < (n : Int) := by omega
  have ge40 : ¬ (40 : Int) ≤ (n : Int) := by omega
  have gt40 : ¬ (40 : Int) < (n : Int) := by omega
  have ge60 : ¬ (60 : Int) ≤ (n : Int) := by omega
  have gt60 : ¬ (60 : Int) < (n : Int) := by omega
  have ge80 : ¬ (80 : Int) ≤ (n : Int) := by omega
  have gt80 : ¬ (80 : Int) < (n : Int) := by omega
  go_enter Try.func77, Try.ntmps77
  go_wp2_with fail
  refine wp_loop_rounds 2 ?_
  rw [rounds_succ]
  go_wp2_with fail
  refine (ins_any g cap n 0 20 X (fun p : Nat => p) w (by omega) (by omega) (by omega) K0.out.1 K0.out.2.1 (fun p h1 _ => rfl)).mono ?_
  rintro e w1 ⟨rfl, τ1, q1, q2, q3, q4, q5⟩
  have K1 := Lib.hid (And.intro q1 (And.intro q4 (K0.out.2.2.trans q5)))
  have J1 := Lib.hid (show ∀ p, 20 ≤ p → τ1 p = p from fun p hp => (q3 p (.inr hp)).trans rfl)
  have S1_0_20 := Lib.hid q2
  clear q1 q2 q3 q4 q5
  go_wp2_with fail
  rw [rounds_succ]
  go_wp2_with fail
  refine (ins_any g cap n 20 n X τ1 w1 (by omega) (by omega) (by omega) K1.out.1 K1.out.2.1 (fun p h1 _ => J1.out p h1)).mono ?_
  rintro e w2 ⟨rfl, τ2, q1, q2, q3, q4, q5⟩
  have K2 := Lib.hid (And.intro q1 (And.intro q4 (K1.out.2.2.trans q5)))
  have J2 := Lib.hid (show ∀ p, n ≤ p → τ2 p = p from fun p hp => (q3 p (.inr hp)).trans (J1.out p (by omega)))
  have S2_20_n := Lib.hid q2
  have S2_0_20 := Lib.hid (seg_keep S1_0_20.out q3 (by omega))
  clear q1 q2 q3 q4 q5
  go_wp2_with fail
  refine wp_loop_rounds 1 ?_
  rw [rounds_succ]
  go_wp2_with fail
  go_end0
  have hn0 : n = 20 := by omega
  exact ⟨rfl, τ2, K2.out.1, (by rw [hn0]; exact S2_0_20.out), K2.out.2.2⟩
set_option maxRecDepth 20000 in
set_option maxHeartbeats 6400000 in
theorem stb_2 (g cap n : Nat) (X : Nat → Nat) (w : World) (hlo : 21 ≤ n) (hhi : n ≤ 39) (hrow : RowS w g cap n X (fun p => p)) (hfin : FinS n X (fun p => p)) :
    Calls Try.prog 77 #[.slice (some ⟨g, 0, none⟩) n cap, .int .i64 (n : Int), .func (.func 69) #[] #[]] w fun e w' => e = .returned (.tuple #[]) ∧ ∃ τ, RowS w' g cap n X τ ∧ Seg X τ 0 n ∧ Only g w w' := by
  have K0 := Lib.hid (And.intro hrow (And.intro hfin (Only.refl g w)))
  have J0 := Lib.hid (show ∀ p, 0 ≤ p → (fun p : Nat => p) p = p from fun _ _ => rfl)
  clear hrow hfin
  have ge20 : (20 : Int) ≤ (n : Int) := by omega
  have gt20 : (20 : Int) < (n : Int) := by omega
  have ge40 : ¬ (40 : Int) ≤ (n : Int) := by omega
  have gt40 : ¬ (40 : Int) < (n : Int) := by omega
  have ge60 : ¬ (60 : Int) ≤ (n : Int) := by omega
  have gt60 : ¬ (60 : Int) < (n : Int) := by omega
  have ge80 : ¬ (80 : Int) ≤ (n : Int) := by omega
  have gt80 : ¬ (80 : Int) < (n : Int) := by omega
  go_enter Try.func77, Try.ntmps77
  go_wp2_with fail
  refine wp_loop_rounds 2 ?_
  rw [rounds_succ]
  go_wp2_with fail
  refine (ins_any g cap n 0 20 X (fun p : Nat => p) w (by omega) (by omega) (by omega) K0.out.1 K0.out.2.1 (fun p h1 _ => rfl)).mono ?_
  rintro e w1 ⟨rfl, τ1, q1, q2, q3, q4, q5⟩
  have K1 := Lib.hid (And.intro q1 (And.intro q4 (K0.out.2.2.trans q5)))
  have J1 := Lib.hid (show ∀ p, 20 ≤ p → τ1 p = p from fun p hp => (q3 p (.inr hp)).trans rfl)
  have S1_0_20 := Lib.hid q2
  clear q1 q2 q3 q4 q5
  go_wp2_with fail
  rw [rounds_succ]
  go_wp2_with fail
  refine (ins_any g cap n 20 n X τ1 w1 (by omega) (by omega) (by omega) K1.out.1 K1.out.2.1 (fun p h1 _ => J1.out p h1)).mono ?_
  rintro e w2 ⟨rfl, τ2, q1, q2, q3, q4, q5⟩
  have K2 := Lib.hid (And.intro q1 (And.intro q4 (K1.out.2.2.trans q5)))
  have J2 := Lib.hid (show ∀ p, n ≤ p → τ2 p = p from fun p hp => (q3 p (.inr hp)).trans (J1.out p (by omega)))
  have S2_20_n := Lib.hid q2
  have S2_0_20 := Lib.hid (seg_keep S1_0_20.out q3 (by omega))
  clear q1 q2 q3 q4 q5
  go_wp2_with fail
  refine wp_loop_rounds 2 ?_
  rw [rounds_succ]
  go_wp2_with fail
  refine wp_loop_rounds 1 ?_
  rw [rounds_succ]
  go_wp2_with fail
  refine (sym_any g cap n X (by omega) (n - 0) 0 20 n τ2 w2 rfl (by omega) (by omega) (by omega) K2.out.1 K2.out.2.1 S2_0_20.out.run S2_20_n.out.run (S2_0_20.out.sep S2_20_n.out)).mono ?_
  rintro e w3 ⟨rfl, τ3, q1, q2, q3, q4, q5⟩
  have K3 := Lib.hid (And.intro q1 (And.intro (K2.out.2.1.smp q3 q4 (by omega)) (K2.out.2.2.trans q5)))
  have S3_0_n := Lib.hid (Seg.merge (by omega) (by omega) S2_0_20.out S2_20_n.out q2 q3)
  clear q1 q2 q3 q4 q5
  go_wp2_with fail
  rw [rounds_succ]
  go_wp2_with fail
  go_end0
  exact ⟨rfl, τ3, K3.out.1, S3_0_n.out, K3.out.2.2⟩
set_option maxRecDepth 20000 in
set_option maxHeartbeats 6400000 in
theorem stb_3 (g cap n : Nat) (X : Nat → Nat) (w : World) (hlo : 40 ≤ n) (hhi : n ≤ 40) (hrow : RowS w g cap n X (fun p => p)) (hfin : FinS n X (fun p => p)) :
    Calls Try.prog 77 #[.slice (some ⟨g, 0, none⟩) n cap, .int .i64 (n : Int), .func (.func 69) #[] #[]] w fun e w' => e = .returned (.tuple #[]) ∧ ∃ τ, RowS w' g cap n X τ ∧ Seg X τ 0 n ∧ Only g w w' := by
  have K0 := Lib.hid (And.intro hrow (And.intro hfin (Only.refl g w)))
  have J0 := Lib.hid (show ∀ p, 0 ≤ p → (fun p : Nat => p) p = p from fun _ _ => rfl)
  clear hrow hfin
  have ge20 : (20 : Int) ≤ (n : Int) := by omega
  have gt20 : (20 : Int) < (n : Int) := by omega
  have ge40 : (40 : Int) ≤ (n : Int) := by omega
  have gt40 : ¬ (40 : Int) < (n : Int) := by omega
  have ge60 : ¬ (60 : Int) ≤ (n : Int) := by omega
  have gt60 : ¬ (60 : Int) < (n : Int) := by omega
  have ge80 : ¬ (80 : Int) ≤ (n : Int) := by omega
  have gt80 : ¬ (80 : Int) < (n : Int) := by omega
  go_enter Try.func77, Try.ntmps77
  go_wp2_with fail
  refine wp_loop_rounds 3 ?_
  rw [rounds_succ]
  go_wp2_with fail
  refine (ins_any g cap n 0 20 X (fun p : Nat => p) w (by omega) (by omega) (by omega) K0.out.1 K0.out.2.1 (fun p h1 _ => rfl)).mono ?_
  rintro e w1 ⟨rfl, τ1, q1, q2, q3, q4, q5⟩
  have K1 := Lib.hid (And.intro q1 (And.intro q4 (K0.out.2.2.trans q5)))
  have J1 := Lib.hid (show ∀ p, 20 ≤ p → τ1 p = p from fun p hp => (q3 p (.inr hp)).trans rfl)
  have S1_0_20 := Lib.hid q2
  clear q1 q2 q3 q4 q5
  go_wp2_with fail
  rw [rounds_succ]
  go_wp2_with fail
  refine (ins_any g cap n 20 40 X τ1 w1 (by omega) (by omega) (by omega) K1.out.1 K1.out.2.1 (fun p h1 _ => J1.out p h1)).mono ?_
  rintro e w2 ⟨rfl, τ2, q1, q2, q3, q4, q5⟩
  have K2 := Lib.hid (And.intro q1 (And.intro q4 (K1.out.2.2.trans q5)))
  have J2 := Lib.hid (show ∀ p, 40 ≤ p → τ2 p = p from fun p hp => (q3 p (.inr hp)).trans (J1.out p (by omega)))
  have S2_20_40 := Lib.hid q2
  have S2_0_20 := Lib.hid (seg_keep S1_0_20.out q3 (by omega))
  clear q1 q2 q3 q4 q5
  go_wp2_with fail
  rw [rounds_succ]
  go_wp2_with fail
  refine (ins_any g cap n 40 n X τ2 w2 (by omega) (by omega) (by omega) K2.out.1 K2.out.2.1 (fun p h1 _ => J2.out p h1)).mono ?_
  rintro e w3 ⟨rfl, τ3, q1, q2, q3, q4, q5⟩
  have K3 := Lib.hid (And.intro q1 (And.intro q4 (K2.out.2.2.trans q5)))
  have J3 := Lib.hid (show ∀ p, n ≤ p → τ3 p = p from fun p hp => (q3 p (.inr hp)).trans (J2.out p (by omega)))
  have S3_40_n := Lib.hid q2
  have S3_20_40 := Lib.hid (seg_keep S2_20_40.out q3 (by omega))
  have S3_0_20 := Lib.hid (seg_keep S2_0_20.out q3 (by omega))
  clear q1 q2 q3 q4 q5
  go_wp2_with fail
  refine wp_loop_rounds 2 ?_
  rw [rounds_succ]
  go_wp2_with fail
  refine wp_loop_rounds 2 ?_
  rw [rounds_succ]
  go_wp2_with fail
  refine (sym_any g cap n X (by omega) (40 - 0) 0 20 40 τ3 w3 rfl (by omega) (by omega) (by omega) K3.out.1 K3.out.2.1 S3_0_20.out.run S3_20_40.out.run (S3_0_20.out.sep S3_20_40.out)).mono ?_
  rintro e w4 ⟨rfl, τ4, q1, q2, q3, q4, q5⟩
  have K4 := Lib.hid (And.intro q1 (And.intro (K3.out.2.1.smp q3 q4 (by omega)) (K3.out.2.2.trans q5)))
  have S4_0_40 := Lib.hid (Seg.merge (by omega) (by omega) S3_0_20.out S3_20_40.out q2 q3)
  have S4_40_n := Lib.hid (seg_keep S3_40_n.out q4 (by omega))
  clear q1 q2 q3 q4 q5
  go_wp2_with fail
  rw [rounds_succ]
  go_wp2_with fail
  rw [rounds_succ]
  go_wp2_with fail
  go_end0
  have hn0 : n = 40 := by omega
  exact ⟨rfl, τ4, K4.out.1, (by rw [hn0]; exact S4_0_40.out), K4.out.2.2⟩
set_option maxRecDepth 20000 in
set_option maxHeartbeats 6400000 in
theorem stb_4 (g cap n : Nat) (X : Nat → Nat) (w : World) (hlo : 41 ≤ n) (hhi : n ≤ 59) (hrow : RowS w g cap n X (fun p => p)) (hfin : FinS n X (fun p => p)) :
    Calls Try.prog 77 #[.slice (some ⟨g, 0, none⟩) n cap, .int .i64 (n : Int), .func (.func 69) #[] #[]] w fun e w' => e = .returned (.tuple #[]) ∧ ∃ τ, RowS w' g cap n X τ ∧ Seg X τ 0 n ∧ Only g w w' := by
  have K0 := Lib.hid (And.intro hrow (And.intro hfin (Only.refl g w)))
  have J0 := Lib.hid (show ∀ p, 0 ≤ p → (fun p : Nat => p) p = p from fun _ _ => rfl)
  clear hrow hfin
  have ge20 : (20 : Int) ≤ (n : Int) := by omega
  have gt20 : (20 : Int) < (n : Int) := by omega
  have ge40 : (40 : Int) ≤ (n : Int) := by omega
  have gt40 : (40 : Int) < (n : Int) := by omega
  have ge60 : ¬ (60 : Int) ≤ (n : Int) := by omega
  have gt60 : ¬ (60 : Int) < (n : Int) := by omega
  have ge80 : ¬ (80 : Int) ≤ (n : Int) := by omega
  have gt80 : ¬ (80 : Int) < (n : Int) := by omega
  go_enter Try.func77, Try.ntmps77
  go_wp2_with fail
  refine wp_loop_rounds 3 ?_
  rw [rounds_succ]
  go_wp2_with fail
  refine (ins_any g cap n 0 20 X (fun p : Nat => p) w (by omega) (by omega) (by omega) K0.out.1 K0.out.2.1 (fun p h1 _ => rfl)).mono ?_
  rintro e w1 ⟨rfl, τ1, q1, q2, q3, q4, q5⟩
  have K1 := Lib.hid (And.intro q1 (And.intro q4 (K0.out.2.2.trans q5)))
  have J1 := Lib.hid (show ∀ p, 20 ≤ p → τ1 p = p from fun p hp => (q3 p (.inr hp)).trans rfl)
  have S1_0_20 := Lib.hid q2
  clear q1 q2 q3 q4 q5
  go_wp2_with fail
  rw [rounds_succ]
  go_wp2_with fail
  refine (ins_any g cap n 20 40 X τ1 w1 (by omega) (by omega) (by omega) K1.out.1 K1.out.2.1 (fun p h1 _ => J1.out p h1)).mono ?_
  rintro e w2 ⟨rfl, τ2, q1, q2, q3, q4, q5⟩
  have K2 := Lib.hid (And.intro q1 (And.intro q4 (K1.out.2.2.trans q5)))
  have J2 := Lib.hid (show ∀ p, 40 ≤ p → τ2 p = p from fun p hp => (q3 p (.inr hp)).trans (J1.out p (by omega)))
  have S2_20_40 := Lib.hid q2
  have S2_0_20 := Lib.hid (seg_keep S1_0_20.out q3 (by omega))
  clear q1 q2 q3 q4 q5
  go_wp2_with fail
  rw [rounds_succ]
  go_wp2_with fail
  refine (ins_any g cap n 40 n X τ2 w2 (by omega) (by omega) (by omega) K2.out.1 K2.out.2.1 (fun p h1 _ => J2.out p h1)).mono ?_
  rintro e w3 ⟨rfl, τ3, q1, q2, q3, q4, q5⟩
  have K3 := Lib.hid (And.intro q1 (And.intro q4 (K2.out.2.2.trans q5)))
  have J3 := Lib.hid (show ∀ p, n ≤ p → τ3 p = p from fun p hp => (q3 p (.inr hp)).trans (J2.out p (by omega)))
  have S3_40_n := Lib.hid q2
  have S3_20_40 := Lib.hid (seg_keep S2_20_40.out q3 (by omega))
  have S3_0_20 := Lib.hid (seg_keep S2_0_20.out q3 (by omega))
  clear q1 q2 q3 q4 q5
  go_wp2_with fail
  refine wp_loop_rounds 3 ?_
  rw [rounds_succ]
  go_wp2_with fail
  refine wp_loop_rounds 2 ?_
  rw [rounds_succ]
  go_wp2_with fail
  refine (sym_any g cap n X (by omega) (40 - 0) 0 20 40 τ3 w3 rfl (by omega) (by omega) (by omega) K3.out.1 K3.out.2.1 S3_0_20.out.run S3_20_40.out.run (S3_0_20.out.sep S3_20_40.out)).mono ?_
  rintro e w4 ⟨rfl, τ4, q1, q2, q3, q4, q5⟩
  have K4 := Lib.hid (And.intro q1 (And.intro (K3.out.2.1.smp q3 q4 (by omega)) (K3.out.2.2.trans q5)))
  have S4_0_40 := Lib.hid (Seg.merge (by omega) (by omega) S3_0_20.out S3_20_40.out q2 q3)
  have S4_40_n := Lib.hid (seg_keep S3_40_n.out q4 (by omega))
  clear q1 q2 q3 q4 q5
  go_wp2_with fail
  rw [rounds_succ]
  go_wp2_with fail
  rw [rounds_succ]
  go_wp2_with fail
  refine wp_loop_rounds 1 ?_
  rw [rounds_succ]
  go_wp2_with fail
  refine (sym_any g cap n X (by omega) (n - 0) 0 40 n τ4 w4 rfl (by omega) (by omega) (by omega) K4.out.1 K4.out.2.1 S4_0_40.out.run S4_40_n.out.run (S4_0_40.out.sep S4_40_n.out)).mono ?_
  rintro e w5 ⟨rfl, τ5, q1, q2, q3, q4, q5⟩
  have K5 := Lib.hid (And.intro q1 (And.intro (K4.out.2.1.smp q3 q4 (by omega)) (K4.out.2.2.trans q5)))
  have S5_0_n := Lib.hid (Seg.merge (by omega) (by omega) S4_0_40.out S4_40_n.out q2 q3)
  clear q1 q2 q3 q4 q5
  go_wp2_with fail
  rw [rounds_succ]
  go_wp2_with fail
  go_end0
  exact ⟨rfl, τ5, K5.out.1, S5_0_n.out, K5.out.2.2⟩
set_option maxRecDepth 20000 in
set_option maxHeartbeats 6400000 in
theorem stb_5 (g cap n : Nat) (X : Nat → Nat) (w : World) (hlo : 60 ≤ n) (hhi : n ≤ 60) (hrow : RowS w g cap n X (fun p => p)) (hfin : FinS n X (fun p => p)) :
    Calls Try.prog 77 #[.slice (some ⟨g, 0, none⟩) n cap, .int .i64 (n : Int), .func (.func 69) #[] #[]] w fun e w' => e = .returned (.tuple #[]) ∧ ∃ τ, RowS w' g cap n X τ ∧ Seg X τ 0 n ∧ Only g w w' := by
  have K0 := Lib.hid (And.intro hrow (And.intro hfin (Only.refl g w)))
  have J0 := Lib.hid (show ∀ p, 0 ≤ p → (fun p : Nat => p) p = p from fun _ _ => rfl)
  clear hrow hfin
  have ge20 : (20 : Int) ≤ (n : Int) := by omega
  have gt20 : (20 : Int) < (n : Int) := by omega
  have ge40 : (40 : Int) ≤ (n : Int) := by omega
  have gt40 : (40 : Int) < (n : Int) := by omega
  have ge60 : (60 : Int) ≤ (n : Int) := by omega
  have gt60 : ¬ (60 : Int) < (n : Int) := by omega
  have ge80 : ¬ (80 : Int) ≤ (n : Int) := by omega
  have gt80 : ¬ (80 : Int) < (n : Int) := by omega
  go_enter Try.func77, Try.ntmps77
  go_wp2_with fail
  refine wp_loop_rounds 4 ?_
  rw [rounds_succ]
  go_wp2_with fail
  refine (ins_any g cap n 0 20 X (fun p : Nat => p) w (by omega) (by omega) (by omega) K0.out.1 K0.out.2.1 (fun p h1 _ => rfl)).mono ?_
  rintro e w1 ⟨rfl, τ1, q1, q2, q3, q4, q5⟩
  have K1 := Lib.hid (And.intro q1 (And.intro q4 (K0.out.2.2.trans q5)))
  have J1 := Lib.hid (show ∀ p, 20 ≤ p → τ1 p = p from fun p hp => (q3 p (.inr hp)).trans rfl)
  have S1_0_20 := Lib.hid q2
  clear q1 q2 q3 q4 q5
  go_wp2_with fail
  rw [rounds_succ]
  go_wp2_with fail
  refine (ins_any g cap n 20 40 X τ1 w1 (by omega) (by omega) (by omega) K1.out.1 K1.out.2.1 (fun p h1 _ => J1.out p h1)).mono ?_
  rintro e w2 ⟨rfl, τ2, q1, q2, q3, q4, q5⟩
  have K2 := Lib.hid (And.intro q1 (And.intro q4 (K1.out.2.2.trans q5)))
  have J2 := Lib.hid (show ∀ p, 40 ≤ p → τ2 p = p from fun p hp => (q3 p (.inr hp)).trans (J1.out p (by omega)))
  have S2_20_40 := Lib.hid q2
  have S2_0_20 := Lib.hid (seg_keep S1_0_20.out q3 (by omega))
  clear q1 q2 q3 q4 q5
  go_wp2_with fail
  rw [rounds_succ]
  go_wp2_with fail
  refine (ins_any g cap n 40 60 X τ2 w2 (by omega) (by omega) (by omega) K2.out.1 K2.out.2.1 (fun p h1 _ => J2.out p h1)).mono ?_
  rintro e w3 ⟨rfl, τ3, q1, q2, q3, q4, q5⟩
  have K3 := Lib.hid (And.intro q1 (And.intro q4 (K2.out.2.2.trans q5)))
  have J3 := Lib.hid (show ∀ p, 60 ≤ p → τ3 p = p from fun p hp => (q3 p (.inr hp)).trans (J2.out p (by omega)))
  have S3_40_60 := Lib.hid q2
  have S3_20_40 := Lib.hid (seg_keep S2_20_40.out q3 (by omega))
  have S3_0_20 := Lib.hid (seg_keep S2_0_20.out q3 (by omega))
  clear q1 q2 q3 q4 q5
  go_wp2_with fail
  rw [rounds_succ]
  go_wp2_with fail
  refine (ins_any g cap n 60 n X τ3 w3 (by omega) (by omega) (by omega) K3.out.1 K3.out.2.1 (fun p h1 _ => J3.out p h1)).mono ?_
  rintro e w4 ⟨rfl, τ4, q1, q2, q3, q4, q5⟩
  have K4 := Lib.hid (And.intro q1 (And.intro q4 (K3.out.2.2.trans q5)))
  have J4 := Lib.hid (show ∀ p, n ≤ p → τ4 p = p from fun p hp => (q3 p (.inr hp)).trans (J3.out p (by omega)))
  have S4_60_n := Lib.hid q2
  have S4_40_60 := Lib.hid (seg_keep S3_40_60.out q3 (by omega))
  have S4_20_40 := Lib.hid (seg_keep S3_20_40.out q3 (by omega))
  have S4_0_20 := Lib.hid (seg_keep S3_0_20.out q3 (by omega))
  clear q1 q2 q3 q4 q5
  go_wp2_with fail
  refine wp_loop_rounds 3 ?_
  rw [rounds_succ]
  go_wp2_with fail
  refine wp_loop_rounds 2 ?_
  rw [rounds_succ]
  go_wp2_with fail
  refine (sym_any g cap n X (by omega) (40 - 0) 0 20 40 τ4 w4 rfl (by omega) (by omega) (by omega) K4.out.1 K4.out.2.1 S4_0_20.out.run S4_20_40.out.run (S4_0_20.out.sep S4_20_40.out)).mono ?_
  rintro e w5 ⟨rfl, τ5, q1, q2, q3, q4, q5⟩
  have K5 := Lib.hid (And.intro q1 (And.intro (K4.out.2.1.smp q3 q4 (by omega)) (K4.out.2.2.trans q5)))
  have S5_0_40 := Lib.hid (Seg.merge (by omega) (by omega) S4_0_20.out S4_20_40.out q2 q3)
  have S5_60_n := Lib.hid (seg_keep S4_60_n.out q4 (by omega))
  have S5_40_60 := Lib.hid (seg_keep S4_40_60.out q4 (by omega))
  clear q1 q2 q3 q4 q5
  go_wp2_with fail
  rw [rounds_succ]
  have S5_40_n := Lib.hid (show Seg X τ5 40 n from by rw [show n = 60 by omega]; exact S5_40_60.out)
  go_wp2_with fail
  rw [rounds_succ]
  go_wp2_with fail
  refine wp_loop_rounds 1 ?_
  rw [rounds_succ]
  go_wp2_with fail
  refine (sym_any g cap n X (by omega) (n - 0) 0 40 n τ5 w5 rfl (by omega) (by omega) (by omega) K5.out.1 K5.out.2.1 S5_0_40.out.run S5_40_n.out.run (S5_0_40.out.sep S5_40_n.out)).mono ?_
  rintro e w6 ⟨rfl, τ6, q1, q2, q3, q4, q5⟩
  have K6 := Lib.hid (And.intro q1 (And.intro (K5.out.2.1.smp q3 q4 (by omega)) (K5.out.2.2.trans q5)))
  have S6_0_n := Lib.hid (Seg.merge (by omega) (by omega) S5_0_40.out S5_40_n.out q2 q3)
  clear q1 q2 q3 q4 q5
  go_wp2_with fail
  rw [rounds_succ]
  go_wp2_with fail
  go_end0
  exact ⟨rfl, τ6, K6.out.1, S6_0_n.out, K6.out.2.2⟩
set_option maxRecDepth 20000 in
set_option maxHeartbeats 6400000 in
theorem stb_6 (g cap n : Nat) (X : Nat → Nat) (w : World) (hlo : 61 ≤ n) (hhi : n ≤ 64) (hrow : RowS w g cap n X (fun p => p)) (hfin : FinS n X (fun p => p)) :
    Calls Try.prog 77 #[.slice (some ⟨g, 0, none⟩) n cap, .int .i64 (n : Int), .func (.func 69) #[] #[]] w fun e w' => e = .returned (.tuple #[]) ∧ ∃ τ, RowS w' g cap n X τ ∧ Seg X τ 0 n ∧ Only g w w' := by
  have K0 := Lib.hid (And.intro hrow (And.intro hfin (Only.refl g w)))
  have J0 := Lib.hid (show ∀ p, 0 ≤ p → (fun p : Nat => p) p = p from fun _ _ => rfl)
  clear hrow hfin
  have ge20 : (20 : Int) ≤ (n : Int) := by omega
  have gt20 : (20 : Int) < (n : Int) := by omega
  have ge40 : (40 : Int) ≤ (n : Int) := by omega
  have gt40 : (40 : Int) < (n : Int) := by omega
  have ge60 : (60 : Int) ≤ (n : Int) := by omega
  have gt60 : (60 : Int) < (n : Int) := by omega
  have ge80 : ¬ (80 : Int) ≤ (n : Int) := by omega
  have gt80 : ¬ (80 : Int) < (n : Int) := by omega
  go_enter Try.func77, Try.ntmps77
  go_wp2_with fail
  refine wp_loop_rounds 4 ?_
  rw [rounds_succ]
  go_wp2_with fail
  refine (ins_any g cap n 0 20 X (fun p : Nat => p) w (by omega) (by omega) (by omega) K0.out.1 K0.out.2.1 (fun p h1 _ => rfl)).mono ?_
  rintro e w1 ⟨rfl, τ1, q1, q2, q3, q4, q5⟩
  have K1 := Lib.hid (And.intro q1 (And.intro q4 (K0.out.2.2.trans q5)))
  have J1 := Lib.hid (show ∀ p, 20 ≤ p → τ1 p = p from fun p hp => (q3 p (.inr hp)).trans rfl)
  have S1_0_20 := Lib.hid q2
  clear q1 q2 q3 q4 q5
  go_wp2_with fail
  rw [rounds_succ]
  go_wp2_with fail
  refine (ins_any g cap n 20 40 X τ1 w1 (by omega) (by omega) (by omega) K1.out.1 K1.out.2.1 (fun p h1 _ => J1.out p h1)).mono ?_
  rintro e w2 ⟨rfl, τ2, q1, q2, q3, q4, q5⟩
  have K2 := Lib.hid (And.intro q1 (And.intro q4 (K1.out.2.2.trans q5)))
  have J2 := Lib.hid (show ∀ p, 40 ≤ p → τ2 p = p from fun p hp => (q3 p (.inr hp)).trans (J1.out p (by omega)))
  have S2_20_40 := Lib.hid q2
  have S2_0_20 := Lib.hid (seg_keep S1_0_20.out q3 (by omega))
  clear q1 q2 q3 q4 q5
  go_wp2_with fail
  rw [rounds_succ]
  go_wp2_with fail
  refine (ins_any g cap n 40 60 X τ2 w2 (by omega) (by omega) (by omega) K2.out.1 K2.out.2.1 (fun p h1 _ => J2.out p h1)).mono ?_
  rintro e w3 ⟨rfl, τ3, q1, q2, q3, q4, q5⟩
  have K3 := Lib.hid (And.intro q1 (And.intro q4 (K2.out.2.2.trans q5)))
  have J3 := Lib.hid (show ∀ p, 60 ≤ p → τ3 p = p from fun p hp => (q3 p (.inr hp)).trans (J2.out p (by omega)))
  have S3_40_60 := Lib.hid q2
  have S3_20_40 := Lib.hid (seg_keep S2_20_40.out q3 (by omega))
  have S3_0_20 := Lib.hid (seg_keep S2_0_20.out q3 (by omega))
  clear q1 q2 q3 q4 q5
  go_wp2_with fail
  rw [rounds_succ]
  go_wp2_with fail
  refine (ins_any g cap n 60 n X τ3 w3 (by omega) (by omega) (by omega) K3.out.1 K3.out.2.1 (fun p h1 _ => J3.out p h1)).mono ?_
  rintro e w4 ⟨rfl, τ4, q1, q2, q3, q4, q5⟩
  have K4 := Lib.hid (And.intro q1 (And.intro q4 (K3.out.2.2.trans q5)))
  have J4 := Lib.hid (show ∀ p, n ≤ p → τ4 p = p from fun p hp => (q3 p (.inr hp)).trans (J3.out p (by omega)))
  have S4_60_n := Lib.hid q2
  have S4_40_60 := Lib.hid (seg_keep S3_40_60.out q3 (by omega))
  have S4_20_40 := Lib.hid (seg_keep S3_20_40.out q3 (by omega))
  have S4_0_20 := Lib.hid (seg_keep S3_0_20.out q3 (by omega))
  clear q1 q2 q3 q4 q5
  go_wp2_with fail
  refine wp_loop_rounds 3 ?_
  rw [rounds_succ]
  go_wp2_with fail
  refine wp_loop_rounds 2 ?_
  rw [rounds_succ]
  go_wp2_with fail
  refine (sym_any g cap n X (by omega) (40 - 0) 0 20 40 τ4 w4 rfl (by omega) (by omega) (by omega) K4.out.1 K4.out.2.1 S4_0_20.out.run S4_20_40.out.run (S4_0_20.out.sep S4_20_40.out)).mono ?_
  rintro e w5 ⟨rfl, τ5, q1, q2, q3, q4, q5⟩
  have K5 := Lib.hid (And.intro q1 (And.intro (K4.out.2.1.smp q3 q4 (by omega)) (K4.out.2.2.trans q5)))
  have S5_0_40 := Lib.hid (Seg.merge (by omega) (by omega) S4_0_20.out S4_20_40.out q2 q3)
  have S5_60_n := Lib.hid (seg_keep S4_60_n.out q4 (by omega))
  have S5_40_60 := Lib.hid (seg_keep S4_40_60.out q4 (by omega))
  clear q1 q2 q3 q4 q5
  go_wp2_with fail
  rw [rounds_succ]
  go_wp2_with fail
  refine (sym_any g cap n X (by omega) (n - 40) 40 60 n τ5 w5 rfl (by omega) (by omega) (by omega) K5.out.1 K5.out.2.1 S5_40_60.out.run S5_60_n.out.run (S5_40_60.out.sep S5_60_n.out)).mono ?_
  rintro e w6 ⟨rfl, τ6, q1, q2, q3, q4, q5⟩
  have K6 := Lib.hid (And.intro q1 (And.intro (K5.out.2.1.smp q3 q4 (by omega)) (K5.out.2.2.trans q5)))
  have S6_40_n := Lib.hid (Seg.merge (by omega) (by omega) S5_40_60.out S5_60_n.out q2 q3)
  have S6_0_40 := Lib.hid (seg_keep S5_0_40.out q4 (by omega))
  clear q1 q2 q3 q4 q5
  go_wp2_with fail
  rw [rounds_succ]
  go_wp2_with fail
  refine wp_loop_rounds 1 ?_
  rw [rounds_succ]
  go_wp2_with fail
  refine (sym_any g cap n X (by omega) (n - 0) 0 40 n τ6 w6 rfl (by omega) (by omega) (by omega) K6.out.1 K6.out.2.1 S6_0_40.out.run S6_40_n.out.run (S6_0_40.out.sep S6_40_n.out)).mono ?_
  rintro e w7 ⟨rfl, τ7, q1, q2, q3, q4, q5⟩
  have K7 := Lib.hid (And.intro q1 (And.intro (K6.out.2.1.smp q3 q4 (by omega)) (K6.out.2.2.trans q5)))
  have S7_0_n := Lib.hid (Seg.merge (by omega) (by omega) S6_0_40.out S6_40_n.out q2 q3)
  clear q1 q2 q3 q4 q5
  go_wp2_with fail
  rw [rounds_succ]
  go_wp2_with fail
  go_end0
  exact ⟨rfl, τ7, K7.out.1, S7_0_n.out, K7.out.2.2⟩
theorem stb_any (g cap n : Nat) (X : Nat → Nat) (w : World) (h1 : 1 ≤ n) (hn : n ≤ 64) (hrow : RowS w g cap n X (fun p => p)) (hfin : FinS n X (fun p => p)) :
    Calls Try.prog 77 #[.slice (some ⟨g, 0, none⟩) n cap, .int .i64 (n : Int), .func (.func 69) #[] #[]] w fun e w' => e = .returned (.tuple #[]) ∧ ∃ τ, RowS w' g cap n X τ ∧ Seg X τ 0 n ∧ Only g w w' := by
  by_cases c0 : n < 20
  · exact stb_0 g cap n X w h1 (by omega) hrow hfin
  by_cases c1 : n < 21
  · exact stb_1 g cap n X w (by omega) (by omega) hrow hfin
  by_cases c2 : n < 40
  · exact stb_2 g cap n X w (by omega) (by omega) hrow hfin
  by_cases c3 : n < 41
  · exact stb_3 g cap n X w (by omega) (by omega) hrow hfin
  by_cases c4 : n < 60
  · exact stb_4 g cap n X w (by omega) (by omega) hrow hfin
  by_cases c5 : n < 61
  · exact stb_5 g cap n X w (by omega) (by omega) hrow hfin
  exact stb_6 g cap n X w (by omega) hn hrow hfin
theorem sort_any (g cap n : Nat) (X : Nat → Nat) (w : World) (h1 : 1 ≤ n) (hn : n ≤ 64) (hrow : RowS w g cap n X (fun p => p)) (hfin : FinS n X (fun p => p)) :
    Calls Try.prog 68 #[.slice (some ⟨g, 0, none⟩) n cap, .func (.func 69) #[] #[]] w fun e w' => e = .returned (.tuple #[]) ∧ ∃ τ, RowS w' g cap n X τ ∧ Seg X τ 0 n ∧ Only g w w' := by
  have HC := Lib.hid (stb_any g cap n X w h1 hn hrow hfin)
  clear hrow hfin
  go_enter Try.func68, Try.ntmps68
  go_wp2_with fail
  refine HC.out.mono ?_
  rintro e w2 ⟨rfl, τ, q1, q2, q3⟩
  have H2 := Lib.hid (And.intro q1 (And.intro q2 q3))
  clear q1 q2 q3
  go_wp2_with fail
  go_end0
  exact ⟨rfl, τ, H2.out.1, H2.out.2.1, H2.out.2.2⟩
theorem clone_any (b off len cap : Nat) (X : Nat → Nat) (w : World) (h1 : 1 ≤ len) (hl : len ≤ 1048576) (h : LstF w (some ⟨b, off, none⟩) len X) :
    Calls Try.prog 67 #[.slice (some ⟨b, off, none⟩) len cap] w fun e w' => ∃ g cp, e = .returned (.slice (some ⟨g, 0, none⟩) len cp) ∧ OwnF w.heap.size w' (.slice (some ⟨g, 0, none⟩) len cp) len X ∧ Below w.heap.size w w' := by
  obtain ⟨b', off', ha, hlt, hc⟩ := LstF.cells h (by omega)
  cases ha
  have hba := (Below.refl w.heap.size w).alloc (Nat.le_refl _) (.cells #[] 30)
  have hc2 := hc.keep hlt hba
  obtain ⟨gC, cC, wC, krunC, hownC, hbelC⟩ := appF (base := w.heap.size) (w := w.alloc (.cells #[] 30)) (n := 0) (cap := 0) (m := len) (c := cap) (g := w.heap.size) (ad := ⟨b, off, none⟩) (Y := X) (litF w) (fun j hj => by rw [addr_add]; exact hc2 j hj) (by omega) (by rw [sz_alloc]; omega)
  rw [Nat.zero_add] at krunC hownC
  have H9 := Lib.hid (show OwnF w.heap.size wC (.slice (some ⟨gC, 0, none⟩) len cC) len X ∧ Below w.heap.size w wC from ⟨ownF_congr hownC (fun j hj => by rw [spl_eq, if_pos (by omega), Nat.sub_zero]), hba.trans hbelC⟩)
  clear hba hc2 hownC hbelC hc h
  have hnil : ∀ w : World, (binOp BinOp.eql 22 (.slice (some ⟨b, off, none⟩) len cap) (.slice none 0 0)).run Try.prog w = .ok (.bool false) w := fun w => rfl
  go_enter Try.func67, Try.ntmps67
  go_wp2_with (at_builtin; go_loud (refine wpList_append_run rfl (.tmp 5) (.tmp 6) _ rfl rfl rfl krunC ?_))
  go_ret
  exact ⟨gC, cC, rfl, H9.out.1, H9.out.2⟩
theorem row_of {base : Nat} {w : World} {g cp n : Nat} {X : Nat → Nat} (h : OwnF base w (.slice (some ⟨g, 0, none⟩) n cp) n X) : RowS w g cp n X (fun p => p) := by
  have hc := (ownF_cells h).2.2.2
  rcases h.2 with ⟨e, _⟩ | ⟨g', cap, cur, e, hb, hg, hh, hm, hs, ht⟩
  · cases e
  · cases e
    refine ⟨fun i => cur[i]?.getD undef, ⟨cur, hg, by omega, fun i hi => ?_⟩, hh, fun i hi => ?_⟩
    · show cur[i]? = some (cur[i]?.getD undef)
      rw [Array.getElem?_eq_getElem (show i < cur.size by omega)]; rfl
    · have := hc i hi
      rw [Nat.zero_add, cell_of_row _ g i _ _ _ hg] at this
      show cur[i]?.getD undef = .float .f32 (X i)
      rw [this]; rfl
set_option maxHeartbeats 400000 in
theorem middleOf_any (a : Option Addr) (len cap : Nat) (X : Nat → Nat) (w : World) (hg : meanB len X = true) (h : LstF w a len X) :
    Calls Try.prog 51 #[.slice a len cap] w fun e w' => e = .returned (.float .f32 (midN len X)) ∧ Below w.heap.size w w' := by
  obtain ⟨hq, h1⟩ := meanB_iff.1 hg
  obtain ⟨h64, hfin⟩ := good_iff.1 hq
  obtain ⟨b, off, ha, hlt, hc⟩ := LstF.cells h (by omega)
  subst ha
  have HC := Lib.hid (clone_any b off len cap X w h1 (by omega) h)
  have Hs := Lib.hid (show midN len X = srt X len ((len - 1) / 2) by unfold midN; rw [if_pos hg])
  have Hfin := Lib.hid hfin
  obtain ⟨k, hk⟩ : ∃ k, (len - 1) / 2 = k := ⟨_, rfl⟩
  rw [hk] at Hs
  have hkl : k < len := by omega
  have hkl' : (k : Int) < (len : Int) := by omega
  have hw1 : IntKind.i64.wrap ((len : Int) - 1) = (len : Int) - 1 := by rw [IntKind.wrap_i64]; omega
  have f1 : ((len : Int) - 1).tdiv 2 = (k : Int) := by rw [Int.tdiv_eq_ediv_of_nonneg (by omega)]; omega
  have hw2 : IntKind.i64.wrap (k : Int) = (k : Int) := by rw [IntKind.wrap_i64]; omega
  clear hg hk hc hfin hq h
  go_enter Try.func51, Try.ntmps51
  go_wp2_with fail
  refine HC.out.mono ?_
  rintro e w2 ⟨g, cp, rfl, hown, hbel⟩
  have HS := Lib.hid (sort_any g cp len X w2 h1 h64 (row_of hown) Hfin.out)
  have H2 := Lib.hid (And.intro hbel (ownF_cells hown).1)
  clear hown hbel
  go_wp2_with fail
  refine HS.out.mono ?_
  rintro e w3 ⟨rfl, τ, q1, q2, q3⟩
  have hc := q1.cell hkl
  rw [seg_srt Hfin.out q2 hkl] at hc
  have H3 := Lib.hid (H2.out.1.trans (q3.below H2.out.2 H2.out.1.size))
  clear q1 q2 q3
  go_wp2_with fail
  go_ret
  exact ⟨by rw [Hs.out]; rfl, H3.out⟩
theorem ent_mid : ∀ args w, (callFunc 51 args).run Try.prog w = .ok (.enter 51 args) w := ent _ _ _ Try.func51 (by kernel_rfl) rfl
theorem impl_middle (a : Option Addr) (len cap : Nat) (X : Nat → Nat) (w : World) (hl : len ≤ 1048576) (h : LstF w a len X) :
    Calls Try.prog 28 #[.slice a len cap] w fun e w' => e = .returned (.tuple #[.float .f32 (midN len X), .bool (meanB len X)]) ∧ Below w.heap.size w w' := by
  have HR := Lib.hid (reck_all_F _ ent_mid 1 (by omega) (midN len X) (meanB len X) a len cap X w hl h rfl (fun hq h1 h64 w1 hL => (middleOf_any a len cap X w1 (by unfold meanB; rw [hq, decide_eq_true h1]; rfl) hL).mono (by rintro e wX ⟨rfl, hw⟩; exact ⟨rfl, hw⟩)))
  have Hs := Lib.hid (show (if meanB len X = true then midN len X else 0) = midN len X by
    split
    · rfl
    · rename_i hb; unfold midN; rw [if_neg hb])
  rw [Hs.out] at HR
  clear h
  go_enter Try.func28, Try.ntmps28
  go_wp2_with fail
  refine HR.out.mono ?_
  rintro e w' ⟨rfl, hb⟩
  have Hb := Lib.hid hb
  clear hb
  go_wp2_with fail
  go_ret2
  exact ⟨rfl, Hb.out⟩
theorem midN_fin (n : Nat) (X : Nat → Nat) : finB (midN n X) = true := by
  unfold midN
  split
  · rename_i h
    obtain ⟨hq, h1⟩ := meanB_iff.1 h
    exact srt_fin (good_iff.1 hq).2 _ (by omega)
  · decide
theorem midN_wf {n : Nat} {X : Nat → Nat} (hw : WfF n X) : (Lit.float .f32 (midN n X)).wf = true := by
  unfold midN
  split
  · rename_i h
    obtain ⟨hq, h1⟩ := meanB_iff.1 h
    obtain ⟨i, hi, e⟩ := srt_mem X n ((n - 1) / 2) (by omega)
    rw [e]; exact hw i hi
  · rfl
theorem midN_mem (n : Nat) (X : Nat → Nat) (h : meanB n X = true) : ∃ i, i < n ∧ midN n X = X i := by
  obtain ⟨hq, h1⟩ := meanB_iff.1 h
  obtain ⟨i, hi, e⟩ := srt_mem X n ((n - 1) / 2) (by omega)
  exact ⟨i, hi, by unfold midN; rw [if_pos h]; exact e⟩
end Go.Proofs.Ytlbapogmcnpmeaa.Avg
