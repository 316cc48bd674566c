/- The program's written: the piece of an operator. -/
import Derived.Test.YtlngplohnknhjaaGreatDoorKExpPm
namespace Go.Proofs.YtlngplohnknhjaaGreatDoor.Px
open Go.ChangeShapes Go.WideShapes Go.ChangeAt Go.RowKit Go.Proofs.YtlngplohnknhjaaGreatDoor Go.Proofs.YtlngplohnknhjaaGreatDoor.Flt Go.Proofs.YtlngplohnknhjaaGreatDoor.Ex Go.Proofs.YtlngplohnknhjaaGreatDoor.Cpx Go.Proofs.YtlngplohnknhjaaGreatDoor.Sng
set_option linter.unusedVariables false
set_option linter.unusedSimpArgs false
theorem txt_tx {k : Int} (h : 3 ≤ k ∧ k ≤ 12) : txt k = ⟨(txL k).toArray⟩ := by
  obtain rfl | rfl | rfl | rfl | rfl | rfl | rfl | rfl | rfl | rfl : k = 3 ∨ k = 4 ∨ k = 5 ∨ k = 6 ∨ k = 7 ∨ k = 8 ∨ k = 9 ∨ k = 10 ∨ k = 11 ∨ k = 12 := by omega
  all_goals rfl
theorem stg_un {k : Int} (h : 3 ≤ k ∧ k ≤ 7) : (k ≤ 4 → stg k = 4) ∧ (¬ k ≤ 4 → stg k = 5) := by
  obtain rfl | rfl | rfl | rfl | rfl : k = 3 ∨ k = 4 ∨ k = 5 ∨ k = 6 ∨ k = 7 := by omega
  all_goals decide
theorem stg_two {k : Int} (h : 8 ≤ k ∧ k ≤ 12) : 1 ≤ stg k ∧ stg k ≤ 3 := by
  obtain rfl | rfl | rfl | rfl | rfl : k = 8 ∨ k = 9 ∨ k = 10 ∨ k = 11 ∨ k = 12 := by omega
  all_goals decide
theorem nodeP_stg {k : Int} (h : 3 ≤ k ∧ k ≤ 12) (st : List Tp) : (nodeP (opN k) st).2 = stg k := by
  unfold nodeP
  rw [if_neg (show ¬ (opN k).k = 1 from by show ¬ k = 1; omega), if_neg (show ¬ (opN k).k = 2 from by show ¬ k = 2; omega)]
  by_cases h4 : k ≤ 4
  · rw [if_pos (show (opN k).k ≤ 4 from h4), (stg_un ⟨h.1, by omega⟩).1 h4]
  · rw [if_neg (show ¬ (opN k).k ≤ 4 from h4)]
    by_cases h7 : k ≤ 7
    · rw [if_pos (show (opN k).k ≤ 7 from h7), (stg_un ⟨h.1, h7⟩).2 h4]
    · rw [if_neg (show ¬ (opN k).k ≤ 7 from h7)]; rfl
/-- the operator's text with its operands, which it takes -/
theorem tw_any (w0 : World) (B : Nat) (k : Int) (hk : 3 ≤ k ∧ k ≤ 12) (st : List Tp) (ha : ar k ≤ st.length) (ht : tot st ≤ 100000) (w : World) (g cap : Nat) (h : Sg w0 B g cap (pcs st) w) :
    Calls Tryz.prog 37 #[.agg #[.string (txt k), .int .i64 (stg k)], .pointer (some ⟨B, 0, none⟩)] w fun e w' =>
      e = .returned (.string ⟨(nodeP (opN k) st).1.toArray⟩) ∧ Sg w0 B g cap (pcs (st.drop (ar k))) w' ∧ Only B w w' := by
  have lo : (txL k).length ≤ 1000 := Nat.le_trans (txL_len k) (by omega)
  rw [txt_tx hk]
  by_cases h7 : k ≤ 7
  · rw [ar_un ⟨hk.1, h7⟩] at ha ⊢
    match st, ha, ht, h with
    | (t, s) :: r, _, ht, h =>
      have lt : t.length ≤ 100000 := by have : t.length ≤ tot ((t, s) :: r) := tot_mem (st := (t, s) :: r) (p := (t, s)) (List.mem_cons_self ..); omega
      by_cases h4 : k ≤ 4
      · have c := with4_any w0 B g cap (txL k) t s (pcs r) lo lt w h
        have e : (nodeP (opN k) ((t, s) :: r)).1 = txL k ++ wi s 4 t := by
          unfold nodeP
          rw [if_neg (show ¬ (opN k).k = 1 from by show ¬ k = 1; omega), if_neg (show ¬ (opN k).k = 2 from by show ¬ k = 2; omega), if_pos (show (opN k).k ≤ 4 from h4)]; rfl
        rw [(stg_un ⟨hk.1, h7⟩).1 h4, e]; exact c
      · have c := with5_any w0 B g cap (txL k) t s (pcs r) lo lt w h
        have e : (nodeP (opN k) ((t, s) :: r)).1 = txL k ++ 40 :: (t ++ [41]) := by
          unfold nodeP
          rw [if_neg (show ¬ (opN k).k = 1 from by show ¬ k = 1; omega), if_neg (show ¬ (opN k).k = 2 from by show ¬ k = 2; omega), if_neg (show ¬ (opN k).k ≤ 4 from h4), if_pos (show (opN k).k ≤ 7 from h7)]; rfl
        rw [(stg_un ⟨hk.1, h7⟩).2 h4, e]; exact c
  · rw [ar_bin ⟨by omega, hk.2⟩] at ha ⊢
    match st, ha, ht, h with
    | (v, sv) :: (u, su) :: r, _, ht, h =>
      have lv : v.length ≤ 100000 := by have : v.length ≤ tot ((v, sv) :: (u, su) :: r) := tot_mem (p := (v, sv)) (List.mem_cons_self ..); omega
      have lu : u.length ≤ 100000 := by have : u.length ≤ tot ((v, sv) :: (u, su) :: r) := tot_mem (p := (u, su)) (List.mem_cons_of_mem _ (List.mem_cons_self ..)); omega
      have c := with2_any w0 B g cap (txL k) u v (stg k) su sv (pcs r) (stg_two ⟨by omega, hk.2⟩) lo lu lv w h
      have e : (nodeP (opN k) ((v, sv) :: (u, su) :: r)).1 = wi su (stg k) u ++ 32 :: (txL k ++ 32 :: wi sv (stg k + 1) v) := by
        unfold nodeP
        rw [if_neg (show ¬ (opN k).k = 1 from by show ¬ k = 1; omega), if_neg (show ¬ (opN k).k = 2 from by show ¬ k = 2; omega), if_neg (show ¬ (opN k).k ≤ 4 from by show ¬ k ≤ 4; omega), if_neg (show ¬ (opN k).k ≤ 7 from h7)]; rfl
      rw [e]; exact c
theorem only_frozen {B : Nat} {w w' : World} (h : Only B w w') {p : Addr} (hp : p.block < w.heap.size) (hn : p.block ≠ B) : w'.frozen? p = w.frozen? p := by
  unfold World.frozen?
  rw [h.block p.block hp hn]
set_option maxRecDepth 20000 in
set_option maxHeartbeats 3200000 in
theorem wri_op (w0 : World) (B : Nat) (k : Int) (hk : 3 ≤ k ∧ k ≤ 12) (st : List Tp) (ha : ar k ≤ st.length) (ht : tot st ≤ 100000) (w : World) (g cap : Nat) (h : Sg w0 B g cap (pcs st) w) :
    Calls Tryz.prog 19 #[.agg #[.int .i64 k, .int .i64 0, .complex .f64 0 0], .pointer (some ⟨B, 0, none⟩)] w fun e w' =>
      e = .returned (.agg #[.string ⟨(nodeP (opN k) st).1.toArray⟩, .int .i64 (stg k)]) ∧ Sg w0 B g cap (pcs (st.drop (ar k))) w' := by
  have cP := fun W => part_op k 0 0 0 W hk
  unfold opV at cP
  have t1 := ta_on
  have t2 := ta_os
  have t3 := ta_oo
  have cT := fun W hW => tw_any w0 B k hk st ha ht W g cap hW
  obtain ⟨tx, htx⟩ : ∃ tx, txt k = tx := ⟨_, rfl⟩
  obtain ⟨sg, hsg⟩ : ∃ sg, stg k = sg := ⟨_, rfl⟩
  rw [htx, hsg] at cP cT
  rw [hsg]
  obtain ⟨b, hb⟩ : ∃ b, (⟨(nodeP (opN k) st).1.toArray⟩ : ByteArray) = b := ⟨_, rfl⟩
  rw [hb] at cT ⊢
  have hlt0 : w0.heap.size ≤ w.heap.size := h.only.size
  have hgw := h.gl
  have hBw := lt_of_block h.hB
  have H := Lib.hid (show Sg w0 B g cap (pcs st) ((((w.alloc (.cells #[.int .i64 k, .int .i64 0, .complex .f64 0 0] 44)).alloc (.cells #[.string ⟨#[]⟩, .int .i64 0] 47)).alloc (.cells #[.int .i64 k, .int .i64 0, .complex .f64 0 0] 44)).alloc (.cells #[.string tx, .int .i64 sg] 77)).drew from ((((h.alloc _).alloc _).alloc _).alloc _).drew)
  have CT := Lib.hid cT
  clear hb htx hsg cT h ha ht
  go_enter Tryz.func19, Tryz.ntmps19
  go_wp2_with fail
  refine (cP _).mono ?_
  rintro e w1 ⟨rfl, rfl⟩
  go_wp2_with fail
  have hb4 : Below w.heap.size w ((((w.alloc (.cells #[.int .i64 k, .int .i64 0, .complex .f64 0 0] 44)).alloc (.cells #[.string ⟨#[]⟩, .int .i64 0] 47)).alloc (.cells #[.int .i64 k, .int .i64 0, .complex .f64 0 0] 44)).alloc (.cells #[.string tx, .int .i64 sg] 77)) := by go_grown
  have k0 : ((((w.alloc (.cells #[.int .i64 k, .int .i64 0, .complex .f64 0 0] 44)).alloc (.cells #[.string ⟨#[]⟩, .int .i64 0] 47)).alloc (.cells #[.int .i64 k, .int .i64 0, .complex .f64 0 0] 44)).alloc (.cells #[.string tx, .int .i64 sg] 77)).drew.cell? ⟨w.heap.size + 1, 0, none⟩ = some (.string ⟨#[]⟩) := by simp [go_sem]
  have k1 : ((((w.alloc (.cells #[.int .i64 k, .int .i64 0, .complex .f64 0 0] 44)).alloc (.cells #[.string ⟨#[]⟩, .int .i64 0] 47)).alloc (.cells #[.int .i64 k, .int .i64 0, .complex .f64 0 0] 44)).alloc (.cells #[.string tx, .int .i64 sg] 77)).drew.cell? ⟨w.heap.size + 1, 1, none⟩ = some (.int .i64 0) := by simp [go_sem]
  have o0 : ((((w.alloc (.cells #[.int .i64 k, .int .i64 0, .complex .f64 0 0] 44)).alloc (.cells #[.string ⟨#[]⟩, .int .i64 0] 47)).alloc (.cells #[.int .i64 k, .int .i64 0, .complex .f64 0 0] 44)).alloc (.cells #[.string tx, .int .i64 sg] 77)).drew.cell? ⟨w.heap.size + 1 + 1 + 1, 0, none⟩ = some (.string tx) := by simp [go_sem]
  have o1 : ((((w.alloc (.cells #[.int .i64 k, .int .i64 0, .complex .f64 0 0] 44)).alloc (.cells #[.string ⟨#[]⟩, .int .i64 0] 47)).alloc (.cells #[.int .i64 k, .int .i64 0, .complex .f64 0 0] 44)).alloc (.cells #[.string tx, .int .i64 sg] 77)).drew.cell? ⟨w.heap.size + 1 + 1 + 1, 1, none⟩ = some (.int .i64 sg) := by simp [go_sem]
  have hz : w.heap.size + 1 + 1 + 1 < ((((w.alloc (.cells #[.int .i64 k, .int .i64 0, .complex .f64 0 0] 44)).alloc (.cells #[.string ⟨#[]⟩, .int .i64 0] 47)).alloc (.cells #[.int .i64 k, .int .i64 0, .complex .f64 0 0] 44)).alloc (.cells #[.string tx, .int .i64 sg] 77)).drew.heap.size := by simp [go_sem]
  have kf0 : ((((w.alloc (.cells #[.int .i64 k, .int .i64 0, .complex .f64 0 0] 44)).alloc (.cells #[.string ⟨#[]⟩, .int .i64 0] 47)).alloc (.cells #[.int .i64 k, .int .i64 0, .complex .f64 0 0] 44)).alloc (.cells #[.string tx, .int .i64 sg] 77)).drew.frozen? ⟨w.heap.size + 1, 0, none⟩ = false := by simp [go_sem]
  have kf1 : ((((w.alloc (.cells #[.int .i64 k, .int .i64 0, .complex .f64 0 0] 44)).alloc (.cells #[.string ⟨#[]⟩, .int .i64 0] 47)).alloc (.cells #[.int .i64 k, .int .i64 0, .complex .f64 0 0] 44)).alloc (.cells #[.string tx, .int .i64 sg] 77)).drew.frozen? ⟨w.heap.size + 1, 1, none⟩ = false := by simp [go_sem]
  have CT2 : Calls Tryz.prog 37 #[.agg #[.string tx, .int .i64 sg], .pointer (some ⟨B, 0, none⟩)] ((((w.alloc (.cells #[.int .i64 k, .int .i64 0, .complex .f64 0 0] 44)).alloc (.cells #[.string ⟨#[]⟩, .int .i64 0] 47)).alloc (.cells #[.int .i64 k, .int .i64 0, .complex .f64 0 0] 44)).alloc (.cells #[.string tx, .int .i64 sg] 77)).drew fun e w5 => e = .returned (.string b) ∧ w5.cell? ⟨w.heap.size + 1 + 1 + 1, 1, none⟩ = some (.int .i64 sg) ∧ w5.cell? ⟨w.heap.size + 1, 0, none⟩ = some (.string ⟨#[]⟩) ∧ w5.cell? ⟨w.heap.size + 1, 1, none⟩ = some (.int .i64 0) ∧ w5.frozen? ⟨w.heap.size + 1, 0, none⟩ = false ∧ w5.frozen? ⟨w.heap.size + 1, 1, none⟩ = false ∧ Hid (Sg w0 B g cap (pcs (st.drop (ar k))) w5) := by
    refine (CT.out _ H.out).mono ?_
    rintro e w5 ⟨he, hsk, ho⟩
    have hz1 : w.heap.size + 1 < ((((w.alloc (.cells #[.int .i64 k, .int .i64 0, .complex .f64 0 0] 44)).alloc (.cells #[.string ⟨#[]⟩, .int .i64 0] 47)).alloc (.cells #[.int .i64 k, .int .i64 0, .complex .f64 0 0] 44)).alloc (.cells #[.string tx, .int .i64 sg] 77)).drew.heap.size := Nat.lt_of_le_of_lt (by omega) hz
    exact ⟨he, (ho.cell (p := ⟨w.heap.size + 1 + 1 + 1, 1, none⟩) hz (show w.heap.size + 1 + 1 + 1 ≠ B by omega)).trans o1, (ho.cell (p := ⟨w.heap.size + 1, 0, none⟩) hz1 (show w.heap.size + 1 ≠ B by omega)).trans k0, (ho.cell (p := ⟨w.heap.size + 1, 1, none⟩) hz1 (show w.heap.size + 1 ≠ B by omega)).trans k1, (only_frozen ho (p := ⟨w.heap.size + 1, 0, none⟩) hz1 (show w.heap.size + 1 ≠ B by omega)).trans kf0, (only_frozen ho (p := ⟨w.heap.size + 1, 1, none⟩) hz1 (show w.heap.size + 1 ≠ B by omega)).trans kf1, Lib.hid hsk⟩
  have C2 := Lib.hid CT2
  clear CT2
  go_region_with (go_at_call 37; refine C2.out.mono ?_; rintro e w5 ⟨rfl, c1, d0, d1, f0, f1, H5⟩)
  all_goals
    go_wp2_with fail
    refine bodyPost_ret (v := .agg #[.string b, .int .i64 sg]) ?_ rfl ⟨rfl, (H5.out.set _ _ _ (by omega) (by omega)).set _ _ _ (by omega) (by omega)⟩
    simp [results, Tryz.results19, go_sem, d0, d1]
end Go.Proofs.YtlngplohnknhjaaGreatDoor.Px
