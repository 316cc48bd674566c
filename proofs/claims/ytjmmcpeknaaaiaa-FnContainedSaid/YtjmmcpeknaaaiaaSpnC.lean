/- combined: what two valid spans are reckoned to, in the program. -/
import Derived.Test.YtjmmcpeknaaaiaaSpnB
namespace Go.Proofs.Ytjmmcpeknaaaiaa.Spn
open Go.ChangeShapes Go.WideShapes Go.ChangeAt Go.RowKit Go.Deep Go.Proofs.Ytjmmcpeknaaaiaa Go.Proofs.Ytjmmcpeknaaaiaa.Flt Go.Proofs.Ytjmmcpeknaaaiaa.Mth
open Ieee (single double)
set_option linter.unusedVariables false
set_option linter.unusedSimpArgs false
set_option maxRecDepth 20000
set_option maxHeartbeats 4000000 in
theorem combined_any (g : FuncId) (hcf : ∀ args w, (callFunc g args).run Try.prog w = .ok (.enter g args) w) (a b c d p q : Nat) (ok : Bool) (w : World)
    (hcall : leB a b = true → leB c d = true → ∀ w, Calls Try.prog g #[ivv a b true, ivv c d true] w fun e w' => e = .returned (ivv p q ok) ∧ Below w.heap.size w w') :
    Calls Try.prog 72 #[pv a b, pv c d, .func (.func g) #[] #[]] w fun e w' => e = .returned (.tuple #[pv (if (leB a b && leB c d && ok) = true then p else 0) (if (leB a b && leB c d && ok) = true then q else 0), .bool (leB a b && leB c d && ok)]) ∧ Below w.heap.size w w' := by
  have h1 := fun w => inside_any a b w
  have h2 := fun w => inside_any c d w
  have ho := fun w => outside_any p q ok w
  have Hc := Lib.hid hcall
  clear hcall
  generalize leB a b = u at *
  generalize leB c d = v at *
  unfold ivv at h1 h2 ho
  unfold pv at h1 h2 ho ⊢
  go_enter Try.func72, Try.ntmps72
  go_wp2_with fail
  obtain ⟨w0, hw0⟩ : ∃ w0, w0 = ((w.alloc (.cells #[.float .f32 a, .float .f32 b] 32)).alloc (.cells #[.float .f32 c, .float .f32 d] 32)).alloc (.cells #[.float .f32 0, .float .f32 0] 32) := ⟨_, rfl⟩
  have Hb0 := Lib.hid (show Below w.heap.size w w0 by rw [hw0]; go_grown)
  have Hr0 := Lib.hid (show Blk w0 (w.heap.size + 1 + 1) #[.float .f32 0, .float .f32 0] 32 by rw [hw0]; exact Blk.new (by simp))
  have b0 : w0.cell? ⟨w.heap.size, 0, none⟩ = some (.float .f32 a) := by rw [hw0]; go_cell
  have b1 : w0.cell? ⟨w.heap.size, 1, none⟩ = some (.float .f32 b) := by rw [hw0]; go_cell
  have b2 : w0.cell? ⟨w.heap.size + 1, 0, none⟩ = some (.float .f32 c) := by rw [hw0]; go_cell
  have b3 : w0.cell? ⟨w.heap.size + 1, 1, none⟩ = some (.float .f32 d) := by rw [hw0]; go_cell
  rw [← hw0]
  clear hw0
  rename_i K hK
  have hQ : ∀ r s w1, (Below w.heap.size w w1 ∧ Blk w1 r #[.float .f32 a, .float .f32 b, .bool u] 76 ∧ Blk w1 s #[.float .f32 c, .float .f32 d, .bool v] 76 ∧ Blk w1 (w.heap.size + 1 + 1) #[.float .f32 0, .float .f32 0] 32) → K
      { tmps := #[.agg #[.float .f32 a, .float .f32 b], .agg #[.float .f32 c, .float .f32 d], .func (.func g) #[] #[], .pointer (some ⟨w.heap.size, 0, none⟩), .pointer (some ⟨w.heap.size + 1, 0, none⟩), undef, .pointer (some ⟨w.heap.size + 1 + 1, 0, none⟩), .bool false,
          .pointer (some ⟨r, 0, none⟩), .pointer (some ⟨s, 0, none⟩), .agg #[.float .f32 a, .float .f32 b], .agg #[.float .f32 a, .float .f32 b, .bool u], .agg #[.float .f32 c, .float .f32 d], .agg #[.float .f32 c, .float .f32 d, .bool v],
          undef, undef, undef, undef, undef, undef, undef, undef, undef, undef, undef, undef, undef, undef, undef, undef], defers := [] } w1 := by
    rintro r s w1 ⟨hb1, hr, hs, ht⟩
    have e0 := hr.cell 0 rfl
    have e1 := hr.cell 1 rfl
    have e2 := hr.cell 2 rfl
    have f0 := hs.cell 0 rfl
    have f1 := hs.cell 1 rfl
    have f2 := hs.cell 2 rfl
    have t0 := ht.cell 0 rfl
    have t1 := ht.cell 1 rfl
    have z0 := ht.free 0
    have z1 := ht.free 1
    have Hb1 := Lib.hid hb1
    have Ht := Lib.hid ht
    clear hb1 hr hs ht b0 b1 b2 b3
    apply hK
    cases u
    · go_wp2_with fail
      obtain ⟨d0, d1, _⟩ := Ht.out.two 0 0
      refine bodyPost_ret (by simp [results, Try.results72, go_sem, d0, d1]; try rfl) rfl ?_
      refine ⟨rfl, ?_⟩
      exact (Hb1.out.setCell (by simp; omega) _).setCell (by simp; omega) _
    cases v
    · go_wp2_with fail
      obtain ⟨d0, d1, _⟩ := Ht.out.two 0 0
      refine bodyPost_ret (by simp [results, Try.results72, go_sem, d0, d1]; try rfl) rfl ?_
      refine ⟨rfl, ?_⟩
      exact (Hb1.out.setCell (by simp; omega) _).setCell (by simp; omega) _
    · go_wp2_with fail
      refine (Hc.out (by first | trivial | rfl) (by first | trivial | rfl) _).mono ?_
      unfold ivv
      rintro e w2 ⟨rfl, hb2⟩
      have Ht2 := Lib.hid (Ht.out.keep hb2)
      have Hb2 := Lib.hid (Hb1.out.trans (hb2.mono Hb1.out.size))
      clear hb2 t0 t1 z0 z1 e0 e1 e2 f0 f1 f2
      go_wp2_with fail
      refine (ho _).mono ?_
      rintro e w3 ⟨rfl, hw3⟩
      have Ht3 := Lib.hid (show Blk w3 (w.heap.size + 1 + 1) #[.float .f32 0, .float .f32 0] 32 by rw [hw3]; exact (Ht2.out.alloc _).alloc _)
      have Hb3 := Lib.hid (show Below w.heap.size w w3 by rw [hw3]; exact Hb2.out.trans (Below.mono (show Below w2.heap.size w2 _ by go_grown) Hb2.out.size))
      have t0 := Ht3.out.cell 0 rfl
      have t1 := Ht3.out.cell 1 rfl
      have z0 := Ht3.out.free 0
      have z1 := Ht3.out.free 1
      clear hw3
      cases ok
      · go_wp2_with fail
        obtain ⟨d0, d1, _⟩ := Ht3.out.two 0 0
        refine bodyPost_ret (by simp [results, Try.results72, go_sem, d0, d1]; try rfl) rfl ?_
        refine ⟨rfl, ?_⟩
        exact (Hb3.out.setCell (by simp; omega) _).setCell (by simp; omega) _
      · go_wp2_with fail
        obtain ⟨d0, d1, _⟩ := Ht3.out.two p q
        refine bodyPost_ret (by simp [results, Try.results72, go_sem, d0, d1]; try rfl) rfl ?_
        refine ⟨rfl, ?_⟩
        exact (Hb3.out.setCell (by simp; omega) _).setCell (by simp; omega) _
  have HQ := Lib.hid hQ
  clear hQ
  have HP0 := Lib.hid (show Par w.heap.size (w.heap.size + 1) a b c d w0 from ⟨b0, b1, b2, b3⟩)
  have n0 := World.new_ne w0 _ b0
  have n2 := World.new_ne w0 _ b2
  go_region_held (fun w' => w'.cell? ⟨w.heap.size, 0, none⟩ = some (.float .f32 a) ∧ w'.cell? ⟨w.heap.size, 1, none⟩ = some (.float .f32 b) ∧ w'.cell? ⟨w.heap.size + 1, 0, none⟩ = some (.float .f32 c) ∧ w'.cell? ⟨w.heap.size + 1, 1, none⟩ = some (.float .f32 d)) ((refine Par.out ?_; (repeat (first | (with_reducible refine Par.alloc ?_ _) | (with_reducible refine Par.drew ?_) | (with_reducible refine Par.setCell ?_ ?_ ?_ _))); all_goals first | exact HP0.out | omega | (simp; omega))) (first | (go_at_call 71; (with_reducible refine (h1 _).mono ?_); rintro e w' ⟨rfl, rfl⟩) | (go_at_call 71; (with_reducible refine (h2 _).mono ?_); rintro e w' ⟨rfl, rfl⟩))
  all_goals
    refine HQ.out _ _ _ ⟨?_, ?_, ?_, ?_⟩
    · exact Hb0.out.trans (Below.mono (show Below w0.heap.size w0 _ by go_grown) Hb0.out.size)
    all_goals
      (repeat (first | (with_reducible refine Blk.drew ?_) | (refine Blk.new ?_; (simp; done)) | (with_reducible refine Blk.alloc ?_ _)))
      first | done | exact Hr0.out
end Go.Proofs.Ytjmmcpeknaaaiaa.Spn
