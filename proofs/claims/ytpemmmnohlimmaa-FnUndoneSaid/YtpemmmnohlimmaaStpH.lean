/- The draws of the laws on steps; parts of a list; the laws' same. -/
import Derived.Test.YtpemmmnohlimmaaStpG
import Derived.Test.YtpemmmnohlimmaaSame64
namespace Go.Proofs.Ytpemmmnohlimmaa.Drw
open Go.ChangeShapes Go.WideShapes Go.ChangeAt Go.RowKit Go.Proofs.Ytpemmmnohlimmaa Go.Proofs.Ytpemmmnohlimmaa.Flt Go.Proofs.Ytpemmmnohlimmaa.Mth Go.Proofs.Ytpemmmnohlimmaa.Cpx Go.Proofs.Ytpemmmnohlimmaa.Trn Go.Proofs.Ytpemmmnohlimmaa.Stp
set_option linter.unusedVariables false
theorem owns_cap {w : World} {base e size k cp g : Nat} {xs : List Value} (h : w.ownsRow base e size (.slice (some ⟨g, 0, none⟩) k cp) k xs) : k ≤ cp := by
  rcases h.2 with ⟨h', _⟩ | ⟨g', cap', cur, h', _, hg, h3, h4⟩
  · simp at h'
  · simp only [Value.slice.injEq] at h'
    obtain ⟨_, _, rfl⟩ := h'
    exact h3
/-- steps and a number -/
def DrawS (Q : Stp → Prop) (w : World) (e : Ending) (w' : World) : Prop :=
  ∃ (g cp : Nat) (xs : List Stp) (x y : Nat), (xs.length ≤ 5 ∧ wfS xs ∧ ∀ s ∈ xs, Q s) ∧ (x < 18446744073709551616 ∧ y < 18446744073709551616) ∧ e = .returned (.tuple #[.slice (some ⟨g, 0, none⟩) xs.length cp, .complex .f64 x y]) ∧ CellsS w' g 0 xs ∧ g < w'.heap.size ∧ xs.length ≤ cp ∧ Below w.heap.size w w'
theorem drawSteps (a : Option Addr) (len cap : Nat) (zs : List Int) (w : World) (hr : IsRow .u8 w a len cap zs) :
    Calls Try.prog 7 #[.slice a len cap] w (DrawS (fun s => s.ok = true) w) := by
  go_enter Try.func7, Try.ntmps7
  go_wp2_with fail
  refine (new_any a len cap zs _ hr).mono ?_
  rintro e w1 ⟨rfl, hc, hb⟩
  have Hb := Lib.hid hb
  clear hb hr
  go_wp2_with fail
  refine (steps_any _ _ _ hc).mono ?_
  rintro e w2 ⟨g, cp, xs, hx, rfl, hown, hc2, ho2⟩
  have Hx := Lib.hid (And.intro hx (owns_cap hown))
  obtain ⟨hcell, hg, hgb⟩ := hown.cells rfl
  have hcl := hc.lt
  have H2 := Lib.hid (And.intro hcell (And.intro hc2 (Hb.out.trans (ho2.below (Nat.le_refl _) Hb.out.size))))
  have Hown := Lib.hid (And.intro hown (show w.heap.size < w1.heap.size from hcl))
  clear hcell hown hc ho2 hx hc2 hcl
  obtain ⟨n, hn⟩ : ∃ n, xs.length = n := ⟨_, rfl⟩
  rw [hn]
  go_wp2_with fail
  refine (number_any _ _ _ H2.out.2.1).mono ?_
  rintro e w3 ⟨x, y, wxy, rfl, hc3, ho3⟩
  have H3 := Lib.hid (show CellsS w3 g 0 xs ∧ g < w3.heap.size ∧ Below w.heap.size w w3 from ⟨((show OwnS w1.heap.size w3 _ _ _ from owns_only Hown.out.1 ho3 Hown.out.2)).cells rfl |>.1, Nat.lt_of_lt_of_le hg ho3.size, H2.out.2.2.trans (ho3.below (Nat.le_refl _) H2.out.2.2.size)⟩)
  have Hw := Lib.hid wxy
  clear hc3 ho3 wxy
  go_wp2_with fail
  go_ret2
  subst hn
  exact ⟨g, cp, xs, x, y, Hx.out.1, Hw.out, rfl, H3.out.1, H3.out.2.1, Hx.out.2, H3.out.2.2⟩
theorem drawExact (a : Option Addr) (len cap : Nat) (zs : List Int) (w : World) (hr : IsRow .u8 w a len cap zs) :
    Calls Try.prog 13 #[.slice a len cap] w (DrawS exS w) := by
  go_enter Try.func13, Try.ntmps13
  go_wp2_with fail
  refine (new_any a len cap zs _ hr).mono ?_
  rintro e w1 ⟨rfl, hc, hb⟩
  have Hb := Lib.hid hb
  clear hb hr
  go_wp2_with fail
  refine (exact_any _ _ _ hc).mono ?_
  rintro e w2 ⟨g, cp, xs, hx, rfl, hown, hc2, ho2⟩
  have Hx := Lib.hid (And.intro hx (owns_cap hown))
  obtain ⟨hcell, hg, hgb⟩ := hown.cells rfl
  have hcl := hc.lt
  have H2 := Lib.hid (And.intro hcell (And.intro hc2 (Hb.out.trans (ho2.below (Nat.le_refl _) Hb.out.size))))
  have Hown := Lib.hid (And.intro hown (show w.heap.size < w1.heap.size from hcl))
  clear hcell hown hc ho2 hx hc2 hcl
  obtain ⟨n, hn⟩ : ∃ n, xs.length = n := ⟨_, rfl⟩
  rw [hn]
  go_wp2_with fail
  refine (number_any _ _ _ H2.out.2.1).mono ?_
  rintro e w3 ⟨x, y, wxy, rfl, hc3, ho3⟩
  have H3 := Lib.hid (show CellsS w3 g 0 xs ∧ g < w3.heap.size ∧ Below w.heap.size w w3 from ⟨((show OwnS w1.heap.size w3 _ _ _ from owns_only Hown.out.1 ho3 Hown.out.2)).cells rfl |>.1, Nat.lt_of_lt_of_le hg ho3.size, H2.out.2.2.trans (ho3.below (Nat.le_refl _) H2.out.2.2.size)⟩)
  have Hw := Lib.hid wxy
  clear hc3 ho3 wxy
  go_wp2_with fail
  go_ret2
  subst hn
  exact ⟨g, cp, xs, x, y, Hx.out.1, Hw.out, rfl, H3.out.1, H3.out.2.1, Hx.out.2, H3.out.2.2⟩
/-! parts of a list -/
theorem slice_to (g n cp k : Nat) (h : k ≤ cp) (w : World) :
    (Instr.slice 24 (.slice (some ⟨g, 0, none⟩) n cp) none (some (.int .i64 (k : Int))) none).run Try.prog w = .ok (.slice (some ⟨g, 0, none⟩) k cp) w := by
  obtain ⟨i0, hi, hz0, hz1, hz2⟩ := info_partsS
  have h0 : (0 : Int) ≤ k := by omega
  have h1 : (k : Int) ≤ cp := by omega
  simp [Instr.slice, run_underlying Try.underlying24, Instr.sliceBounds, run_sliceBound, sizeOf, typeInfo, hi, h0, h1, Addr.add]
theorem slice_from (g n cp k : Nat) (h : k ≤ n) (hn : n ≤ cp) :
    ∃ off, (0 < n - k → off = k * 4) ∧ ∀ w, (Instr.slice 24 (.slice (some ⟨g, 0, none⟩) n cp) (some (.int .i64 (k : Int))) none none).run Try.prog w = .ok (.slice (some ⟨g, off, none⟩) (n - k) (cp - k)) w := by
  obtain ⟨i0, hi, hz0, hz1, hz2⟩ := info_partsS
  have h0 : (0 : Int) ≤ k := by omega
  have h1 : (k : Int) ≤ n := by omega
  have h2 : (n : Int) ≤ cp := by omega
  simp only [Instr.slice, Instr.sliceBounds]
  simp [run_underlying Try.underlying24, run_sliceBound, sizeOf, typeInfo, hi, h0, h1, Addr.add, hz1]
  by_cases hk : cp = k
  · exact ⟨0, fun h' => by omega, by rw [if_pos hk]⟩
  · rw [if_neg hk]
    by_cases h4 : k * 4 = 0
    · exact ⟨0, fun _ => h4.symm, by rw [if_pos h4]⟩
    · exact ⟨k * 4, fun _ => rfl, by rw [if_neg h4]⟩
theorem CellsS.take {w : World} {g off : Nat} {xs : List Stp} (h : CellsS w g off xs) (k : Nat) : CellsS w g off (xs.take k) := fun i s hs => h i s (by
  rw [List.getElem?_take] at hs
  split at hs
  · exact hs
  · cases hs)
theorem CellsS.drop {w : World} {g : Nat} {xs : List Stp} (h : CellsS w g 0 xs) (k : Nat) : CellsS w g (k * 4) (xs.drop k) := fun i s hs => by
  rw [List.getElem?_drop] at hs
  have := h (k + i) s hs
  rw [show 0 + (k + i) * 4 = k * 4 + i * 4 by omega] at this
  exact this
theorem wfS_take {xs : List Stp} (h : wfS xs) (k : Nat) : wfS (xs.take k) := fun s hs => h s (List.mem_of_mem_take hs)
theorem wfS_drop {xs : List Stp} (h : wfS xs) (k : Nat) : wfS (xs.drop k) := fun s hs => h s (List.mem_of_mem_drop hs)
/-- same: of a number and itself -/
theorem same_any (a b : Nat) (w : World) (ha : a < 18446744073709551616) (hb : b < 18446744073709551616) :
    Calls Try.prog 12 #[.complex .f64 a b, .complex .f64 a b] w fun e w' => e = .returned (.bool true) ∧ w' = w := by
  have ca := fun W => same64_any a a W ha ha
  have cb := fun W => same64_any b b W hb hb
  rw [sameW_refl] at ca
  rw [sameW_refl] at cb
  clear ha hb
  go_enter Try.func12, Try.ntmps12
  go_wp2_with fail
  refine (ca _).mono ?_
  rintro e w' ⟨rfl, rfl⟩
  go_wp2_with fail
  refine (cb _).mono ?_
  rintro e w' ⟨rfl, rfl⟩
  go_wp2_with fail
  go_ret
  exact ⟨rfl, rfl⟩
end Go.Proofs.Ytpemmmnohlimmaa.Drw
