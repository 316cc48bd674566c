/- The program's parser: digits, the text of a number ahead, slots. -/
import Derived.Test.YtlngplohnknhjaaGreatDoorKExpPb
import Derived.Test.YtlngplohnknhjaaGreatDoorPkB
import Derived.Lib.SlTrimSet
import Derived.Shelf.Strings.SlTrimAscii
namespace Go.Proofs.YtlngplohnknhjaaGreatDoor.Px
open Go.ChangeShapes Go.WideShapes Go.ChangeAt Go.RowKit Go.Proofs.YtlngplohnknhjaaGreatDoor Go.Proofs.YtlngplohnknhjaaGreatDoor.Flt Go.Proofs.YtlngplohnknhjaaGreatDoor.Ex Go.Proofs.YtlngplohnknhjaaGreatDoor.Cpx
set_option linter.unusedVariables false
set_option maxRecDepth 20000 in
theorem set_isD (c : UInt8) : ([48, 49, 50, 51, 52, 53, 54, 55, 56, 57] : List UInt8).contains c = isD c := by
  have h : ∀ n : Fin 256, ([48, 49, 50, 51, 52, 53, 54, 55, 56, 57] : List UInt8).contains (UInt8.ofNat n.val) = isD (UInt8.ofNat n.val) := by decide
  have := h ⟨c.toNat, c.toNat_lt⟩
  simpa using this
theorem drop_tw (p : UInt8 → Bool) : ∀ l : Tx, l.dropWhile p = l.drop (l.takeWhile p).length
  | [] => rfl
  | c :: r => by
    rw [List.dropWhile_cons, List.takeWhile_cons]
    cases p c
    · rfl
    · simpa using drop_tw p r
theorem tw_le (p : UInt8 → Bool) : ∀ l : Tx, (l.takeWhile p).length ≤ l.length
  | [] => Nat.le_refl _
  | c :: r => by
    rw [List.takeWhile_cons]
    cases p c
    · simp
    · have := tw_le p r; simp; exact this
theorem dg_le (l : Tx) : dg l ≤ l.length := tw_le _ l
theorem trim_dg (l : Tx) : Lib.trimLeftS l [48, 49, 50, 51, 52, 53, 54, 55, 56, 57] = l.drop (dg l) := by
  unfold Lib.trimLeftS dg
  rw [show (fun x => ([48, 49, 50, 51, 52, 53, 54, 55, 56, 57] : List UInt8).contains x) = isD from funext set_isD, drop_tw]
theorem zero_set : ∀ w, (zeroValue 116).run Tryz.prog w = .ok (.agg (Array.replicate 256 (.bool false))) w := by
  have h : (Tryz.prog.info? 116).map (·.zero) = some (some (.agg (Array.replicate 256 (.bool false)))) := by kernel_rfl
  intro w
  cases hi : Tryz.prog.info? 116 with
  | none => rw [hi] at h; cases h
  | some i =>
    rw [hi] at h
    simp only [Option.map_some, Option.some.injEq] at h
    simp [zeroValue, typeInfo, hi, h]
theorem size_tx (l : Tx) : (⟨l.toArray⟩ : ByteArray).size = l.length := by simp [ByteArray.size]
theorem ext_tx (l : Tx) (a b : Nat) : (⟨l.toArray⟩ : ByteArray).extract a b = ⟨((l.drop a).take (b - a)).toArray⟩ := by
  apply ByteArray.ext
  apply Array.toList_inj.1
  rw [Lib.extract_data]
theorem trim_any (l : Tx) (hl : l.length ≤ 600) (w : World) : Calls Tryz.prog 64 #[.string ⟨l.toArray⟩, .string ⟨#[48, 49, 50, 51, 52, 53, 54, 55, 56, 57]⟩] w fun e w' => e = .returned (.string ⟨(l.drop (dg l)).toArray⟩) ∧ Below w.heap.size w w' := by
  by_cases h0 : l.length = 0
  · obtain rfl : l = [] := List.length_eq_zero_iff.1 h0
    refine (Any.strings_TrimLeft_empty Tryz.lays161 ⟨([] : Tx).toArray⟩ ⟨#[48, 49, 50, 51, 52, 53, 54, 55, 56, 57]⟩ w (.inl rfl)).mono ?_
    rintro e w' ⟨rfl, rfl⟩
    exact ⟨rfl, Below.refl _ _⟩
  · refine (Any.strings_TrimLeft_set Tryz.lays161 zero_set (by kernel_rfl) ⟨l.toArray⟩ ⟨#[48, 49, 50, 51, 52, 53, 54, 55, 56, 57]⟩ w (by decide) (by rw [size_tx]; omega) (by decide) (fun j b hb => ?_)).mono ?_
    · have hm : b ∈ ([48, 49, 50, 51, 52, 53, 54, 55, 56, 57] : List UInt8) := List.mem_of_getElem? hb
      simp at hm
      rcases hm with rfl | rfl | rfl | rfl | rfl | rfl | rfl | rfl | rfl | rfl <;> decide
    · rintro e w' ⟨rfl, rfl⟩
      refine ⟨?_, ((Below.refl _ _).alloc (Nat.le_refl _) _).alloc (by rw [World.size_alloc]; omega) _⟩
      have e1 : (⟨l.toArray⟩ : ByteArray).data.toList = l := List.toList_toArray
      rw [e1]
      rw [show (⟨#[48, 49, 50, 51, 52, 53, 54, 55, 56, 57]⟩ : ByteArray).data.toList = [48, 49, 50, 51, 52, 53, 54, 55, 56, 57] from rfl, trim_dg]
theorem count_any (l : Tx) (hl : l.length ≤ 600) (w : World) : Calls Tryz.prog 115 #[.string ⟨l.toArray⟩] w fun e w' => e = .returned (.int .i64 (dg l : Int)) ∧ Below w.heap.size w w' := by
  have c := fun W => trim_any l hl W
  have h1 := size_tx l
  have h2 := size_tx (l.drop (dg l))
  rw [List.length_drop] at h2
  have h3 := dg_le l
  obtain ⟨d, hd⟩ : ∃ d, dg l = d := ⟨_, rfl⟩
  rw [hd] at h2 h3 c ⊢
  obtain ⟨q, hq⟩ : ∃ q, (⟨(l.drop d).toArray⟩ : ByteArray) = q := ⟨_, rfl⟩
  obtain ⟨s, hs⟩ : ∃ s, (⟨l.toArray⟩ : ByteArray) = s := ⟨_, rfl⟩
  rw [hq] at h2 c
  rw [hs] at h1 c ⊢
  have hw : IntKind.i64.wrap ((s.size : Int) - (q.size : Int)) = (d : Int) := by rw [IntKind.wrap_i64]; omega
  have He := (show (l.length : Int) - ((l.length - d : Nat) : Int) = (d : Int) by omega)
  clear hq hs
  go_enter Tryz.func115, Tryz.ntmps115
  go_wp2_with fail
  refine (c _).mono ?_
  rintro e w1 ⟨rfl, hb⟩
  have Hb := Lib.hid hb
  clear hb
  go_wp2_with fail
  go_ret
  exact ⟨rfl, Hb.out⟩
theorem tp_le (l p : Tx) : (Lib.trimPrefix l p).length ≤ l.length := by
  unfold Lib.trimPrefix
  split
  · rw [List.length_drop]; omega
  · exact Nat.le_refl _
set_option maxRecDepth 20000 in
set_option maxHeartbeats 1600000 in
theorem ahead_any (l : Tx) (hl : l.length ≤ 600) (w : World) : Calls Tryz.prog 97 #[.string ⟨l.toArray⟩] w fun e w' => e = .returned (.string ⟨(numA l).toArray⟩) ∧ Below w.heap.size w w' := by
  have cA := fun W => count_any l hl W
  have hm := dg_le l
  have hA : numA l = if dg l = 0 ∨ Lib.hasPrefix (l.drop (dg l)) [112] = false ∨ dg (Lib.trimPrefix (Lib.trimPrefix (l.drop (dg l)) [112]) [45]) = 0 then l.take (dg l) else l.take (l.length - (Lib.trimPrefix (Lib.trimPrefix (l.drop (dg l)) [112]) [45]).length + dg (Lib.trimPrefix (Lib.trimPrefix (l.drop (dg l)) [112]) [45])) := rfl
  obtain ⟨m, em⟩ : ∃ m, dg l = m := ⟨_, rfl⟩
  rw [em] at cA hm hA
  have x1 : (⟨l.toArray⟩ : ByteArray).extract m l.length = ⟨(l.drop m).toArray⟩ := by
    rw [ext_tx, List.take_of_length_le (by rw [List.length_drop]; exact Nat.le_refl _)]
  have x2 : (⟨l.toArray⟩ : ByteArray).extract 0 m = ⟨(l.take m).toArray⟩ := by rw [ext_tx]; rfl
  have cB := fun W => cut_any (l.drop m) [112] W
  have hlq : (l.drop m).length ≤ l.length := by rw [List.length_drop]; omega
  obtain ⟨q, eq⟩ : ∃ q, l.drop m = q := ⟨_, rfl⟩
  rw [eq] at x1 cB hA hlq
  have hlb := tp_le q [112]
  obtain ⟨b, eb⟩ : ∃ b, Lib.trimPrefix q [112] = b := ⟨_, rfl⟩
  obtain ⟨fo, ef⟩ : ∃ fo, Lib.hasPrefix q [112] = fo := ⟨_, rfl⟩
  rw [eb] at cB hA hlb
  rw [ef] at cB hA
  have cC := fun W => Tryz.strings_TrimPrefix ⟨b.toArray⟩ ⟨#[45]⟩ W
  rw [show (⟨b.toArray⟩ : ByteArray).data.toList = b from List.toList_toArray, show (⟨#[45]⟩ : ByteArray).data.toList = [45] from rfl] at cC
  have hld := tp_le b [45]
  obtain ⟨d, ed⟩ : ∃ d, Lib.trimPrefix b [45] = d := ⟨_, rfl⟩
  rw [ed] at cC hA hld
  have cD := fun W => count_any d (by omega) W
  have hx := dg_le d
  obtain ⟨x, ex⟩ : ∃ x, dg d = x := ⟨_, rfl⟩
  rw [ex] at cD hA hx
  have x3 : (⟨l.toArray⟩ : ByteArray).extract 0 (l.length - d.length + x) = ⟨(l.take (l.length - d.length + x)).toArray⟩ := by rw [ext_tx]; rfl
  have s1 := size_tx l
  have s2 := size_tx d
  obtain ⟨L, eL⟩ : ∃ L, l.length = L := ⟨_, rfl⟩
  obtain ⟨D, eD⟩ : ∃ D, d.length = D := ⟨_, rfl⟩
  rw [eL] at s1 x1 x3 hm hlq hA hl
  rw [eD] at s2 x3 hx hA hld
  have hw1 : IntKind.i64.wrap ((L : Int) - (D : Int)) = ((L - D : Nat) : Int) := by rw [IntKind.wrap_i64]; omega
  have hw2 : IntKind.i64.wrap (((L - D : Nat) : Int) + (x : Int)) = ((L - D + x : Nat) : Int) := by rw [IntKind.wrap_i64]; omega
  obtain ⟨an, ean⟩ : ∃ an, numA l = an := ⟨_, rfl⟩
  rw [ean] at hA ⊢
  have HA := Lib.hid hA
  clear em eq eb ef ed ex hA ean
  go_enter Tryz.func97, Tryz.ntmps97
  go_wp2_with fail
  refine (cA _).mono ?_
  rintro e w1 ⟨rfl, hb1⟩
  go_wp2_with fail
  refine (cB _).mono ?_
  rintro e w2 ⟨rfl, hw⟩
  subst w2
  go_wp2_with fail
  refine (cC _).mono ?_
  rintro e w2 ⟨rfl, hw⟩
  subst w2
  go_wp2_with fail
  refine (cD _).mono ?_
  rintro e w2 ⟨rfl, hb2⟩
  have Hb := Lib.hid (Below.trans hb1 (Below.mono hb2 hb1.size))
  clear hb1 hb2
  by_cases m0 : m = 0
  · have b0 : ((m : Int) == 0) = true := by rw [beq_iff_eq]; omega
    have ea := HA.out.trans (if_pos (.inl m0))
    have Hea := Lib.hid ea
    clear ea m0
    go_wp2_with fail
    go_ret
    rw [Hea.out]
    exact ⟨rfl, Hb.out⟩
  · have b0 : ((m : Int) == 0) = false := by rw [beq_eq_false_iff_ne]; omega
    cases fo
    · have ea := HA.out.trans (if_pos (.inr (.inl rfl)))
      have Hea := Lib.hid ea
      clear ea m0
      go_wp2_with fail
      go_ret
      rw [Hea.out]
      exact ⟨rfl, Hb.out⟩
    · by_cases x0 : x = 0
      · have b1 : ((x : Int) == 0) = true := by rw [beq_iff_eq]; omega
        have ea := HA.out.trans (if_pos (.inr (.inr x0)))
        have Hea := Lib.hid ea
        clear ea m0 x0
        go_wp2_with fail
        go_ret
        rw [Hea.out]
        exact ⟨rfl, Hb.out⟩
      · have b1 : ((x : Int) == 0) = false := by rw [beq_eq_false_iff_ne]; omega
        have ea := HA.out.trans (if_neg (by simp [m0, x0]))
        have Hea := Lib.hid ea
        clear ea m0 x0
        go_wp2_with fail
        go_ret
        rw [Hea.out, ← x3]
        exact ⟨rfl, Hb.out⟩
theorem Ps.txt {w0 : World} {B : Nat} {xs : List Nd} {l : Tx} {w : World} (h : Ps w0 B xs l w) (r : Tx) (hr : r.length ≤ 600) : Ps w0 B xs r (w.setCell ⟨B, 1, none⟩ (.string ⟨r.toArray⟩)) := by
  obtain ⟨v, hR, ho⟩ := h.r
  exact ⟨h.only.setCell _ _, ⟨v, block_setCell hR _, by
    have hn : Value.ownBlock v ≠ some B := fun e => by
      have := (World.ownsRow.lt ho B e).1
      have := h.lt
      omega
    exact ownsRow_setCell_other (a := ⟨B, 1, none⟩) ho hn _⟩, h.lt, hr⟩
theorem Ps.cell1 {w0 : World} {B : Nat} {xs : List Nd} {l : Tx} {w : World} (h : Ps w0 B xs l w) : w.cell? ⟨B, 1, none⟩ = some (.string ⟨l.toArray⟩) := by
  obtain ⟨v, hR, ho⟩ := h.r
  simp [World.cell?, hR]
theorem Ps.froz1 {w0 : World} {B : Nat} {xs : List Nd} {l : Tx} {w : World} (h : Ps w0 B xs l w) : w.frozen? ⟨B, 1, none⟩ = false := by
  obtain ⟨v, hR, ho⟩ := h.r
  simp [World.frozen?, hR]
theorem one_scan {c : UInt8} {r : Tx} (hc : isD c = true) {n : Nat} (h : Dec.Stop ⟨(c :: r).toArray⟩ 1 n) : n = 1 ∧ Dec.vl ⟨(c :: r).toArray⟩ 0 1 = c.toNat - 48 := by
  have e0 : Dec.byt ⟨(c :: r).toArray⟩ 0 = c.toNat := by simp [Dec.byt]
  refine ⟨?_, by show 10 * 0 + (Dec.byt ⟨(c :: r).toArray⟩ 0 - 48) = _; rw [e0]; omega⟩
  obtain ⟨h1, h2, h3, h4⟩ := h
  have hsz := size_tx (c :: r)
  rw [List.length_cons] at hsz
  rcases Nat.eq_zero_or_pos n with h0 | h0
  · subst h0
    rcases h4 with h4 | h4 | h4
    · omega
    · omega
    · rw [e0] at h4
      exfalso
      apply h4
      unfold isD at hc
      simp at hc
      exact hc
  · omega
set_option maxRecDepth 20000 in
set_option maxHeartbeats 1600000 in
theorem slot_any (w0 : World) (B : Nat) (xs : List Nd) (c : UInt8) (r : Tx) (w : World) (h : Ps w0 B xs (c :: r) w) (hc : isD c = true) (hx : xs.length < 60) :
    Calls Tryz.prog 78 #[.pointer (some ⟨B, 0, none⟩)] w fun e w' => e = .returned (.tuple #[]) ∧ Ps w0 B (xs ++ [⟨2, ((c.toNat - 48 : Nat) : Int), 0, 0⟩]) r w' := by
  have c1 := h.cell1
  have f1 := h.froz1
  have hl := h.len
  rw [List.length_cons] at hl
  have cS := fun W => Dec.scan_any ⟨(c :: r).toArray⟩ 1 (by decide) (by rw [size_tx, List.length_cons]; omega) W
  have hsz : (⟨(c :: r).toArray⟩ : ByteArray).size = r.length + 1 := by rw [size_tx, List.length_cons]
  have x1 : (⟨(c :: r).toArray⟩ : ByteArray).extract 1 (r.length + 1) = ⟨r.toArray⟩ := by
    rw [ext_tx, show (c :: r).drop 1 = r from rfl, List.take_of_length_le (by omega)]
  have HP := Lib.hid (put_any w0 B xs r ⟨2, ((c.toNat - 48 : Nat) : Int), 0, 0⟩ _ (h.txt r (by omega)) hx)
  have hS := fun n => one_scan (r := r) hc (n := n)
  obtain ⟨v, ev⟩ : ∃ v, ((c.toNat - 48 : Nat) : Int) = v := ⟨_, rfl⟩
  have Hv := Lib.hid ev
  rw [ev] at HP ⊢
  obtain ⟨s, es⟩ : ∃ s, (⟨(c :: r).toArray⟩ : ByteArray) = s := ⟨_, rfl⟩
  rw [es] at c1 cS hsz x1
  simp only [es] at hS
  have HS := Lib.hid hS
  have cD := fun W => demand_any W
  have e1 : ((1 : Int) == 1) = true := rfl
  clear es ev h hc hS
  go_enter Tryz.func78, Tryz.ntmps78
  go_wp2_with fail
  refine (cS _).mono ?_
  rintro e w1 ⟨⟨n, hn, rfl⟩, hw⟩
  subst w1
  obtain ⟨rfl, hv⟩ := HS.out n hn
  rw [hv]
  rw [show (((c.toNat - 48 : Nat)) : Int) = v from Hv.out]
  clear hn hv
  go_wp2_with fail
  refine (cD _).mono ?_
  rintro e w1 ⟨rfl, hw⟩
  subst w1
  go_wp2_with fail
  refine HP.out.mono ?_
  rintro e w1 ⟨rfl, h1⟩
  have H1 := Lib.hid h1
  clear h1 HP
  go_wp2_with fail
  exact bodyPost_end (v := .tuple #[]) (by simp [results, Tryz.results78]) rfl ⟨rfl, H1.out⟩
end Go.Proofs.YtlngplohnknhjaaGreatDoor.Px
