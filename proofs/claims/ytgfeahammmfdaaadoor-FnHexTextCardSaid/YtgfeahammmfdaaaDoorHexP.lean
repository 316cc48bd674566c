/- Plain facts: a text is decoded from its hexadecimal encoding. -/
import Derived.Test.YtgfeahammmfdaaaDoorHexY
namespace Go.Proofs.YtgfeahammmfdaaaDoor.Hex
open Go.Proofs.YtgfeahammmfdaaaDoor Go
set_option linter.unusedVariables false
theorem enc_at : ∀ (l : List UInt8) (j : Nat), j < l.length → (encL l).getD (2 * j) 0 = (fig ((l.getD j 0).toNat / 16) : Int) ∧ (encL l).getD (2 * j + 1) 0 = (fig ((l.getD j 0).toNat % 16) : Int) := by
  intro l
  induction l with
  | nil => intro j hj; simp at hj
  | cons c l ih =>
    intro j hj
    cases j with
    | zero => exact ⟨rfl, rfl⟩
    | succ j =>
      have := ih j (by simpa using hj)
      rw [show 2 * (j + 1) = 2 * j + 1 + 1 by omega]
      exact this
theorem fig_lt (d : Nat) (h : d < 16) : fig d < 256 := by unfold fig; split <;> omega
theorem val_fig (d : Nat) (h : d < 16) : valOf (fig d) = (d : Int) := by
  have : ∀ d : Fin 16, valOf (fig d.val) = ((d.val : Nat) : Int) := by decide +kernel
  exact this ⟨d, h⟩
theorem encS_size (s : ByteArray) : (encS s).size = 2 * s.size := by
  unfold encS
  rw [strOfNums_size, encL_len, Array.length_toList]
  rfl
theorem byt_enc (s : ByteArray) (j : Nat) (h : j < s.size) : byt (encS s) (2 * j) = fig (byt s j / 16) ∧ byt (encS s) (2 * j + 1) = fig (byt s j % 16) := by
  have hl : s.data.toList.length = s.size := Array.length_toList
  have he := enc_at s.data.toList j (by omega)
  have hlen := encL_len s.data.toList
  have hb : byt s j < 256 := by unfold byt; exact UInt8.toNat_lt _
  have key : ∀ i f, i < 2 * s.size → (encL s.data.toList).getD i 0 = ((f : Nat) : Int) → f < 256 → byt (encS s) i = f := by
    intro i f hi hf h256
    unfold byt encS
    rw [strOfNums_data]
    rw [List.getD_eq_getElem?_getD, List.getElem?_map, List.getElem?_eq_getElem (show i < (encL s.data.toList).length by omega)]
    rw [List.getD_eq_getElem?_getD, List.getElem?_eq_getElem (show i < (encL s.data.toList).length by omega)] at hf
    simp only [Option.map_some, Option.getD_some] at hf ⊢
    rw [hf, UInt8.toNat_ofNat']
    exact Nat.mod_eq_of_lt (by omega)
  exact ⟨key _ _ (by omega) he.1 (fig_lt _ (by show byt s j / 16 < 16; omega)), key _ _ (by omega) he.2 (fig_lt _ (by show byt s j % 16 < 16; omega))⟩
theorem dec_enc (s : ByteArray) (hs : s.size ≤ 20000) : decR (encS s) = (s, true) := by
  have hz := encS_size s
  have hl : s.data.toList.length = s.size := Array.length_toList
  have hh : (encS s).size / 2 = s.size := by omega
  have hp : ∀ j, j < s.size → valOf (byt (encS s) (2 * j)) = ((byt s j / 16 : Nat) : Int) ∧ valOf (byt (encS s) (2 * j + 1)) = ((byt s j % 16 : Nat) : Int) := by
    intro j hj
    have hb : byt s j < 256 := by unfold byt; exact UInt8.toNat_lt _
    have := byt_enc s j hj
    rw [this.1, this.2]
    exact ⟨val_fig _ (by omega), val_fig _ (by omega)⟩
  rw [decR_good ⟨by omega, by omega, by
    rw [hh]
    intro j hj
    have := hp j hj
    rw [this.1, this.2]
    exact ⟨by omega, by omega⟩⟩, hh]
  congr 1
  have hd : decL (encS s) s.size = s.data.toList.map fun c => (c.toNat : Int) := by
    show List.map (pairV (encS s)) (List.range s.size) = _
    apply List.ext_getElem
    · rw [List.length_map, List.length_range, List.length_map, hl]
    · intro j h1' h2
      have h1 : j < s.size := by rw [List.length_map, List.length_range] at h1'; exact h1'
      have := hp j h1
      have hb : (s.data.toList[j]'(by omega)).toNat = byt s j := by
        unfold byt
        rw [List.getD_eq_getElem?_getD, List.getElem?_eq_getElem (show j < s.data.toList.length by omega)]
        rfl
      rw [List.getElem_map, List.getElem_map, List.getElem_range]
      unfold pairV
      rw [this.1, this.2, hb]
      omega
  rw [hd]
  unfold strOfNums
  rw [List.map_map]
  have : (s.data.toList.map ((fun n => UInt8.ofNat n.toNat) ∘ fun c => (c.toNat : Int))) = s.data.toList := by
    conv => rhs; rw [← List.map_id s.data.toList]
    apply List.map_congr_left
    intro c _
    show UInt8.ofNat ((c.toNat : Int)).toNat = c
    rw [Int.toNat_natCast]
    exact UInt8.ofNat_toNat
  rw [this]
end Go.Proofs.YtgfeahammmfdaaaDoor.Hex
