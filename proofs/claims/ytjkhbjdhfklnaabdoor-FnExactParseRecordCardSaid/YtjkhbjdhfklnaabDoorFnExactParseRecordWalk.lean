/- The walk of FnExactParseRecord: it returns true. -/
import Derived.Test.YtjkhbjdhfklnaabDoorRows
import Derived.Test.YtjkhbjdhfklnaabDoorRcdJ
namespace Go.Proofs.YtjkhbjdhfklnaabDoor.fnExactParseRecord
open Go.ChangeShapes Go.WideShapes Go.ChangeAt Go.RowKit Go.Proofs.YtjkhbjdhfklnaabDoor Go.Proofs.YtjkhbjdhfklnaabDoor.Rcd
set_option linter.unusedVariables false
set_option maxRecDepth 20000 in
set_option maxHeartbeats 1600000 in
theorem walk (s : ByteArray) (w : World) (hE : Env w) (ws : s.size ≤ maxLen) :
    Calls Tryd.prog 4 #[.string s] w fun e w' => e = .returned (.bool true) ∧ Below w.heap.size w w' := by
  have HE := Lib.hid hE
  clear hE
  by_cases hl : s.size ≤ 1048576
  · have hl' : ¬ (1048576 : Int) < (s.size : Int) := by omega
    have c1 := fun W => spec_parse s hl W
    have C2 := Lib.hid (fun W hW => impl_parse s hl W hW)
    go_enter Tryd.func4, Tryd.ntmps4
    go_wp2_with fail
    refine (c1 _).mono ?_
    rintro e w1 hA
    obtain ⟨a, b, c, d, ok, hAll, rfl, hb⟩ := ans_same hA
    have B1 := Lib.hid hb
    have ba := below_new1 w1 (.cells #[.int .i64 a, .int .i64 b, .int .i64 c, .int .i64 d] 25)
    have B2 := Lib.hid (hb.trans (ba.mono hb.size))
    have N2 := Lib.hid (C4.new w1 (.int .i64 a) (.int .i64 b) (.int .i64 c) (.int .i64 d) 25)
    have AL := Lib.hid (fun w2 w3 e2 (h : Ans s w2 e2 w3) => hAll h)
    clear hA hAll hb ba c1
    go_wp2_with fail
    refine (C2.out _ (HE.out.below B2.out)).mono ?_
    rintro e w2 hA
    obtain ⟨rfl, hb⟩ := AL.out _ _ _ hA
    have B3 := Lib.hid (B2.out.trans (hb.mono B2.out.size))
    have N3 := Lib.hid (N2.out.keep hb (Nat.le_refl _))
    clear hA hb
    obtain ⟨k0, k1, k2, k3, f0', f1', f2', f3', hlt⟩ := N3.out
    go_wp2_with fail
    refine (eq_any a b c d _).mono ?_
    rintro e w3 ⟨rfl, hb⟩
    have B4 := Lib.hid ((B3.out.alloc B3.out.size (.cells #[.int .i64 a, .int .i64 b, .int .i64 c, .int .i64 d] 25)).trans (hb.mono (by rw [World.size_alloc]; have := B3.out.size; omega)))
    clear hb
    have hk2 : (ok != ok) = false := by cases ok <;> rfl
    have hk1 : (ok == ok) = true := by cases ok <;> rfl
    go_wp2_with fail
    go_ret
    exact ⟨rfl, B4.out⟩
  · have hl' : (1048576 : Int) < (s.size : Int) := by omega
    go_enter Tryd.func4, Tryd.ntmps4
    go_wp2_with fail
    go_ret
    exact ⟨rfl, Below.refl _ _⟩
end Go.Proofs.YtjkhbjdhfklnaabDoor.fnExactParseRecord
