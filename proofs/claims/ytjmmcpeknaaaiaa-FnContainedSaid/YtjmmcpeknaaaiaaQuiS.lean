/- A region that draws its order and whose operations may draw a result too (the bits of a NaN): one walk of the text's order, each operation with a SET of values. Derived/Deep/Quiet.lean's theorem, a set in the place of the one value. No program stands here. -/
import Derived.Deep.Quiet
import Derived.WalkKit
import Derived.BigQuiet
namespace Go.Proofs.Ytjmmcpeknaaaiaa
open Go
section
variable {P : Program} {ops : Array Oper} {md : Region.Mode} {C : World → Prop}
def sUpon (P : Program) (C : World → Prop) (S : Value → Prop) : Result Next → Prop
  | .ok (.value u) w' => C w' ∧ S u
  | .ok .skip w' => C w' ∧ S undef
  | .ok (.enter f args) w' => C w' ∧ P.inits.idxOf? f = none ∧ ∃ v, S v ∧ Calls P f args w' (fun e w'' => e = .returned v ∧ C w'')
  | _ => False
def sAt (P : Program) (o : Oper) (a : Act) (C : World → Prop) (w : World) (S : Value → Prop) : Prop := sUpon P C S ((execOp a.eval o).run P w)
def quietS (P : Program) (o : Oper) (a : Act) (C : World → Prop) (next : Act → Prop) : Prop := ∃ S : Value → Prop, (∀ w, C w → sAt P o a C w S) ∧ ∀ v, S v → next (a.put o.dst v)
def wpQuietS (P : Program) (ops : Array Oper) (C : World → Prop) (Q : Act → Prop) : List Oper → Act → Prop
  | [], a => Q a
  | o :: rest, a => if Region.wanted o (yielded ops a.tmps) then quietS P o a C (wpQuietS P ops C Q rest) else wpQuietS P ops C Q rest (a.put o.dst undef)
theorem wpQuietS_nil {Q : Act → Prop} {a : Act} (h : Q a) : wpQuietS P ops C Q [] a := h
def qOpS (P : Program) (ops : Array Oper) (C : World → Prop) (i : Nat) (K : Act → Prop) (a : Act) : Prop :=
  match ops[i]? with
  | none => K a
  | some o => if Region.wanted o (yielded ops a.tmps) then quietS P o a C K else K (a.put o.dst undef)
theorem quietS_mono {o : Oper} {a : Act} {K K' : Act → Prop} (h : ∀ a, K a → K' a) (hh : quietS P o a C K) : quietS P o a C K' :=
  let ⟨S, h1, h2⟩ := hh
  ⟨S, h1, fun v hv => h _ (h2 v hv)⟩
theorem qOpS_mono {i : Nat} {a : Act} {K K' : Act → Prop} (h : ∀ a, K a → K' a) (hh : qOpS P ops C i K a) : qOpS P ops C i K' a := by
  unfold qOpS at *
  split
  · exact h _ (by simpa [*] using hh)
  · rename_i o ho
    simp only [ho] at hh
    split
    · rename_i hw; simp only [hw, if_true] at hh; exact quietS_mono h hh
    · rename_i hw; simp only [hw] at hh; exact h _ hh
def wpAnyS (P : Program) (md : Region.Mode) (ops : Array Oper) (C : World → Prop) (Q : Act → Prop) : Nat → Array Bool → Act → Prop
  | 0, listed, a => Region.ready md ops listed = [] ∧ Q a
  | fuel + 1, listed, a =>
    (Region.ready md ops listed = [] → Q a) ∧
    ∀ i ∈ Region.ready md ops listed, qOpS P ops C i (wpAnyS P md ops C Q fuel (listed.setIfInBounds i true)) a
theorem wp_of_quietS {o : Oper} {a : Act} {K : Act → Prop} {K' : Act → World → Prop} {Q' : Exit → Act → World → Prop} {w : World} (hw : C w) (h : ∀ a w', C w' → K a → K' a w') (hh : quietS P o a C K) : o.wp P a w K' Q' := by
  obtain ⟨S, h1, h2⟩ := hh
  have h3 := h1 w hw
  unfold sAt at h3
  unfold Oper.wp
  generalize (execOp a.eval o).run P w = r at *
  cases r with
  | ok n w' =>
    cases n <;> simp only [sUpon] at h3 <;> simp only [Oper.upon]
    case value u => exact h _ _ h3.1 (h2 _ h3.2)
    case skip => exact h _ _ h3.1 (h2 _ h3.2)
    case enter f args =>
      obtain ⟨_, _, v, hv, hc⟩ := h3
      exact hc.mono fun e w'' ⟨he, hw''⟩ => by subst he; exact h _ _ hw'' (h2 v hv)
  | halt x w' => simp only [sUpon] at h3
theorem wpOp_of_qOpS {i : Nat} {a : Act} {K : Act → Prop} {K' : Act → World → Prop} {Q' : Exit → Act → World → Prop} {w : World} (hC : C w) (h : ∀ a w', C w' → K a → K' a w') (hh : qOpS P ops C i K a) : wpOp P ops Q' i K' a w := by
  unfold qOpS at hh
  unfold wpOp
  split
  · rename_i ho; simp only [ho] at hh; exact h _ _ hC hh
  · rename_i o ho
    simp only [ho] at hh
    split
    · rename_i hw; simp only [hw, if_true] at hh; exact .inl (wp_of_quietS hC h hh)
    · rename_i hw; simp only [hw] at hh; exact h _ _ hC hh
theorem wpAny_of_quietS {Q : Act → Prop} {Q' : Exit → Act → World → Prop} (hQ : ∀ a w, C w → Q a → Q' .normal a w) : ∀ (fuel : Nat) (listed : Array Bool) (a : Act) (w : World), C w →
    wpAnyS P md ops C Q fuel listed a → wpAny P md ops Q' fuel listed a w
  | 0, _, _, _, hw, h => ⟨h.1, hQ _ _ hw h.2⟩
  | fuel + 1, _, _, _, hw, h => ⟨fun h0 => hQ _ _ hw (h.1 h0), fun i hi => wpOp_of_qOpS hw (fun a' w' hw' => wpAny_of_quietS hQ fuel _ a' w' hw') (h.2 i hi)⟩
def YieldsS (P : Program) (ops : Array Oper) (C : World → Prop) (o : Oper) (S : Value → Prop) (a : Act) : Prop :=
  (Region.wanted o (yielded ops a.tmps) = true ∧ ∀ w, C w → sAt P o a C w S) ∨
  (Region.wanted o (yielded ops a.tmps) = false ∧ S = fun v => v = undef)
theorem sAt_some {o : Oper} {a : Act} {w : World} {S : Value → Prop} (h : sAt P o a C w S) : ∃ v, S v := by
  unfold sAt at h
  generalize (execOp a.eval o).run P w = r at h
  cases r with
  | ok n w' =>
    cases n <;> simp only [sUpon] at h
    case value u => exact ⟨_, h.2⟩
    case skip => exact ⟨_, h.2⟩
    case enter f args => exact ⟨h.2.2.choose, h.2.2.choose_spec.1⟩
  | halt x w' => simp only [sUpon] at h
theorem yieldsS_some {o : Oper} {a : Act} {w : World} {S : Value → Prop} (hw : C w) (h : YieldsS P ops C o S a) : ∃ v, S v := by
  rcases h with ⟨_, h⟩ | ⟨_, rfl⟩
  · exact sAt_some (h w hw)
  · exact ⟨undef, rfl⟩
theorem YieldsS.qOp {i : Nat} {o : Oper} {S : Value → Prop} {a : Act} (hi : ops[i]? = some o) (hy : YieldsS P ops C o S a) {K : Act → Prop} (h : ∀ v, S v → K (a.put o.dst v)) : qOpS P ops C i K a := by
  unfold qOpS
  simp only [hi]
  rcases hy with ⟨hw, hv⟩ | ⟨hw, rfl⟩
  · simp only [hw, if_true]; exact ⟨S, hv, h⟩
  · simp only [hw, Bool.false_eq_true, if_false]; exact h _ rfl
theorem YieldsS.of_same {o : Oper} {S : Value → Prop} {a a' : Act} (hy : YieldsS P ops C o S a) (he : execOp a'.eval o = execOp a.eval o)
    (hw : Region.wanted o (yielded ops a'.tmps) = Region.wanted o (yielded ops a.tmps)) : YieldsS P ops C o S a' := by
  unfold YieldsS sAt at *
  rw [he, hw]
  exact hy
theorem yieldsS_of_qOp {i : Nat} {o : Oper} {a : Act} {K : Act → Prop} (hi : ops[i]? = some o) (h : qOpS P ops C i K a) : ∃ S, YieldsS P ops C o S a ∧ ∀ v, S v → K (a.put o.dst v) := by
  unfold qOpS at h
  simp only [hi] at h
  by_cases hw : Region.wanted o (yielded ops a.tmps) = true
  · simp only [hw, if_true] at h
    obtain ⟨S, h1, h2⟩ := h
    exact ⟨S, .inl ⟨hw, h1⟩, h2⟩
  · simp only [hw] at h
    exact ⟨_, .inr ⟨by simpa using hw, rfl⟩, fun v hv => by rw [hv]; exact h⟩
/-- two contracts on one call speak of one value -/
theorem calls_one {f : FuncId} {args : Array Value} {w : World} {v v' : Value} {R R' : World → Prop} (hi : P.inits.idxOf? f = none)
    (h : Calls P f args w fun e w' => e = .returned v ∧ R w') (h' : Calls P f args w fun e w' => e = .returned v' ∧ R' w') : v = v' := by
  have g : Calls P f args w fun | .returned u, _ => u = v | _, _ => False := h.mono fun e w' ⟨he, _⟩ => by subst he; rfl
  have g' : Calls P f args w fun | .returned u, _ => u = v' | _, _ => False := h'.mono fun e w' ⟨he, _⟩ => by subst he; rfl
  obtain ⟨n, u, w1, e1, r1⟩ := g.done hi
  obtain ⟨m, u', w2, e2, r2⟩ := g'.done hi
  have a := runN_ended e1 m
  have b := runN_ended e2 n
  rw [Nat.add_comm, a] at b
  injection b with ho hw
  injection ho with hv
  rw [← r1, ← r2, hv]
/-- one set serves for all -/
theorem sAt_all {o : Oper} {a : Act} {w : World} {ι : Type} (i0 : ι) (T : ι → Value → Prop) (h : ∀ i, sAt P o a C w (T i)) : sAt P o a C w (fun u => ∀ i, T i u) := by
  unfold sAt at *
  generalize (execOp a.eval o).run P w = r at *
  cases r with
  | ok n w' =>
    cases n <;> simp only [sUpon] at h ⊢
    case value u => exact ⟨(h i0).1, fun i => (h i).2⟩
    case skip => exact ⟨(h i0).1, fun i => (h i).2⟩
    case enter f args =>
      obtain ⟨hC, hin, v0, hv0, hc0⟩ := h i0
      refine ⟨hC, hin, v0, fun i => ?_, hc0⟩
      obtain ⟨_, _, v, hv, hc⟩ := h i
      rw [calls_one hin hc0 hc]
      exact hv
    all_goals exact h i0
  | halt x w' => simp only [sUpon] at h; exact (h i0).elim
theorem sAt_same {o : Oper} {a a' : Act} {w : World} {S : Value → Prop} (he : execOp a'.eval o = execOp a.eval o) (h : sAt P o a' C w S) : sAt P o a C w S := by
  unfold sAt at *
  rwa [he] at h
theorem qOpS_put {j : Nat} {oi oj : Oper} {S : Value → Prop} {w0 : World} (hw0 : C w0) (hj : ops[j]? = some oj) (hap : oi.apart ops oj = true)
    (hsi : ∀ cs b, oi.op ≠ .select cs b) (hsj : ∀ cs b, oj.op ≠ .select cs b) {K : Act → Prop} {a : Act}
    (hy : YieldsS P ops C oi S a) (h : ∀ v, S v → qOpS P ops C j K (a.put oi.dst v)) :
    qOpS P ops C j (fun a' => YieldsS P ops C oi S a' ∧ ∀ v, S v → K (a'.put oi.dst v)) a := by
  obtain ⟨h1, h2, h3⟩ := Oper.apart_spec hap
  have keep : ∀ (a : Act), YieldsS P ops C oi S a → ∀ u, YieldsS P ops C oi S (a.put oj.dst u) := fun a hy u =>
    hy.of_same (execOp_put oi hsi a oj.dst u h3) (wanted_put oi a oj.dst u h3)
  obtain ⟨v0, hv0⟩ := yieldsS_some hw0 hy
  unfold qOpS at *
  simp only [hj] at *
  by_cases hw : Region.wanted oj (yielded ops a.tmps) = true
  · rw [if_pos hw]
    have h' : ∀ v : {v // S v}, quietS P oj (a.put oi.dst v.1) C K := fun v => by
      have := h v.1 v.2
      rw [wanted_put oj a oi.dst v.1 h1, if_pos hw] at this
      exact this
    refine ⟨fun u => ∀ v : {v // S v}, (h' v).choose u, fun w hw' => sAt_all ⟨v0, hv0⟩ (fun v => (h' v).choose) fun v => ?_, fun u hu => ⟨keep a hy u, fun v hv => ?_⟩⟩
    · exact sAt_same (execOp_put oj hsj a oi.dst v.1 h1) ((h' v).choose_spec.1 w hw')
    · have := (h' ⟨v, hv⟩).choose_spec.2 u (hu ⟨v, hv⟩)
      rw [← Act.put_comm a v u h2]
      exact this
  · rw [if_neg hw]
    refine ⟨keep a hy _, fun v hv => ?_⟩
    have := h v hv
    rw [wanted_put oj a oi.dst v h1, if_neg hw] at this
    rw [← Act.put_comm a v undef h2]
    exact this
theorem wpAnyS_first {Q : Act → Prop} {i : Nat} {oi : Oper} {S : Value → Prop} {w0 : World} (hw0 : C w0) (hi : ops[i]? = some oi) (hsel : ∀ (j : Nat) (o : Oper) cs b, ops[j]? = some o → o.op ≠ .select cs b) :
    ∀ (fuel : Nat) (listed : Array Bool) (a : Act),
      (∀ j oj, ops[j]? = some oj → j ≠ i → listed.getD j true = false → (∀ e ∈ oj.after, Region.binds md e = true → e.on ≠ i) → oi.apart ops oj = true) →
      i ∈ Region.ready md ops listed → YieldsS P ops C oi S a →
      (∀ v, S v → wpAnyS P md ops C Q fuel (listed.setIfInBounds i true) (a.put oi.dst v)) → wpAnyS P md ops C Q (fuel + 1) listed a := by
  intro fuel
  induction fuel with
  | zero =>
    intro listed a _ hr hy H
    obtain ⟨v0, hv0⟩ := yieldsS_some hw0 hy
    refine ⟨fun h => (by rw [h] at hr; cases hr), fun j hj => ?_⟩
    by_cases hji : j = i
    · subst hji; exact hy.qOp hi H
    · have := ready_mono hj hji
      rw [(H v0 hv0).1] at this
      cases this
  | succ fuel ih =>
    intro listed a hfree hr hy H
    refine ⟨fun h => (by rw [h] at hr; cases hr), fun j hj => ?_⟩
    by_cases hji : j = i
    · subst hji; exact hy.qOp hi H
    · have h1 := fun v hv => (H v hv).2 j (ready_mono hj hji)
      obtain ⟨hjun, oj, hoj, hall⟩ := mem_ready.1 hj
      have hnot : ∀ e ∈ oj.after, Region.binds md e = true → e.on ≠ i := fun e he hb heq => by
        have h1 := hall e he hb
        have h0 := (mem_ready.1 hr).1
        rw [heq] at h1
        rcases Nat.lt_or_ge i listed.size with h' | h'
        · simp [h'] at h0 h1; rw [h0] at h1; cases h1
        · simp [Array.getElem?_eq_none h'] at h1
      have h2 := qOpS_put hw0 hoj (hfree j oj hoj hji hjun hnot) (fun cs b => hsel i oi cs b hi) (fun cs b => hsel j oj cs b hoj) hy h1
      have hfree' : ∀ k ok, ops[k]? = some ok → k ≠ i → (listed.setIfInBounds j true).getD k true = false →
          (∀ e ∈ ok.after, Region.binds md e = true → e.on ≠ i) → oi.apart ops ok = true := fun k ok hk hki hun hno => by
        refine hfree k ok hk hki ?_ hno
        by_cases hjk : j = k
        · subst hjk; exact hjun
        · rw [getD_set_ne true hjk] at hun; exact hun
      refine qOpS_mono (fun a' h3 => ih (listed.setIfInBounds j true) a' hfree' (ready_mono hr (Ne.symm hji)) h3.1 ?_) h2
      rw [Array.setIfInBounds_comm _ _ hji]
      exact h3.2
theorem wpAnyS_lex {Q : Act → Prop} {w0 : World} (hw0 : C w0) (hs : Region.noSelect ops = true) : ∀ (l : List Oper) (k : Nat) (listed : Array Bool) (a : Act), (∀ j, l[j]? = ops[k + j]?) →
    Region.lexFrom md ops l.length k listed = true → wpQuietS P ops C Q l a → wpAnyS P md ops C Q l.length listed a
  | [], _, _, _, _, hB, h => ⟨by simpa [Region.lexFrom] using hB, h⟩
  | o :: l, k, listed, a, hl, hB, h => by
    have h0 : ops[k]? = some o := by simpa using (hl 0).symm
    simp only [List.length_cons, Region.lexFrom, Bool.and_eq_true] at hB
    obtain ⟨⟨hr, hf⟩, hB'⟩ := hB
    have hst : qOpS P ops C k (wpQuietS P ops C Q l) a := by unfold qOpS; simp only [h0]; exact h
    obtain ⟨S, hy, hK⟩ := yieldsS_of_qOp h0 hst
    exact wpAnyS_first hw0 h0 (Region.noSelect_spec hs) l.length listed a (Region.free_spec h0 hf) (by simpa using hr) hy
      fun v hv => wpAnyS_lex hw0 hs l (k + 1) _ _ (fun j => by have := hl (j + 1); simpa [Nat.add_assoc, Nat.add_comm 1 j] using this) hB' (hK v hv)
/-- ONE WALK OF THE LEXICAL ORDER, A SET OF VALUES AT EACH OPERATION. -/
theorem wp_region_S {id : Nat} {Q : Exit → Act → World → Prop} {a : Act} {w : World} {l : List Oper} (hm : P.follows .mixedOrders = true) (hB : Region.lexB .any l.toArray = true) (hC : C { w with drawn := w.drawn + 1 })
    (h : wpQuietS P l.toArray C (fun a' => ∀ w', C w' → Q .normal a' w') l a) : (Code.region id l.toArray true).wp P Q a w := by
  simp only [Region.lexB, Bool.and_eq_true] at hB
  refine wp_region_any hm (wpAny_of_quietS (Q := fun a' => ∀ w', C w' → Q .normal a' w') (fun _ w' hw' h => h w' hw') _ _ _ _ hC ?_)
  have := wpAnyS_lex (C := C) (md := .any) hC hB.1 l 0 (Array.replicate l.toArray.size false) a (by simp) (by simpa using hB.2) h
  simpa using this
theorem wp_region_S_drew {id : Nat} {Q : Exit → Act → World → Prop} {a : Act} {w : World} {l : List Oper} (hm : P.follows .mixedOrders = true) (hB : Region.lexB .any l.toArray = true)
    (h : wpQuietS P l.toArray (fun w' => ∃ n, w' = w.drewN n) (fun a' => ∀ w', (∃ n, w' = w.drewN n) → Q .normal a' w') l a) : (Code.region id l.toArray true).wp P Q a w :=
  wp_region_S (C := fun w' => ∃ n, w' = w.drewN n) hm hB ⟨1, rfl⟩ h
theorem wpS_want {Q : Act → Prop} {a : Act} {o : Oper} {rest : List Oper} (hw : Region.wanted o (yielded ops a.tmps) = true) (h : ∀ K : Act → Prop, (∀ a, wpQuietS P ops C Q rest a → K a) → quietS P o a C K) : wpQuietS P ops C Q (o :: rest) a := by
  unfold wpQuietS; rw [if_pos hw]; exact h _ fun _ h => h
theorem wpS_skip {Q : Act → Prop} {a : Act} {o : Oper} {rest : List Oper} (hw : Region.wanted o (yielded ops a.tmps) = false) (h : wpQuietS P ops C Q rest (a.put o.dst undef)) : wpQuietS P ops C Q (o :: rest) a := by
  unfold wpQuietS; rw [if_neg (by rw [hw]; exact Bool.false_ne_true)]; exact h
def plainOp : Op → Bool
  | .move _ | .assign _ | .load _ _ | .binOp _ _ _ _ _ | .unOp _ _ _ | .convert _ _ _ | .fieldAddr _ _ _ | .field _ _ _ | .indexAddr _ _ _ | .index _ _ _ | .extract _ _ => true
  | _ => false
theorem no_v (s : Sem Value) (w w' : World) (f : FuncId) (args : Array Value) : (do pure (Next.value (← s)) : Sem Next).run P w ≠ .ok (.enter f args) w' := by
  have e : (do pure (Next.value (← s)) : Sem Next).run P w = (s.run P w).andThen fun v w => .ok (.value v) w := by simp [go_sem]
  rw [e]
  cases s.run P w <;> intro h <;> cases h
theorem no_enter {o : Oper} (hn : plainOp o.op = true) (ρ : Operand → Value) (w w' : World) (f : FuncId) (args : Array Value) : (execOp ρ o).run P w ≠ .ok (.enter f args) w' := by
  obtain ⟨dst, op, ty, pos, after, guard⟩ := o
  cases op <;> first | exact absurd hn Bool.false_ne_true | exact no_v _ _ _ _ _ | (intro h; cases h)
theorem quietS_of {o : Oper} {a : Act} {K : Act → Prop} (hn : plainOp o.op = true) (h : o.quiet P a C K) : quietS P o a C K := by
  obtain ⟨v, h1, h2⟩ := h
  refine ⟨fun u => u = v, fun w hw => ?_, fun u hu => by rw [hu]; exact h2⟩
  have h3 := h1 w hw
  have hne := no_enter (P := P) hn a.eval w
  unfold Oper.quietAt at h3
  unfold sAt
  generalize (execOp a.eval o).run P w = r at *
  cases r with
  | ok n w' =>
    cases n <;> simp only [Oper.quietUpon] at h3 <;> simp only [sUpon]
    case value u => exact ⟨by rw [h3.1]; exact hw, h3.2⟩
    case skip => exact ⟨by rw [h3.1]; exact hw, h3.2.symm⟩
    case enter f args => exact absurd rfl (hne w' f args)
  | halt x w' => simp only [Oper.quietUpon] at h3
/-- an operation that gives some value of a set, and a world of the class -/
theorem quietS_val {o : Oper} {a : Act} {K : Act → Prop} (S : Value → Prop) (h : ∀ w, C w → ∃ u w', (execOp a.eval o).run P w = .ok (.value u) w' ∧ C w' ∧ S u) (hk : ∀ v, S v → K (a.put o.dst v)) : quietS P o a C K :=
  ⟨S, fun w hw => by obtain ⟨u, w', e, h1, h2⟩ := h w hw; unfold sAt; rw [e]; exact ⟨h1, h2⟩, hk⟩
/-- what is kept in the slot is written out by a move -/
theorem put_of_quiet {dst : Option Tmp} {ty : TypeId} {pos : String} {after : Array Edge} {guard : Option (Nat × Bool)} {a : Act} {K : Act → Prop} {v : Value} {w0 : World} (hw0 : C w0)
    (h : Oper.quiet P ⟨dst, .move (.const v), ty, pos, after, guard⟩ a C K) : K (a.put dst v) := by
  obtain ⟨u, h1, h2⟩ := h
  have h3 := h1 w0 hw0
  unfold Oper.quietAt at h3
  rw [BigFrame.run_move (.const v) rfl] at h3
  have e : v = u := h3.2
  rw [e]
  exact h2
/-- a conversion -/
theorem quietS_conv {dst : Option Tmp} {src d : TypeId} {x : Operand} {ty : TypeId} {pos : String} {after : Array Edge} {guard : Option (Nat × Bool)} {a : Act} {K : Act → Prop} (S : Value → Prop) (h : ∀ w, C w → ∃ u w', (convert src d (a.eval x)).run P w = .ok u w' ∧ C w' ∧ S u) {w0 : World} (hw0 : C w0) (hk : ∀ v, S v → Oper.quiet P ⟨dst, .move (.const v), ty, pos, after, guard⟩ a C K) :
    quietS P ⟨dst, .convert src d x, ty, pos, after, guard⟩ a C K :=
  quietS_val S (fun w hw => by
    obtain ⟨u, w', e, h1, h2⟩ := h w hw
    refine ⟨u, w', ?_, h1, h2⟩
    have e' : (do pure (Next.value (← convert src d (a.eval x))) : Sem Next).run P w = ((convert src d (a.eval x)).run P w).andThen fun v w => .ok (.value v) w := by simp [go_sem]
    rw [e] at e'
    exact e') fun v hv => put_of_quiet hw0 (hk v hv)
/-- a call with one value -/
theorem quietS_call {dst : Option Tmp} {op : Op} {ty : TypeId} {pos : String} {after : Array Edge} {guard : Option (Nat × Bool)} {a : Act} {K : Act → Prop} (v : Value) (f : FuncId) (args : Array Value) (hin : P.inits.idxOf? f = none) (he : ∀ w, (execOp a.eval ⟨dst, op, ty, pos, after, guard⟩).run P w = .ok (.enter f args) w) (h : ∀ w, C w → Calls P f args w (fun e w'' => e = .returned v ∧ C w'')) {w0 : World} (hw0 : C w0) (hk : Oper.quiet P ⟨dst, .move (.const v), ty, pos, after, guard⟩ a C K) : quietS P ⟨dst, op, ty, pos, after, guard⟩ a C K :=
  ⟨fun u => u = v, fun w hw => by unfold sAt; rw [he]; exact ⟨hw, hin, v, rfl, h w hw⟩, fun u hu => by rw [hu]; exact put_of_quiet hw0 hk⟩
/-- a call with some value of a set -/
theorem quietS_callS {dst : Option Tmp} {op : Op} {ty : TypeId} {pos : String} {after : Array Edge} {guard : Option (Nat × Bool)} {a : Act} {K : Act → Prop} (S : Value → Prop) (f : FuncId) (args : Array Value) (hin : P.inits.idxOf? f = none) (he : ∀ w, (execOp a.eval ⟨dst, op, ty, pos, after, guard⟩).run P w = .ok (.enter f args) w) (h : ∀ w, C w → ∃ v, S v ∧ Calls P f args w (fun e w'' => e = .returned v ∧ C w'')) {w0 : World} (hw0 : C w0) (hk : ∀ v, S v → Oper.quiet P ⟨dst, .move (.const v), ty, pos, after, guard⟩ a C K) : quietS P ⟨dst, op, ty, pos, after, guard⟩ a C K :=
  ⟨S, fun w hw => by unfold sAt; rw [he]; obtain ⟨v, hv, hc⟩ := h w hw; exact ⟨hw, hin, v, hv, hc⟩, fun u hu => put_of_quiet hw0 (hk u hu)⟩
end
end Go.Proofs.Ytjmmcpeknaaaiaa
