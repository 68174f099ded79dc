/- The interpreter of closed runs, a part of it. -/
import Derived.Test.YteojbichibdhjabGreatVL
import Derived.LoopN
import Derived.Scope
namespace Go.Clo
set_option linter.unusedSimpArgs false
set_option linter.unusedVariables false
set_option linter.unnecessarySimpa false
open Go Go.RowKit

variable {P : Program}

theorem orBad_call {α : Type} {x : Option α} {e : String} {f : α → OpF} {g : Operand} {l : List Operand} (h : orBad x e f = .call g l) : ∃ y, x = some y ∧ f y = .call g l := by
  cases x with
  | none => cases h
  | some y => exact ⟨y, rfl, h⟩
/-- What each function of the interpreter is worth. -/
def OpOK (P : Program) (o : Oper) : OpF → Prop
  | .pure f => PureOK P o f
  | .read f => ReadOK P o f
  | .float f => FloatOK P o f
  | .eff f => EffOK P o f
  | .call f args => ∃ c : Call, o.op = .call c ∧ c.callee = .value f ∧ c.args.toList = args
  | .bad _ => True
theorem orBad_ok {α : Type} {o : Oper} {x : Option α} {e : String} {f : α → OpF} (h : ∀ y, x = some y → OpOK P o (f y)) : OpOK P o (orBad x e f) := by
  cases x with
  | none => trivial
  | some y => exact h y rfl
theorem opok_of {o : Oper} {F : OpF} (h1 : ∀ f, F = .pure f → PureOK P o f) (h2 : ∀ f, F = .read f → ReadOK P o f) (h3 : ∀ f, F = .float f → FloatOK P o f) (h4 : ∀ f, F = .eff f → EffOK P o f) (h5 : ∀ f l, F ≠ .call f l) : OpOK P o F := by
  cases F with
  | pure f => exact h1 f rfl
  | read f => exact h2 f rfl
  | float f => exact h3 f rfl
  | eff f => exact h4 f rfl
  | call f l => exact absurd rfl (h5 f l)
  | bad e => trivial
/-- The shape of what a table's function gives. -/
inductive Sh where
  | pure | read | float | eff
def shOf : OpF → Sh → Prop
  | .pure _, .pure | .read _, .read | .float _, .float | .eff _, .eff | .bad _, _ => True
  | _, _ => False
theorem orBad_sh {α : Type} {x : Option α} {e : String} {f : α → OpF} {s : Sh} (h : ∀ y, shOf (f y) s) : shOf (orBad x e f) s := by
  cases x with
  | none => cases s <;> trivial
  | some y => exact h y
theorem isSlice_sh {ty : TypeId} {e : String} {f : OpF} {s : Sh} (h : shOf f s) : shOf (isSlice P ty e f) s := by
  unfold isSlice; split
  · exact h
  · cases s <;> trivial
theorem ok_pure {o : Oper} {F : OpF} (hs : shOf F .pure) (h : ∀ f, F = .pure f → PureOK P o f) : OpOK P o F := by
  cases F <;> first | exact h _ rfl | trivial | exact hs.elim
theorem ok_read {o : Oper} {F : OpF} (hs : shOf F .read) (h : ∀ f, F = .read f → ReadOK P o f) : OpOK P o F := by
  cases F <;> first | exact h _ rfl | trivial | exact hs.elim
theorem ok_float {o : Oper} {F : OpF} (hs : shOf F .float) (h : ∀ f, F = .float f → FloatOK P o f) : OpOK P o F := by
  cases F <;> first | exact h _ rfl | trivial | exact hs.elim
theorem ok_eff {o : Oper} {F : OpF} (hs : shOf F .eff) (h : ∀ f, F = .eff f → EffOK P o f) : OpOK P o F := by
  cases F <;> first | exact h _ rfl | trivial | exact hs.elim
theorem notSelect {o : Oper} {x : Op} (ho : o.op = x) (hx : ∀ cs b, x ≠ .select cs b) : ∀ cs b, o.op ≠ .select cs b := fun cs b => by rw [ho]; exact hx cs b

theorem fBuiltin_ok {o : Oper} {b : Builtin} {args : Array Operand} {tys : Array TypeId} (ho : o.op = .call { callee := .builtin b, args, argTypes := tys }) : OpOK P o (fBuiltin P o b args.toList tys.toList) := by
  have hns : ∀ cs b, o.op ≠ .select cs b := notSelect ho (by intro cs b h; cases h)
  unfold fBuiltin
  split
  · split
    · rename_i x ha
      refine opok_of (fun f h => fLen_pure ho ha h) (fun f h => fLen_read ho ha h) (fun f h => ?_) (fun f h => ?_) (fun f l h => ?_)
      all_goals
        unfold fLen at h
        split at h
        · cases h
        · split at h <;> first | (cases h; done) | (split at h <;> cases h; done)
    · trivial
  · split
    · rename_i x ha
      refine ok_pure ?_ (fun f h => fCap_pure ho ha h)
      unfold fCap
      split
      · trivial
      · split <;> trivial
    · trivial
  · split
    · rename_i x y ha
      exact gMax_ok (most := true) (by simpa using ho) ha
    · exact pureOp_ok hns
  · split
    · rename_i x y ha
      exact gMax_ok (most := false) (by simpa using ho) ha
    · exact pureOp_ok hns
  · refine ok_eff ?_ (fun f h => fAppend_eff ho h)
    unfold fAppend
    split
    · split
      · exact orBad_sh fun en => orBad_sh fun b => orBad_sh fun z => isSlice_sh trivial
      · split
        · exact orBad_sh fun en => orBad_sh fun b => orBad_sh fun z => isSlice_sh trivial
        · trivial
    · trivial
  · refine ok_eff ?_ (fun f h => fCopy_eff ho h)
    unfold fCopy
    split
    · exact orBad_sh fun en => isSlice_sh trivial
    · trivial
  · refine ok_eff ?_ (fun f h => fClear_eff ho h)
    unfold fClear
    split
    · exact orBad_sh fun en => orBad_sh fun z => isSlice_sh trivial
    · trivial
  · trivial
theorem opF_ok (o : Oper) : OpOK P o (opF P o) := by
  cases hop : o.op with
  | move x => simp only [opF, hop]; exact gMove_ok (Or.inl hop)
  | assign x => simp only [opF, hop]; exact gMove_ok (Or.inr hop)
  | pick c a b => simp only [opF, hop]; exact gPick_ok hop
  | build ty parts =>
    simp only [opF, hop]
    refine ok_pure ?_ (fun f h => fBuild_ok hop h)
    refine orBad_sh fun z => ?_
    split
    · exact orBad_sh fun _ => trivial
    · exact orBad_sh fun _ => trivial
    · trivial
  | nilCheck x => simp only [opF, hop]; exact gNil_ok hop
  | binOp op ty x y ty' => simp only [opF, hop]; exact gBin2_ok hop
  | unOp u ty x =>
    cases u with
    | not => simp only [opF, hop]; exact gNot_ok hop
    | _ => simp only [opF, hop]; exact pureOp_ok (notSelect hop (by intro cs b h; cases h))
  | convert src dst x =>
    simp only [opF, hop]
    refine opok_of (fun f h => gConv_ok hop h) (fun f h => gStr_ok hop h) (fun f h => ?_) (fun f h => ?_) (fun f l h => ?_)
    all_goals
      unfold fConv at h
      split at h <;> first | (cases h; done) | (split at h <;> cases h; done)
  | fieldAddr st x f =>
    simp only [opF, hop]
    refine ok_pure ?_ (fun f h => gOff_ok hop h)
    refine orBad_sh fun fd => ?_
    split <;> trivial
  | field st x f =>
    simp only [opF, hop]
    refine ok_pure ?_ (fun f h => gField_ok hop h)
    exact orBad_sh fun fd => orBad_sh fun _ => orBad_sh fun _ => trivial
  | indexAddr ty x ix =>
    simp only [opF, hop]
    refine ok_pure ?_ (fun f h => gIdx_ok hop h)
    refine orBad_sh fun en => ?_
    split <;> trivial
  | index ty x ix =>
    simp only [opF, hop]
    refine ok_pure ?_ (fun f h => gIndex_ok hop h)
    unfold fIndex
    split
    · exact orBad_sh fun _ => orBad_sh fun _ => trivial
    · trivial
  | makeFunc fn first captured =>
    simp only [opF, hop]
    refine ok_pure ?_ (fun f h => gFunc_ok hop h)
    unfold fFunc; split <;> trivial
  | makeInterface ty x =>
    simp only [opF, hop]
    refine ok_pure ?_ (fun f h => gIface_ok hop h)
    unfold fIface; split <;> trivial
  | extract x i => simp only [opF, hop]; exact gExtract_ok hop
  | load ty a =>
    simp only [opF, hop]
    refine ok_read ?_ (fun f h => gLoad_ok hop h)
    exact orBad_sh fun _ => orBad_sh fun _ => trivial
  | slice ty x lo hi mx =>
    simp only [opF, hop]
    by_cases hp : ∃ f, fSlice P o ty x lo hi mx = .pure f
    · obtain ⟨f, hf⟩ := hp
      rw [hf]
      unfold fSlice at hf
      split at hf
      · cases hf
      · split at hf
        · obtain ⟨_, _, h⟩ := orBad_pure hf; cases h
        · obtain ⟨_, _, h⟩ := orBad_pure hf; cases h
        · injection hf with hf; subst hf
          exact pureOp_ok (notSelect hop (by intro cs b h; cases h))
    · refine opok_of (fun f h => absurd ⟨f, h⟩ hp) (fun f h => fSlice_read hop h) (fun f h => ?_) (fun f h => ?_) (fun f l h => ?_)
      all_goals
        unfold fSlice at h
        split at h
        · cases h
        · split at h
          · first
              | (obtain ⟨_, _, h⟩ := orBad_float h; cases h; done)
              | (obtain ⟨_, _, h⟩ := orBad_eff h; cases h; done)
              | (obtain ⟨_, _, h⟩ := orBad_call h; cases h; done)
          · first
              | (obtain ⟨_, _, h⟩ := orBad_float h; cases h; done)
              | (obtain ⟨_, _, h⟩ := orBad_eff h; cases h; done)
              | (obtain ⟨_, _, h⟩ := orBad_call h; cases h; done)
          · cases h
  | lookup ty x k ok =>
    simp only [opF, hop]
    refine ok_read ?_ (fun f h => fLookup_read hop h)
    unfold fLookup
    split
    · exact orBad_sh fun _ => orBad_sh fun _ => trivial
    · trivial
  | alloc ty =>
    simp only [opF, hop]
    refine ok_float ?_ (fun f h => gAlloc_ok hop h)
    unfold fAlloc
    split
    · exact orBad_sh fun _ => trivial
    · trivial
  | box ty x => simp only [opF, hop]; exact gBox_ok hop
  | buildSlice ty len parts =>
    simp only [opF, hop]
    refine ok_float ?_ (fun f h => gLit_ok hop h)
    refine orBad_sh fun en => ?_
    split
    · exact orBad_sh fun _ => isSlice_sh trivial
    · trivial
  | makeSlice ty l c =>
    simp only [opF, hop]
    refine ok_float ?_ (fun f h => gMake_ok hop h)
    exact orBad_sh fun _ => orBad_sh fun _ => orBad_sh fun _ => isSlice_sh trivial
  | makeMap ty r =>
    cases r with
    | none => simp only [opF, hop]; exact gMap_ok hop
    | some r => simp only [opF, hop]; trivial
  | store ty a x =>
    simp only [opF, hop]
    refine ok_eff ?_ (fun f h => fStore_eff hop h)
    exact orBad_sh fun _ => trivial
  | mapUpdate ty x k y =>
    simp only [opF, hop]
    refine ok_eff ?_ (fun f h => fUpdate_eff (Or.inl hop) h)
    unfold fUpdate
    split
    · exact orBad_sh fun _ => trivial
    · trivial
  | insert ty x k y =>
    simp only [opF, hop]
    refine ok_eff ?_ (fun f h => fUpdate_eff (Or.inr hop) h)
    unfold fUpdate
    split
    · exact orBad_sh fun _ => trivial
    · trivial
  | call c =>
    simp only [opF, hop]
    unfold fCall
    obtain ⟨callee, args, tys⟩ := c
    cases callee with
    | value f => exact ⟨_, hop, rfl, rfl⟩
    | builtin b => exact fBuiltin_ok hop
    | invoke r m => trivial
  | _ => simp only [opF, hop]; trivial

/-- A scope that is gone through by jumps. -/
def goRounds (P : Program) (body : Code) (Q : Exit → Act → World → Prop) : Nat → Code → Act → World → Prop
  | 0, _, _, _ => False
  | n + 1, c, a, w => c.wp P (fun e a w => match e with
    | .goto l => match findLabel body l with
      | some rest => goRounds P body Q n rest a w
      | none => Q (.goto l) a w
    | e => Q e a w) a w
theorem wp_scope_rounds {Q : Exit → Act → World → Prop} {a : Act} {w : World} {body : Code} (n : Nat) (h : goRounds P body Q n body a w) : (Code.scope body).wp P Q a w := by
  intro b k cs
  have key : ∀ n c a w, goRounds P body Q n c a w → ∃ e a' w', Q e a' w' ∧ Arrives P (lone (b.at a (.code c :: .inScope body :: k)) cs w) b k cs e a' w' := by
    intro n
    induction n with
    | zero => intro c a w h; exact h.elim
    | succ n ih =>
      intro c a w h
      obtain ⟨e, a₁, w₁, hq, harr⟩ := h b (.inScope body :: k) cs
      cases e with
      | normal => exact ⟨.normal, a₁, w₁, hq, Steps.trans harr (.one step_inScope)⟩
      | exit id => exact ⟨.exit id, a₁, w₁, hq, fun k' hk => harr k' (by simp [exitTo, hk])⟩
      | goto l =>
        cases hf : findLabel body l with
        | none =>
          simp only [hf] at hq
          exact ⟨.goto l, a₁, w₁, hq, fun k' hk => harr k' (by simp [gotoIn, hf, hk])⟩
        | some rest =>
          simp only [hf] at hq
          obtain ⟨e₂, a₂, w₂, hq₂, harr₂⟩ := ih rest a₁ w₁ hq
          exact ⟨e₂, a₂, w₂, hq₂, .of_steps (harr _ (by simp [gotoIn, hf])) harr₂⟩
      | ret => exact ⟨_, a₁, w₁, hq, harr⟩
      | panic ch => exact ⟨_, a₁, w₁, hq, harr⟩
      | outgrown => exact ⟨_, a₁, w₁, hq, harr⟩
  obtain ⟨e, a', w', hq, harr⟩ := key n body a w h
  exact ⟨e, a', w', hq, .of_steps (.one step_scope) harr⟩
end Go.Clo
