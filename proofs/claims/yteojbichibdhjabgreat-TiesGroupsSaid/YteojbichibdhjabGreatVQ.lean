/- The interpreter of closed runs, a part of it. -/
import Derived.Test.YteojbichibdhjabGreatVO
namespace Go.Clo
set_option linter.unusedSimpArgs false
set_option linter.unusedVariables false
set_option linter.unnecessarySimpa false
open Go Go.RowKit

variable {P : Program} {W0 : World}

theorem get_restrL (t : Fr) : ∀ (xs : List Operand) (r : Tr V) (d : Nat), (restrL t xs r).get d = if d ∈ tmpsOf xs ∧ d < t.n then some (t.get d) else r.get d
  | [], r, d => by simp [restrL, tmpsOf]
  | x :: xs, r, d => by
    unfold restrL tmpsOf
    rw [get_restrL t xs]
    cases x with
    | tmp e =>
      simp only [List.mem_cons]
      by_cases h1 : d ∈ tmpsOf xs ∧ d < t.n
      · rw [if_pos h1, if_pos ⟨Or.inr h1.1, h1.2⟩]
      · rw [if_neg h1]
        cases hb : Nat.blt e t.n with
        | true =>
          have hlt : e < t.n := Nat.le_of_ble_eq_true hb
          simp only [Tr.get_set]
          by_cases h2 : d = e
          · subst h2; rw [if_pos rfl, if_pos ⟨Or.inl rfl, hlt⟩]
          · rw [if_neg h2, if_neg (fun h => h1 ⟨h.1.resolve_left h2, h.2⟩)]
        | false =>
          have hlt : ¬ e < t.n := fun h => by rw [show Nat.blt e t.n = true from Nat.ble_eq_true_of_le h] at hb; cases hb
          have : ¬ ((d = e ∨ d ∈ tmpsOf xs) ∧ d < t.n) := by
            rintro ⟨h | h, h'⟩
            · exact hlt (h ▸ h')
            · exact h1 ⟨h, h'⟩
          rw [if_neg this]
    | _ => rfl
theorem get_restrF (t : Fr) (o : Oper) (d : Nat) : (restrF t o).get d = if d ∈ tmpsOf o.op.operands.toList ∧ d < t.n then t.get d else undefV := by
  unfold restrF Fr.get
  simp only
  rw [get_restrL]
  by_cases h : d ∈ tmpsOf o.op.operands.toList ∧ d < t.n
  · rw [if_pos h, if_pos h]; rfl
  · rw [if_neg h, if_neg h]; rfl
theorem mem_tmpsOf {d : Nat} : ∀ {xs : List Operand}, .tmp d ∈ xs → d ∈ tmpsOf xs
  | x :: xs, h => by
    rcases List.mem_cons.1 h with rfl | h
    · simp [tmpsOf]
    · have := mem_tmpsOf h
      unfold tmpsOf
      cases x with
      | tmp e => exact List.mem_cons_of_mem _ this
      | _ => exact this
/-- The slots that an operation looks at. -/
def rAct (a : Act) (o : Oper) (n : Nat) : Act := { a with tmps := (Array.range n).map fun i => if i ∈ tmpsOf o.op.operands.toList then a.tmps.getD i undef else undef }
theorem rAct_get (a : Act) (o : Oper) (n d : Nat) : (rAct a o n).tmps.getD d undef = if d ∈ tmpsOf o.op.operands.toList ∧ d < n then a.tmps.getD d undef else undef := by
  unfold rAct
  simp only [Array.getD_eq_getD_getElem?, Array.getElem?_map, Array.getElem?_range]
  by_cases h : d < n
  · by_cases h' : d ∈ tmpsOf o.op.operands.toList <;> simp [h, h']
  · simp [h]
theorem rAct_FrE {ρ : Rho} {t : Fr} {a : Act} {o : Oper} (h : ∀ d, d ∈ tmpsOf o.op.operands.toList → E ρ (t.get d) (a.tmps.getD d undef)) : FrE ρ (restrF t o) (rAct a o t.n).tmps := by
  refine ⟨by simp [rAct, restrF], fun d => ?_⟩
  rw [get_restrF, rAct_get]
  by_cases hd : d ∈ tmpsOf o.op.operands.toList ∧ d < t.n
  · rw [if_pos hd, if_pos hd]; exact h d hd.1
  · rw [if_neg hd, if_neg hd]; exact E_undef
theorem rAct_eval {a : Act} {o : Oper} {n : Nat} (hn : a.tmps.size = n) (hs : ∀ cs b, o.op ≠ .select cs b) : execOp (rAct a o n).eval o = execOp a.eval o := by
  refine execOp_congr o hs fun x hx => ?_
  cases x with
  | tmp d =>
    show (rAct a o n).tmps.getD d undef = a.tmps.getD d undef
    rw [rAct_get]
    by_cases h : d < n
    · rw [if_pos ⟨mem_tmpsOf (by simpa using hx), h⟩]
    · rw [if_neg (fun k => h k.2)]
      simp [Array.getD_eq_getD_getElem?, hn, h]
  | _ => rfl

/-- What an operation does in the canonical run. -/
inductive StepD (P : Program) (H : Hook) (ih : Run) (b : List Nat) (base i : Nat) (o : Oper) (x : Sn) (v : V) (x' : Sn) : Bool → Prop where
  | off (hv : v = undefV) (hs : x'.s = x.s) (hp : x'.p = x.p) (hq : x'.q = x.q) : StepD P H ih b base i o x v x' false
  | pure (f : Fr → M V) (hF : opF P o = .pure f) (hf : f (restrF x.t o) = .ok v) (hs : x'.s = x.s) (hp : x'.p = x.p) (hq : x'.q = x.q) : StepD P H ih b base i o x v x' true
  | read (f : Fr → St → M V) (hF : opF P o = .read f) (hs : x'.s = x.s) (hp : x'.p = x.p) (hq : x'.q = x.q) : StepD P H ih b base i o x v x' true
  | float (f : Fr → Nat → M (V × Blk)) (y : Blk) (hF : opF P o = .float f) (hf : f (restrF x.t o) (base + i) = .ok (v, y)) (hs : x'.s = x.s) (hp : x'.p = (i, base + i, y) :: x.p) (hq : x'.q = (i, base + i, y) :: x.q) : StepD P H ih b base i o x v x' true
  | eff (hF : (∃ f, opF P o = .eff f) ∨ ∃ f l, opF P o = .call f l) (hf : operV P H ih (restrF x.t o) (addPend x.s (ownOf b i x.p)) (opF P o) = .ok (v, x'.s)) (hp : x'.p = restOf b i x.p) (hq : x'.q = x.q) : StepD P H ih b base i o x v x' true
theorem stepD_inv {H : Hook} {ih : Run} {ops : Array Oper} {b : List Nat} {base i : Nat} {o : Oper} {x x' : Sn} {v : V} (h : stepD P H ih ops b base i o x = .ok (v, x')) :
    x'.t = putV x.t o.dst v ∧ StepD P H ih b base i o x v x' (wantedV x.t (guardOf ops o)) := by
  unfold stepD at h
  cases hw : wantedV x.t (guardOf ops o) with
  | false =>
    rw [hw] at h
    injection h with h
    simp only [Prod.mk.injEq] at h
    obtain ⟨rfl, rfl⟩ := h
    exact ⟨rfl, .off rfl rfl rfl rfl⟩
  | true =>
    rw [hw] at h
    simp only at h
    cases hF : opF P o with
    | pure f =>
      rw [hF] at h
      obtain ⟨v', h1, h2⟩ := M.bind_ok h
      injection h2 with h2; simp only [Prod.mk.injEq] at h2; obtain ⟨rfl, rfl⟩ := h2
      exact ⟨rfl, .pure f hF h1 rfl rfl rfl⟩
    | read f =>
      rw [hF] at h
      obtain ⟨v', h1, h2⟩ := M.bind_ok h
      injection h2 with h2; simp only [Prod.mk.injEq] at h2; obtain ⟨rfl, rfl⟩ := h2
      exact ⟨rfl, .read f hF rfl rfl rfl⟩
    | float f =>
      rw [hF] at h
      obtain ⟨⟨v', y⟩, h1, h2⟩ := M.bind_ok h
      injection h2 with h2; simp only [Prod.mk.injEq] at h2; obtain ⟨rfl, rfl⟩ := h2
      exact ⟨rfl, .float f y hF h1 rfl rfl rfl⟩
    | eff f =>
      rw [hF] at h
      obtain ⟨⟨v', s'⟩, h1, h2⟩ := M.bind_ok h
      injection h2 with h2; simp only [Prod.mk.injEq] at h2; obtain ⟨rfl, rfl⟩ := h2
      exact ⟨rfl, .eff (Or.inl ⟨f, hF⟩) (by rw [hF]; exact h1) rfl rfl⟩
    | call f l =>
      rw [hF] at h
      obtain ⟨⟨v', s'⟩, h1, h2⟩ := M.bind_ok h
      injection h2 with h2; simp only [Prod.mk.injEq] at h2; obtain ⟨rfl, rfl⟩ := h2
      exact ⟨rfl, .eff (Or.inr ⟨f, l, hF⟩) (by rw [hF]; exact h1) rfl rfl⟩
    | bad e => rw [hF] at h; cases h
end Go.Clo
