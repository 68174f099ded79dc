/- The interpreter of closed runs, a part of it. -/
import Derived.Test.YteojbichibdhjabGreatVA
import Derived.Laws.Tables
import Derived.Laws.CopyRow
import Derived.Laws.Cells
import Derived.Laws.AppendOwn
import Derived.Laws.Slices
namespace Go.Clo
set_option linter.unusedSimpArgs false
set_option linter.unusedVariables false
set_option linter.unnecessarySimpa false
open Go Go.RowKit

variable {P : Program}

/-- A function of the interpreter does what an operation does that looks at no memory. -/
def PureOK (P : Program) (o : Oper) (f : Fr → M V) : Prop :=
  ∀ (ρ : Rho) (t : Fr) (a : Act) (v : V), FrE ρ t a.tmps → f t = .ok v → ∃ u, E ρ v u ∧ ∀ w, (execOp a.eval o).run P w = .ok (.value u) w

theorem run_value {s : Sem Value} {w : World} {u : Value} {w' : World} (h : s.run P w = .ok u w') : ((do pure (Next.value (← s))) : Sem Next).run P w = .ok (.value u) w' := by
  simp [h]

theorem sizeT_ok {t : TypeId} {n : Nat} (h : sizeT P t = some n) : ∃ i, P.info? t = some i ∧ i.size = n := by
  unfold sizeT at h
  split at h
  · rename_i i hi; injection h with h; exact ⟨i, hi, h⟩
  · cases h
theorem run_sizeT {t : TypeId} {n : Nat} (h : sizeT P t = some n) (w : World) : (sizeOf t).run P w = .ok n w := by
  obtain ⟨i, hi, hn⟩ := sizeT_ok h
  simp [sizeOf, typeInfo, hi, hn]
theorem run_isAggT {t : TypeId} {b : Bool} (h : isAggT P t = some b) (w : World) : (isAgg t).run P w = .ok b w := by
  unfold isAggT at h
  cases hu : P.underlying t with
  | none => simp [hu] at h
  | some d =>
    have hr := run_underlying hu w
    cases d <;> simp [hu] at h <;> subst h <;> simp [isAgg, hr]
theorem zeroT_ok {t : TypeId} {z : V} (h : zeroT P t = some z) : ∃ i u, P.info? t = some i ∧ i.zero = some u ∧ ofVal u = some z := by
  unfold zeroT at h
  split at h
  · rename_i i hi
    split at h
    · rename_i u hu; exact ⟨i, u, hi, hu, h⟩
    · cases h
  · cases h
theorem run_zeroT {t : TypeId} {z : V} (h : zeroT P t = some z) : ∃ u, ofVal u = some z ∧ ∀ w, (zeroValue t).run P w = .ok u w := by
  obtain ⟨i, u, hi, hu, ho⟩ := zeroT_ok h
  exact ⟨u, ho, fun w => by simp [zeroValue, typeInfo, hi, hu]⟩
theorem told_of1 {u : Value} {v : V} (h : ofVal1 u = some v) : told v = true := by
  cases v with
  | any =>
    exfalso
    unfold ofVal1 at h
    split at h <;> try cases h
    · split at h <;> cases h
    · unfold ofSl at h; split at h <;> (try split at h) <;> (try split at h) <;> cases h
    · split at h <;> cases h
    · unfold ofFn at h; split at h <;> (try split at h) <;> (try split at h) <;> cases h
  | _ => rfl
theorem told_of {u : Value} {v : V} (h : ofVal u = some v) : told v = true := by
  unfold ofVal at h
  split at h
  · obtain ⟨l, _, rfl⟩ := Option.map_eq_some_iff.1 h; rfl
  · obtain ⟨l, _, rfl⟩ := Option.map_eq_some_iff.1 h; rfl
  · obtain ⟨l, _, rfl⟩ := Option.map_eq_some_iff.1 h; rfl
  · exact told_of1 h
theorem E_cells {ρ : Rho} {v : V} {u : Value} (ht : told v = true) (h : E ρ v u) : EL ρ (cellsV v) u.cells.toList := by
  cases v with
  | any => have h0 := h; simp only [E] at h; cases u <;> first | exact EL.cons h0 EL.nil | exact absurd rfl (h.2.1 _)
  | agg l => simp only [E] at h; obtain ⟨us, rfl, hl⟩ := h; simpa [cellsV, Value.cells] using hl
  | tup l => have h0 := h; simp only [E] at h; obtain ⟨us, rfl, hl⟩ := h; exact EL.cons h0 EL.nil
  | fn f l => have h0 := h; simp only [E] at h; obtain ⟨us, rfl, hl⟩ := h; exact EL.cons h0 EL.nil
  | sl b o n c => have h0 := h; cases c <;> (simp only [E] at h; obtain ⟨l, hl, rfl⟩ := h; exact EL.cons h0 EL.nil)
  | ptr b o => have h0 := h; simp only [E] at h; obtain ⟨l, hl, rfl⟩ := h; exact EL.cons h0 EL.nil
  | map b => have h0 := h; simp only [E] at h; obtain ⟨l, hl, rfl⟩ := h; exact EL.cons h0 EL.nil
  | ifc t v => have h0 := h; simp only [E] at h; obtain ⟨l, rfl, hl⟩ := h; exact EL.cons h0 EL.nil
  | slz b o k => have h0 := h; simp only [E] at h; obtain ⟨l, hl, p, rfl, _⟩ := h; exact EL.cons h0 EL.nil
  | yld b => have h0 := h; simp only [E] at h; obtain ⟨l, hl, rfl⟩ := h; exact EL.cons h0 EL.nil
  | mfn f a c => have h0 := h; simp only [E] at h; obtain ⟨us, ws, rfl, _, _⟩ := h; exact EL.cons h0 EL.nil
  | _ => have h0 := h; simp only [E] at h; subst h; exact EL.cons h0 EL.nil

/-- The values without places. -/
theorem toVal1_ok {ρ : Rho} {v : V} {u x : Value} (h : toVal1 v = some x) (e : E ρ v u) : u = x := by
  cases v with
  | fn f c =>
    cases c with
    | nil => simp only [toVal1, Option.some.injEq] at h; simp only [E] at e; obtain ⟨us, rfl, hl⟩ := e; rw [EL.nil_inv hl, ← h]
    | cons => simp [toVal1] at h
  | _ => first
    | (simp only [toVal1, Option.some.injEq] at h; simp only [E] at e; rw [e, h]; done)
    | (simp [toVal1] at h; done)
theorem toVals_ok {ρ : Rho} : ∀ {l : List V} {us xs : List Value}, toVals l = some xs → EL ρ l us → us = xs
  | [], us, xs, h, e => by simp only [toVals, Option.some.injEq] at h; rw [EL.nil_inv e, h]
  | v :: l, us, xs, h, e => by
    simp only [toVals] at h
    split at h
    · rename_i a ha
      split at h
      · rename_i b hb
        injection h with h; subst h
        obtain ⟨u, r, rfl, h1, h2⟩ := EL.cons_inv e
        rw [toVal1_ok ha h1, toVals_ok hb h2]
      · cases h
    · cases h
theorem toVal_ok {ρ : Rho} {v : V} {u x : Value} (h : toVal v = some x) (e : E ρ v u) : u = x := by
  cases v with
  | agg l =>
    obtain ⟨xs, hx, rfl⟩ := Option.map_eq_some_iff.1 h
    simp only [E] at e; obtain ⟨us, rfl, hl⟩ := e; rw [toVals_ok hx hl]
  | ifc t v =>
    obtain ⟨y, hy, rfl⟩ := Option.map_eq_some_iff.1 h
    simp only [E] at e; obtain ⟨z, rfl, hl⟩ := e; rw [toVal1_ok hy hl]
  | _ => simp only [toVal] at h; exact toVal1_ok h e
theorem toVs_ok {ρ : Rho} : ∀ {l : List V} {us xs : List Value}, toVs l = some xs → EL ρ l us → us = xs
  | [], us, xs, h, e => by simp only [toVs, Option.some.injEq] at h; rw [EL.nil_inv e, h]
  | v :: l, us, xs, h, e => by
    simp only [toVs] at h
    split at h
    · rename_i a ha
      split at h
      · rename_i b hb
        injection h with h; subst h
        obtain ⟨u, r, rfl, h1, h2⟩ := EL.cons_inv e
        rw [toVal_ok ha h1, toVs_ok hb h2]
      · cases h
    · cases h
theorem pureVal_ok {α : Type} : ∀ {s : Sem α} {x : α}, pureVal P s = some x → ∀ w, s.run P w = .ok x w
  | .pure a, x, h, w => by simp only [pureVal, Option.some.injEq] at h; subst h; rfl
  | .program k, x, h, w => by simp only [pureVal] at h; exact pureVal_ok h w
  | .mark m k, x, h, w => by simp only [pureVal] at h; exact pureVal_ok h w
  | .load .., _, h, _ | .store .., _, h, _ | .new .., _, h, _ | .shape .., _, h, _ | .freeze .., _, h, _ | .frozen .., _, h, _ | .getObj .., _, h, _ | .setObj .., _, h, _ | .choose .., _, h, _ | .sys .., _, h, _ | .halt .., _, h, _ => by simp [pureVal] at h
theorem tmpAt_ok (a : Act) (i : Nat) : ∀ (os : List Operand), Operand.tmp i ∈ os → tmpAt os (os.map a.eval) i = a.eval (.tmp i)
  | [], h => by cases h
  | x :: os, h => by
    cases x with
    | tmp j =>
      show (match Nat.beq j i with | true => a.eval (.tmp j) | false => tmpAt os (os.map a.eval) i) = _
      cases hb : Nat.beq j i with
      | true => rw [Nat.eq_of_beq_eq_true hb]
      | false =>
        refine tmpAt_ok a i os ?_
        rcases List.mem_cons.1 h with h | h
        · injection h with h; subst h; rw [show Nat.beq i i = true from Nat.beq_refl i] at hb; cases hb
        · exact h
    | const v => exact tmpAt_ok a i os ((List.mem_cons.1 h).resolve_left (by simp))
    | global g => exact tmpAt_ok a i os ((List.mem_cons.1 h).resolve_left (by simp))
    | func f => exact tmpAt_ok a i os ((List.mem_cons.1 h).resolve_left (by simp))
theorem pureOp_ok {o : Oper} (hs : ∀ cs b, o.op ≠ .select cs b) : PureOK P o (pureOp P o) := by
  intro ρ t a v hf h
  unfold pureOp at h
  obtain ⟨vs, h1, h⟩ := M.bind_ok h
  obtain ⟨us, h2, h⟩ := M.bind_ok h
  have e := toVs_ok (need_ok h2) (evs_ok hf h1)
  subst e
  have hc : execOp (opnd o.op.operands.toList (o.op.operands.toList.map a.eval)) o = execOp a.eval o := by
    refine execOp_congr o hs fun x hx => ?_
    cases x with
    | tmp i => exact tmpAt_ok a i _ (by simpa using hx)
    | const u => rfl
    | global g => rfl
    | func f => rfl
  rw [hc] at h
  split at h
  · rename_i u hu
    exact ⟨u, ofVal_ok (need_ok h), fun w => pureVal_ok hu w⟩
  · cases h
theorem gMove_ok {o : Oper} {x : Operand} (ho : o.op = .move x ∨ o.op = .assign x) : PureOK P o (gMove x) := by
  intro ρ t a v hf h
  refine ⟨a.eval x, ev_ok hf h, fun w => ?_⟩
  rcases ho with ho | ho <;> simp [execOp, ho]
theorem gPick_ok {o : Oper} {c x y : Operand} (ho : o.op = .pick c x y) : PureOK P o (gPick c x y) := by
  intro ρ t a v hf h
  unfold gPick at h
  obtain ⟨b, h1, h⟩ := M.bind_ok h
  have e1 := ev_ok hf h1
  split at h
  · simp only [E] at e1; exact ⟨_, ev_ok hf h, fun w => by simp [execOp, ho, e1, asBool]⟩
  · simp only [E] at e1; exact ⟨_, ev_ok hf h, fun w => by simp [execOp, ho, e1, asBool]⟩
  · cases h

/-- Writing over a list. -/
theorem over0_eq : ∀ {c l r : List V}, over0 c l = .ok r → r = l ++ c.drop l.length ∧ l.length ≤ c.length
  | [], [], r, h => by have : M.ok [] = M.ok r := h; injection this with this; subst this; simp
  | [], x :: l, r, h => by have : (M.err "store outside" : M (List V)) = .ok r := h; cases this
  | a :: c, [], r, h => by have : M.ok (a :: c) = M.ok r := h; injection this with this; subst this; simp
  | a :: c, x :: l, r, h => by
    have h : (over0 c l).bind (fun r => .ok (x :: r)) = .ok r := h
    obtain ⟨r', h1, h2⟩ := M.bind_ok h
    injection h2 with h2; subst h2
    obtain ⟨e1, e2⟩ := over0_eq h1
    subst e1; simp; exact e2
theorem over_eq : ∀ {c : List V} {n : Nat} {l r : List V}, over c n l = .ok r → r = c.take n ++ l ++ c.drop (n + l.length) ∧ (n + l.length ≤ c.length ∨ l = [])
  | [], n, l, r, h => by
    have h : over0 [] l = .ok r := h
    obtain ⟨e1, e2⟩ := over0_eq h
    simp at e2; subst e2; simpa using e1
  | a :: c, 0, l, r, h => by
    have h : over0 (a :: c) l = .ok r := h
    obtain ⟨e1, e2⟩ := over0_eq h
    subst e1; exact ⟨by simp, Or.inl (by simpa using e2)⟩
  | a :: c, n + 1, l, r, h => by
    have h : (over c n l).bind (fun r => .ok (a :: r)) = .ok r := h
    obtain ⟨r', h1, h2⟩ := M.bind_ok h
    injection h2 with h2; subst h2
    obtain ⟨e1, e2⟩ := over_eq h1
    subst e1
    refine ⟨by simp [Nat.add_right_comm n 1], ?_⟩
    rcases e2 with e2 | e2
    · left; simp; omega
    · right; exact e2
theorem over_len {c : List V} {n : Nat} {l r : List V} (h : over c n l = .ok r) : r.length = c.length := by
  obtain ⟨e1, e2⟩ := over_eq h
  subst e1
  rcases e2 with e2 | e2
  · simp; omega
  · subst e2; simp
theorem EL.over {ρ : Rho} {c : List V} {n : Nat} {l r : List V} {us xs : List Value} (h : over c n l = .ok r) (hc : EL ρ c us) (hl : EL ρ l xs) : EL ρ r (us.take n ++ xs ++ us.drop (n + xs.length)) := by
  obtain ⟨e1, _⟩ := over_eq h
  subst e1
  rw [hl.len]
  exact ((hc.take n).app hl).app (hc.drop _)
theorem fold_over (us : Array Value) (off : Nat) : ∀ (xs : List Value) (k : Nat), off + k + xs.length ≤ us.size →
    ((xs.zipIdx k).foldl (fun cs (p : Value × Nat) => cs.setIfInBounds (off + p.2) p.1) us).toList = us.toList.take (off + k) ++ xs ++ us.toList.drop (off + k + xs.length) := by
  intro xs
  induction xs generalizing us with
  | nil => intro k _; simp
  | cons x xs ih =>
    intro k h
    simp only [List.zipIdx_cons, List.foldl_cons]
    rw [ih _ (k + 1) (by simp at h ⊢; omega)]
    have e := list_seg_step us.toList (off + k) x xs (by simp at h ⊢; omega)
    simpa [Array.toList_setIfInBounds, Nat.add_assoc] using e

theorem pairs_ok {ρ : Rho} {t : Fr} {a : Act} (hf : FrE ρ t a.tmps) : ∀ {ps : List (Nat × Operand)} {l : List (Nat × V)}, pairs t ps = .ok l →
    l.map (·.1) = ps.map (·.1) ∧ EL ρ (l.map (·.2)) (ps.map fun p => a.eval p.2)
  | [], l, h => by have : M.ok [] = M.ok l := h; injection this with this; subst this; exact ⟨rfl, EL.nil⟩
  | (i, x) :: ps, l, h => by
    have h : ((ev t x).bind fun v => (pairs t ps).bind fun r => M.ok ((i, v) :: r)) = .ok l := h
    obtain ⟨v, h1, h⟩ := M.bind_ok h
    obtain ⟨r, h2, h⟩ := M.bind_ok h
    injection h with h; subst h
    obtain ⟨e1, e2⟩ := pairs_ok hf h2
    exact ⟨by simp [e1], EL.cons (ev_ok hf h1) e2⟩
theorem fillV_ok {ρ : Rho} (place : Nat → Option (Nat × Nat)) : ∀ {l : List (Nat × V)} {us : List (Nat × Value)} {c r : List V} {cs : Array Value}, fillV place c l = .ok r → l.map (·.1) = us.map (·.1) → EL ρ (l.map (·.2)) (us.map (·.2)) → EL ρ c cs.toList →
    ∃ rs : Array Value, Instr.fill place cs us = some rs ∧ EL ρ r rs.toList
  | [], us, c, r, cs, h, h1, h2, h3 => by
    have : M.ok c = M.ok r := h; injection this with this; subst this
    cases us with
    | nil => exact ⟨cs, rfl, h3⟩
    | cons => simp at h1
  | (i, v) :: l, us, c, r, cs, h, h1, h2, h3 => by
    have h : (fill1 v c (place i)).bind (fun c' => fillV place c' l) = .ok r := h
    obtain ⟨c', h4, h5⟩ := M.bind_ok h
    cases us with
    | nil => simp at h1
    | cons p us =>
      obtain ⟨i', u⟩ := p
      simp only [List.map_cons, List.cons.injEq] at h1
      obtain ⟨rfl, h1⟩ := h1
      obtain ⟨u', r', e, hv, h2⟩ := EL.cons_inv h2
      simp only [List.map_cons, List.cons.injEq] at e
      obtain ⟨rfl, rfl⟩ := e
      unfold fill1 at h4
      split at h4
      · cases h4
      · rename_i p hp
        obtain ⟨htold, h4⟩ := ask_ok h4
        obtain ⟨hsz, hov⟩ := ask_ok h4
        rw [Bool.and_eq_true] at hsz
        have hcell := E_cells htold hv
        have hlen := hcell.len
        have hpos : 0 < p.2 := Nat.le_of_ble_eq_true hsz.2
        have hsz : (cellsV v).length = p.2 := by rw [← lenN_eq]; exact Nat.eq_of_beq_eq_true hsz.1
        have hu : u.cells.size = p.2 := by simp at hlen; omega
        have hc := h3.len
        have hcl : p.1 + u.cells.size ≤ cs.size := by
          rcases (over_eq hov).2 with hh | hh
          · simp at hc hlen; omega
          · rw [hh] at hsz; simp at hsz; omega
        have hE := EL.over hov h3 hcell
        have hfold := fold_over cs p.1 u.cells.toList 0 (by simpa using hcl)
        simp only [Nat.add_zero] at hfold
        obtain ⟨rs, hrs, he⟩ := fillV_ok place (cs := (u.cells.toList.zipIdx.foldl (fun cs (q : Value × Nat) => cs.setIfInBounds (p.1 + q.2) q.1) cs)) h5 h1 h2 (by rw [hfold]; exact hE)
        refine ⟨rs, ?_, he⟩
        unfold Instr.fill
        rw [hp]
        simp only
        rw [if_neg (by simp [hu]; omega)]
        rw [← hrs]
        congr 1
        rw [← Array.foldl_toList]; simp
end Go.Clo
