/- The interpreter of closed runs, a part of it. -/
import Derived.Test.YtlkehdlhlpbomaaVM
namespace Go.Clo
set_option linter.unusedSimpArgs false
set_option linter.unusedVariables false
set_option linter.unnecessarySimpa false
open Go Go.RowKit

variable {P : Program} {W0 : World}

def exitOf : Ex → Exit
  | .normal => .normal
  | .exit id => .exit id
  | .goto l => .goto l
  | .ret => .ret
/-- What stands behind a part of a run. -/
def Post (W0 : World) (ρ : Rho) (s : St) (w : World) (x : Ex) (t' : Fr) (s' : St) : Exit → Act → World → Prop :=
  fun e a' w' => e = exitOf x ∧ a'.defers = [] ∧ ∃ ρ', Step W0 ρ s w ρ' s' w' ∧ FrE ρ' t' a'.tmps
theorem Post.trans {ρ ρ1 : Rho} {s s1 : St} {w w1 : World} (h : Step W0 ρ s w ρ1 s1 w1) {x : Ex} {t' : Fr} {s' : St} {e : Exit} {a' : Act} {w' : World} (k : Post W0 ρ1 s1 w1 x t' s' e a' w') : Post W0 ρ s w x t' s' e a' w' := by
  obtain ⟨h1, h2, ρ', h3, h4⟩ := k
  exact ⟨h1, h2, ρ', h.trans h3, h4⟩
def RunOK (P : Program) (W0 : World) (ih : Run) : Prop :=
  ∀ c t s x t' s', ih c t s = .ok x t' s' → ∀ ρ w a, Rel W0 ρ s w → FrE ρ t a.tmps → a.defers = [] → c.wp P (Post W0 ρ s w x t' s') a w
/-- What a call is worth. -/
def Ret (W0 : World) (ρ : Rho) (s : St) (w : World) (v : V) (s' : St) : Ending → World → Prop :=
  fun e w' => ∃ ρ' u, e = .returned u ∧ Step W0 ρ s w ρ' s' w' ∧ E ρ' v u
def HookOK (P : Program) (W0 : World) (H : Hook) : Prop :=
  ∀ f args s v s', H f args s = some (.ok (v, s')) → ∀ ρ w (us : List Value), Rel W0 ρ s w → EL ρ args us → Calls P f us.toArray w (Ret W0 ρ s w v s')

/-- Frames at their begin. -/
theorem fillF_cons (v : V) (l : List V) (t : Tr V) (i : Nat) : fillF (v :: l) t i = fillF l (t.set i v) (i + 1) := rfl
theorem get_fillF : ∀ (l : List V) (t : Tr V) (i j : Nat), (fillF l t i).get j = if i ≤ j ∧ j < i + l.length then l[j - i]? else t.get j
  | [], t, i, j => by
    have h : ¬ (i ≤ j ∧ j < i + ([] : List V).length) := by simp only [List.length_nil]; omega
    rw [if_neg h]; rfl
  | v :: l, t, i, j => by
    rw [fillF_cons, get_fillF l (t.set i v) (i + 1) j, Tr.get_set]
    simp only [List.length_cons]
    by_cases h1 : j = i
    · subst h1
      rw [if_neg (by omega), if_pos rfl, if_pos (by omega)]
      simp
    · by_cases h2 : i + 1 ≤ j ∧ j < i + 1 + l.length
      · rw [if_pos h2, if_pos (by omega), show j - i = (j - (i + 1)) + 1 by omega]
        simp
      · rw [if_neg h2, if_neg h1, if_neg (by omega)]
theorem enterF_ok {ρ : Rho} {args : List V} {us : List Value} (h : EL ρ args us) (n : Nat) : FrE ρ (enterF args (Nat.max n (lenN args))) (us.toArray ++ Array.replicate (n - us.toArray.size) undef) := by
  have hl := h.len
  refine ⟨?_, fun i => ?_⟩
  · show _ = Nat.max n (lenN args)
    rw [lenN_eq]
    simp [hl]
    show _ = max n args.length
    omega
  · have hg : (enterF args (Nat.max n (lenN args))).get i = match (if 0 ≤ i ∧ i < 0 + args.length then args[i - 0]? else none) with | some v => v | none => undefV := by
      unfold Fr.get enterF
      simp only
      rw [get_fillF]
      rfl
    rw [hg]
    by_cases hi : i < args.length
    · rw [if_pos (by omega)]
      simp only [Nat.sub_zero]
      have h1 : args[i]? = some args[i] := by simp [hi]
      rw [h1]
      obtain ⟨u, hu, he⟩ := h.at h1
      have h2 : (us.toArray ++ Array.replicate (n - us.toArray.size) undef).getD i undef = u := by
        have : i < us.length := by omega
        have h3 : us[i] = u := (List.getElem?_eq_some_iff.1 hu).2
        simp [Array.getElem?_append, this, h3]
      rw [h2]; exact he
    · rw [if_neg (by omega)]
      have h2 : (us.toArray ++ Array.replicate (n - us.toArray.size) undef).getD i undef = undef := by
        have : ¬ i < us.length := by omega
        simp [Array.getElem?_append, this, Array.getElem?_replicate]
        split <;> rfl
      rw [h2]; exact E_undef

/-- The results of a call. -/
def resOne (tmps : Array Value) (x : ResultVar) : Sem Value := match x with
  | .tmp i => pure (tmps.getD i undef)
  | .cell x ty => do loadVar ty (← asAddr (tmps.getD x undef))
theorem results_eq (fn : Func) (tmps : Array Value) : results fn tmps = (do
    let vs ← fn.results.mapM (resOne tmps)
    pure (if h : vs.size = 1 then vs[0] else .tuple vs)) := by
  unfold results
  rfl
theorem resV_ok {ρ : Rho} {s : St} {w : World} {t : Fr} {a : Act} (hR : Rel W0 ρ s w) (hf : FrE ρ t a.tmps) : ∀ {l : List ResultVar} {r : List V}, resV P t s l = .ok r →
    ∃ us : List Value, EL ρ r us ∧ (l.mapM (resOne a.tmps)).run P w = .ok us w
  | [], r, h => by
    have : M.ok [] = M.ok r := h
    injection this with this; subst this
    exact ⟨[], EL.nil, rfl⟩
  | .tmp i :: l, r, h => by
    have h : (resV P t s l).bind (fun r => .ok (t.get i :: r)) = .ok r := h
    obtain ⟨r', h1, h2⟩ := M.bind_ok h
    injection h2 with h2; subst h2
    obtain ⟨us, h3, h4⟩ := resV_ok hR hf h1
    exact ⟨_, EL.cons (hf.2 i) h3, by simp only [List.mapM_cons, resOne, Sem.run_bind, Sem.run_pure, Result.andThen_ok, h4]⟩
  | .cell x ty :: l, r, h => by
    have h : (need (isAggT P ty) "result").bind (fun ag => (need (sizeT P ty) "result").bind fun n => (gLoad ag n (.tmp x) t s).bind fun v => (resV P t s l).bind fun r => .ok (v :: r)) = .ok r := h
    obtain ⟨ag, h1, h⟩ := M.bind_ok h
    obtain ⟨n, h2, h⟩ := M.bind_ok h
    obtain ⟨v, h3, h⟩ := M.bind_ok h
    obtain ⟨r', h4, h⟩ := M.bind_ok h
    injection h with h; subst h
    obtain ⟨us, h5, h6⟩ := resV_ok hR hf h4
    unfold gLoad at h3
    obtain ⟨p, h7, h3⟩ := M.bind_ok h3
    have e1 := ev_ok hf h7
    split at h3
    · simp only [E] at e1; obtain ⟨m, hm, hx⟩ := e1
      obtain ⟨u, hE, hr⟩ := loadVar_ok (P := P) (v := v) hR (need_ok h1) (need_ok h2) hm (by cases ag <;> exact h3)
      have hx : a.tmps.getD x undef = _ := hx
      refine ⟨_, EL.cons hE h5, ?_⟩
      simp only [List.mapM_cons, resOne, Sem.run_bind, hx, asAddr, Sem.run_pure, Result.andThen_ok, hr, h6]
    · cases h3
    · cases h3
theorem single_ok {ρ : Rho} {r : List V} {us : List Value} (h : EL ρ r us) : E ρ (single r) (if h : us.toArray.size = 1 then us.toArray[0] else .tuple us.toArray) := by
  cases r with
  | nil => rw [EL.nil_inv h]; simp only [single, E]; exact ⟨[], rfl, EL.nil⟩
  | cons v r =>
    obtain ⟨u, q, rfl, h1, h2⟩ := EL.cons_inv h
    cases r with
    | nil => rw [EL.nil_inv h2]; simpa [single] using h1
    | cons v' r =>
      obtain ⟨u', q', rfl, h3, h4⟩ := EL.cons_inv h2
      simp only [single, E]
      exact ⟨u :: u' :: q', by simp, h⟩
theorem run_results {ρ : Rho} {s : St} {w : World} {t : Fr} {a : Act} (hR : Rel W0 ρ s w) (hf : FrE ρ t a.tmps) {fn : Func} {r : List V} (h : resV P t s fn.results.toList = .ok r) :
    ∃ u, E ρ (single r) u ∧ (results fn a.tmps).run P w = .ok u w := by
  obtain ⟨us, h1, h2⟩ := resV_ok (P := P) hR hf h
  refine ⟨_, single_ok h1, ?_⟩
  have hl : fn.results = fn.results.toList.toArray := by simp
  rw [results_eq, hl, List.mapM_toArray]
  simp only [Sem.run_bind, Sem.run_map]
  rw [h2]
  simp
theorem callable_ok {f : FuncId} (h : callable P f = true) : ∃ fn body, P.funcs[f]? = some fn ∧ fn.body = some body ∧ (fn.name == "runtime.NumGoroutine") = false := by
  unfold callable at h
  split at h
  · rename_i fn hfn
    rw [Bool.and_eq_true] at h
    obtain ⟨body, hb⟩ := Option.isSome_iff_exists.1 h.1
    exact ⟨fn, body, hfn, hb, by simpa using h.2⟩
  · cases h
theorem callV_ok {H : Hook} {ih : Run} (hih : RunOK P W0 ih) (hH : HookOK P W0 H) {f : FuncId} {args : List V} {s s' : St} {v : V} (h : callV P H ih f args s = .ok (v, s')) {ρ : Rho} {w : World} {us : List Value} (hR : Rel W0 ρ s w) (he : EL ρ args us) :
    Calls P f us.toArray w (Ret W0 ρ s w v s') := by
  unfold callV at h
  cases hh : H f args s with
  | some r =>
    rw [hh] at h
    simp only at h
    subst h
    exact hH f args s v s' hh ρ w us hR he
  | none =>
    rw [hh] at h
    simp only at h
    cases hfn : P.funcs[f]? with
    | none => rw [hfn] at h; cases h
    | some fn =>
      rw [hfn] at h
      simp only at h
      cases hb : fn.body with
      | none => rw [hb] at h; cases h
      | some body =>
        rw [hb] at h
        simp only at h
        cases hx : ih body (enterF args (Nat.max fn.ntmps (lenN args))) s with
        | err e => rw [hx] at h; cases h
        | ok x t1 s1 =>
          rw [hx] at h
          simp only at h
          have hwp := hih _ _ _ _ _ _ hx ρ w { tmps := us.toArray ++ Array.replicate (fn.ntmps - us.toArray.size) undef, defers := [] } hR (enterF_ok he fn.ntmps) rfl
          refine calls_of_wp hfn hb (wp_mono hwp fun e a' w' hp => ?_)
          obtain ⟨rfl, hd, ρ', hst, hf⟩ := hp
          have fin : ∀ {m : M (V × St)}, ((resV P t1 s1 fn.results.toList).bind fun l => M.ok (single l, s1)) = .ok (v, s') → a'.defers = [] ∧ ∃ u, (results fn a'.tmps).run P w' = .ok u w' ∧ Ret W0 ρ s w v s' (.returned u) w' := fun {_} h => by
            obtain ⟨r, h1, h2⟩ := M.bind_ok h
            injection h2 with h2
            simp only [Prod.mk.injEq] at h2
            obtain ⟨rfl, rfl⟩ := h2
            obtain ⟨u, hu, hr⟩ := run_results (P := P) hst.rel hf h1
            exact ⟨hd, u, hr, ρ', u, rfl, hst, hu⟩
          cases x with
          | normal => exact fin (m := .err "") h
          | ret => exact fin (m := .err "") h
          | exit id => cases h
          | goto l => cases h

/-- An operation, in a region. -/
theorem operV_at {H : Hook} {ih : Run} (hih : RunOK P W0 ih) (hH : HookOK P W0 H) {o : Oper} {t : Fr} {s s' : St} {v : V} (h : operV P H ih t s (opF P o) = .ok (v, s')) {ρ : Rho} {w : World} {a : Act} (hR : Rel W0 ρ s w) {c : Act} (heq : execOp c.eval o = execOp a.eval o) (hf : FrE ρ t c.tmps)
    {K : Act → World → Prop} {Q : Exit → Act → World → Prop} (hK : ∀ ρ' u w', Step W0 ρ s w ρ' s' w' → E ρ' v u → K (a.put o.dst u) w') : o.wp P a w K Q := by
  have hok := opF_ok (P := P) o
  unfold Oper.wp
  rw [← heq]
  cases hF : opF P o with
  | pure f =>
    rw [hF] at h hok
    obtain ⟨v', h1, h2⟩ := M.bind_ok h
    injection h2 with h2
    simp only [Prod.mk.injEq] at h2
    obtain ⟨rfl, rfl⟩ := h2
    obtain ⟨u, hE, hr⟩ := hok ρ t c _ hf h1
    rw [hr w]
    exact hK ρ u w (Step.refl hR) hE
  | read f =>
    rw [hF] at h hok
    obtain ⟨v', h1, h2⟩ := M.bind_ok h
    injection h2 with h2
    simp only [Prod.mk.injEq] at h2
    obtain ⟨rfl, rfl⟩ := h2
    obtain ⟨u, hE, hr⟩ := hok W0 ρ s w t c _ hR hf h1
    rw [hr]
    exact hK ρ u w (Step.refl hR) hE
  | float f =>
    rw [hF] at h hok
    obtain ⟨⟨v', x⟩, h1, h2⟩ := M.bind_ok h
    injection h2 with h2
    simp only [Prod.mk.injEq] at h2
    obtain ⟨rfl, rfl⟩ := h2
    obtain ⟨hal, hw⟩ := hok ρ t c _ _ _ hf h1
    obtain ⟨u, obj, hr, hρ⟩ := hw w
    rw [hr]
    have hn : ρ s.size = none := hR.fresh _ (Nat.le_refl _)
    have hEu := hρ (ρ.upd s.size ⟨w.heap.size, 0, 0⟩) (Rho.le_upd _ hn) (Rho.upd_same _ _ _)
    exact hK _ u _ (Step.alloc hR x obj 0 hal hEu.2) hEu.1
  | eff f =>
    rw [hF] at h hok
    obtain ⟨u, w', ρ', hr, hst, hE⟩ := hok W0 ρ s w t c v s' hR hf h
    rcases hr with hr | ⟨hr, rfl⟩
    · rw [hr]; exact hK ρ' u w' hst hE
    · rw [hr]; exact hK ρ' undef w' hst hE
  | call fo args =>
    rw [hF] at h hok
    obtain ⟨cl, hc, hcal, hargs⟩ := hok
    obtain ⟨fv, h1, h2⟩ := M.bind_ok h
    have e1 := ev_ok hf h1
    cases fv with
    | fn g cap =>
      obtain ⟨h3, h2⟩ := ask_ok h2
      obtain ⟨l, h4, h2⟩ := M.bind_ok h2
      rw [appN_eq] at h2
      have e2 := evs_ok hf h4
      simp only [E] at e1
      obtain ⟨us, hx, hE⟩ := e1
      obtain ⟨fn, body, hfn, hb, hnm⟩ := callable_ok h3
      have hrun : (execOp c.eval o).run P w = .ok (.enter g (args.map c.eval ++ us).toArray) w := by
        simp only [execOp, hc, resolve, hcal, Sem.run_bind, hx, Deferred.ofValue, Sem.run_pure, Result.andThen_ok, invoke, callFunc, run_program, hfn, hnm, hb]
        have : cl.args = args.toArray := by rw [← hargs]
        rw [this]
        simp
      rw [hrun]
      show Calls P g _ w _
      refine (callV_ok hih hH h2 hR (e2.app hE)).mono fun e w' hret => ?_
      obtain ⟨ρ', u, rfl, hst, hEu⟩ := hret
      exact hK ρ' u w' hst hEu
    | _ => cases h2
  | bad e => rw [hF] at h; cases h
theorem operV_ok {H : Hook} {ih : Run} (hih : RunOK P W0 ih) (hH : HookOK P W0 H) {o : Oper} {t : Fr} {s s' : St} {v : V} (h : operV P H ih t s (opF P o) = .ok (v, s')) {ρ : Rho} {w : World} {a : Act} (hR : Rel W0 ρ s w) (hf : FrE ρ t a.tmps)
    {K : Act → World → Prop} {Q : Exit → Act → World → Prop} (hK : ∀ ρ' u w', Step W0 ρ s w ρ' s' w' → E ρ' v u → K (a.put o.dst u) w') : o.wp P a w K Q := operV_at hih hH h hR rfl hf hK
end Go.Clo
