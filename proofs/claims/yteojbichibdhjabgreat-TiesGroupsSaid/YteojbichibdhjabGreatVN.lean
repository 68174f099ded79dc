/- The interpreter of closed runs, a part of it. -/
import Derived.Test.YteojbichibdhjabGreatVM
import Derived.RangeFuncIn
import Derived.RangeFuncNested
import Derived.RangeFuncLeaves
namespace Go.Clo
set_option linter.unusedSimpArgs false
set_option linter.unusedVariables false
set_option linter.unnecessarySimpa false
open Go Go.RowKit

variable {P : Program} {W0 : World}

def exitOf : Ex → Exit
  | .normal => .normal
  | .exit id => .exit id
  | .goto l => .goto l
  | .ret => .ret
/-- No fence but that the frame is a round's, or none. -/
def FR (r : Option Nat) : Fence := { Fence.wide with round := r }
theorem FR_fn (r : Option Nat) (f : FuncId) : (FR r).fn f := trivial
/-- What stands behind a part of a run. -/
def Post (W0 : World) (B : Nat) (r : Option Nat) (ρ : Rho) (s : St) (w : World) (x : Ex) (t' : Fr) (s' : St) : Exit → Act → World → Prop :=
  fun e a' w' => e = exitOf x ∧ ∃ ρ', Step W0 ρ s w ρ' s' w' ∧ FrA B r ρ' s' w' t' a'
theorem Post.trans {B : Nat} {r : Option Nat} {ρ ρ1 : Rho} {s s1 : St} {w w1 : World} (h : Step W0 ρ s w ρ1 s1 w1) {x : Ex} {t' : Fr} {s' : St} {e : Exit} {a' : Act} {w' : World} (k : Post W0 B r ρ1 s1 w1 x t' s' e a' w') : Post W0 B r ρ s w x t' s' e a' w' := by
  obtain ⟨h1, ρ', h3, h4⟩ := k
  exact ⟨h1, ρ', h.trans h3, h4⟩
def RunOK (P : Program) (W0 : World) (ih : Run) : Prop :=
  ∀ c t s x t' s', ih c t s = .ok x t' s' → ∀ ρ w a B r, Rel W0 ρ s w → FrA B r ρ s w t a → B ≤ w.heap.size → c.wpIn (FR r) 0 P (Post W0 B r ρ s w x t' s') a w
/-- What a call is worth. -/
def Ret (W0 : World) (ρ : Rho) (s : St) (w : World) (v : V) (s' : St) : Ending → World → Prop :=
  fun e w' => ∃ ρ' u, e = .returned u ∧ Step W0 ρ s w ρ' s' w' ∧ E ρ' v u
def HookOK (P : Program) (W0 : World) (H : Hook) : Prop :=
  ∀ f args s v s', H f args s = some (.ok (v, s')) → ∀ ρ w (us : List Value), Rel W0 ρ s w → EL ρ args us → Calls P f us.toArray w (Ret W0 ρ s w v s')

/-- Frames at their begin. -/
theorem fillF_cons (v : V) (l : List V) (t : Tr V) (i : Nat) : fillF (v :: l) t i = fillF l (t.set i v) (i + 1) := rfl
theorem get_fillF : ∀ (l : List V) (t : Tr V) (i j : Nat), (fillF l t i).get j = if i ≤ j ∧ j < i + l.length then l[j - i]? else t.get j
  | [], t, i, j => by
    have h : ¬ (i ≤ j ∧ j < i + ([] : List V).length) := by simp only [List.length_nil]; omega
    rw [if_neg h]; rfl
  | v :: l, t, i, j => by
    rw [fillF_cons, get_fillF l (t.set i v) (i + 1) j, Tr.get_set]
    simp only [List.length_cons]
    by_cases h1 : j = i
    · subst h1
      rw [if_neg (by omega), if_pos rfl, if_pos (by omega)]
      simp
    · by_cases h2 : i + 1 ≤ j ∧ j < i + 1 + l.length
      · rw [if_pos h2, if_pos (by omega), show j - i = (j - (i + 1)) + 1 by omega]
        simp
      · rw [if_neg h2, if_neg h1, if_neg (by omega)]
theorem enterF_ok {ρ : Rho} {args : List V} {us : List Value} (h : EL ρ args us) (n : Nat) : FrE ρ (enterF args (Nat.max n (lenN args))) (us.toArray ++ Array.replicate (n - us.toArray.size) undef) := by
  have hl := h.len
  refine ⟨?_, fun i => ?_⟩
  · show _ = Nat.max n (lenN args)
    rw [lenN_eq]
    simp [hl]
    show _ = max n args.length
    omega
  · have hg : (enterF args (Nat.max n (lenN args))).get i = match (if 0 ≤ i ∧ i < 0 + args.length then args[i - 0]? else none) with | some v => v | none => undefV := by
      unfold Fr.get enterF
      simp only
      rw [get_fillF]
      rfl
    rw [hg]
    by_cases hi : i < args.length
    · rw [if_pos (by omega)]
      simp only [Nat.sub_zero]
      have h1 : args[i]? = some args[i] := by simp [hi]
      rw [h1]
      obtain ⟨u, hu, he⟩ := h.at h1
      have h2 : (us.toArray ++ Array.replicate (n - us.toArray.size) undef).getD i undef = u := by
        have : i < us.length := by omega
        have h3 : us[i] = u := (List.getElem?_eq_some_iff.1 hu).2
        simp [Array.getElem?_append, this, h3]
      rw [h2]; exact he
    · rw [if_neg (by omega)]
      have h2 : (us.toArray ++ Array.replicate (n - us.toArray.size) undef).getD i undef = undef := by
        have : ¬ i < us.length := by omega
        simp [Array.getElem?_append, this, Array.getElem?_replicate]
        split <;> rfl
      rw [h2]; exact E_undef

/-- The results of a call. -/
def resOne (tmps : Array Value) (x : ResultVar) : Sem Value := match x with
  | .tmp i => pure (tmps.getD i undef)
  | .cell x ty => do loadVar ty (← asAddr (tmps.getD x undef))
theorem results_eq (fn : Func) (tmps : Array Value) : results fn tmps = (do
    let vs ← fn.results.mapM (resOne tmps)
    pure (if h : vs.size = 1 then vs[0] else .tuple vs)) := by
  unfold results
  rfl
theorem resV_ok {ρ : Rho} {s : St} {w : World} {t : Fr} {a : Act} (hR : Rel W0 ρ s w) (hf : FrE ρ t a.tmps) : ∀ {l : List ResultVar} {r : List V}, resV P t s l = .ok r →
    ∃ us : List Value, EL ρ r us ∧ (l.mapM (resOne a.tmps)).run P w = .ok us w
  | [], r, h => by
    have : M.ok [] = M.ok r := h
    injection this with this; subst this
    exact ⟨[], EL.nil, rfl⟩
  | .tmp i :: l, r, h => by
    have h : (resV P t s l).bind (fun r => .ok (t.get i :: r)) = .ok r := h
    obtain ⟨r', h1, h2⟩ := M.bind_ok h
    injection h2 with h2; subst h2
    obtain ⟨us, h3, h4⟩ := resV_ok hR hf h1
    exact ⟨_, EL.cons (hf.2 i) h3, by simp only [List.mapM_cons, resOne, Sem.run_bind, Sem.run_pure, Result.andThen_ok, h4]⟩
  | .cell x ty :: l, r, h => by
    have h : (need (isAggT P ty) "result").bind (fun ag => (need (sizeT P ty) "result").bind fun n => (gLoad ag n (.tmp x) t s).bind fun v => (resV P t s l).bind fun r => .ok (v :: r)) = .ok r := h
    obtain ⟨ag, h1, h⟩ := M.bind_ok h
    obtain ⟨n, h2, h⟩ := M.bind_ok h
    obtain ⟨v, h3, h⟩ := M.bind_ok h
    obtain ⟨r', h4, h⟩ := M.bind_ok h
    injection h with h; subst h
    obtain ⟨us, h5, h6⟩ := resV_ok hR hf h4
    unfold gLoad at h3
    obtain ⟨p, h7, h3⟩ := M.bind_ok h3
    have e1 := ev_ok hf h7
    split at h3
    · simp only [E] at e1; obtain ⟨m, hm, hx⟩ := e1
      obtain ⟨u, hE, hr⟩ := loadVar_ok (P := P) (v := v) hR (need_ok h1) (need_ok h2) hm (by cases ag <;> exact h3)
      have hx : a.tmps.getD x undef = _ := hx
      refine ⟨_, EL.cons hE h5, ?_⟩
      simp only [List.mapM_cons, resOne, Sem.run_bind, hx, asAddr, Sem.run_pure, Result.andThen_ok, hr, h6]
    · cases h3
    · cases h3
theorem single_ok {ρ : Rho} {r : List V} {us : List Value} (h : EL ρ r us) : E ρ (single r) (if h : us.toArray.size = 1 then us.toArray[0] else .tuple us.toArray) := by
  cases r with
  | nil => rw [EL.nil_inv h]; simp only [single, E]; exact ⟨[], rfl, EL.nil⟩
  | cons v r =>
    obtain ⟨u, q, rfl, h1, h2⟩ := EL.cons_inv h
    cases r with
    | nil => rw [EL.nil_inv h2]; simpa [single] using h1
    | cons v' r =>
      obtain ⟨u', q', rfl, h3, h4⟩ := EL.cons_inv h2
      simp only [single, E]
      exact ⟨u :: u' :: q', by simp, h⟩
theorem run_results {ρ : Rho} {s : St} {w : World} {t : Fr} {a : Act} (hR : Rel W0 ρ s w) (hf : FrE ρ t a.tmps) {fn : Func} {r : List V} (h : resV P t s fn.results.toList = .ok r) :
    ∃ u, E ρ (single r) u ∧ (results fn a.tmps).run P w = .ok u w := by
  obtain ⟨us, h1, h2⟩ := resV_ok (P := P) hR hf h
  refine ⟨_, single_ok h1, ?_⟩
  have hl : fn.results = fn.results.toList.toArray := by simp
  rw [results_eq, hl, List.mapM_toArray]
  simp only [Sem.run_bind, Sem.run_map]
  rw [h2]
  simp
theorem callable_ok {f : FuncId} (h : callable P f = true) : ∃ fn body, P.funcs[f]? = some fn ∧ fn.body = some body ∧ (fn.name == "runtime.NumGoroutine") = false := by
  unfold callable at h
  split at h
  · rename_i fn hfn
    rw [Bool.and_eq_true] at h
    obtain ⟨body, hb⟩ := Option.isSome_iff_exists.1 h.1
    exact ⟨fn, body, hfn, hb, by simpa using h.2⟩
  · cases h
theorem leaves_dfr {ρ ρ' : Rho} {s s' : St} {w : World} (hR : Rel W0 ρ s w) {F : Fence} {n : Nat} {fn : Func} {tmps : Array Value} {R : Ending → World → Prop} : ∀ (rs : List Nat) (W : World), Step W0 ρ s w ρ' s' W → rs.Pairwise (· ≠ ·) →
    (∀ D ∈ rs, w.heap.size ≤ D ∧ D < W.heap.size ∧ ¬ Img ρ' s' D ∧ W.heap[D]? = some (.deferred (some []))) → (∀ W', Step W0 ρ s w ρ' s' W' → LeavesIn F n P fn tmps R [] .returning W') → LeavesInM F n P fn tmps R (rs.map markD) .returning W
  | [], W, hst, _, _, h => h W hst
  | D :: rs, W, hst, hp, hall, h => by
    have hp := List.pairwise_cons.1 hp
    obtain ⟨k1, k2, k3, k4⟩ := hall D (by simp)
    refine ⟨by simp, .inl ⟨D, _, rfl, run_takeDeferred k4, ?_⟩⟩
    refine leaves_dfr hR rs _ (hst.taken hR k1 k3 _ k2) hp.2 (fun x hx => ?_) h
    obtain ⟨q1, q2, q3, q4⟩ := hall x (by simp [hx])
    exact ⟨q1, by simp; exact q2, q3, by rw [World.putObj_heap_other (fun e => hp.1 x hx e.symm)]; exact q4⟩
theorem callV_ok {H : Hook} {ih : Run} (hih : RunOK P W0 ih) (hH : HookOK P W0 H) {f : FuncId} {args : List V} {s s' : St} {v : V} (h : callV P H ih f args s = .ok (v, s')) {ρ : Rho} {w : World} {us : List Value} (hR : Rel W0 ρ s w) (he : EL ρ args us) :
    Calls P f us.toArray w (Ret W0 ρ s w v s') := by
  unfold callV at h
  cases hh : H f args s with
  | some r =>
    rw [hh] at h
    simp only at h
    subst h
    exact hH f args s v s' hh ρ w us hR he
  | none =>
    rw [hh] at h
    simp only at h
    cases hfn : P.funcs[f]? with
    | none => rw [hfn] at h; cases h
    | some fn =>
      rw [hfn] at h
      simp only at h
      cases hb : fn.body with
      | none => rw [hb] at h; cases h
      | some body =>
        rw [hb] at h
        simp only at h
        cases hx : ih body (enterF args (Nat.max fn.ntmps (lenN args))) s with
        | err e => rw [hx] at h; cases h
        | ok x t1 s1 =>
          rw [hx] at h
          simp only at h
          have hwp := hih _ _ _ _ _ _ hx ρ w { tmps := us.toArray ++ Array.replicate (fn.ntmps - us.toArray.size) undef, defers := [] } w.heap.size none hR ⟨enterF_ok he fn.ntmps, Dfr.nil, trivial⟩ (Nat.le_refl _)
          refine (callsIn_wide (n := 0)).1 (callsIn_of_wp_marks (F := FR none) hfn hb (FR_fn _ _) (wpIn_mono hwp fun e a' w' hp => ?_))
          obtain ⟨rfl, ρ', hst, hf, hd, _⟩ := hp
          have fin : ∀ {m : M (V × St)}, ((resV P t1 s1 fn.results.toList).bind fun l => M.ok (single l, s1)) = .ok (v, s') → LeavesInM (FR none) 0 P fn a'.tmps (Ret W0 ρ s w v s') a'.defers .returning w' := fun {_} h => by
            obtain ⟨r, h1, h2⟩ := M.bind_ok h
            injection h2 with h2
            simp only [Prod.mk.injEq] at h2
            obtain ⟨rfl, rfl⟩ := h2
            obtain ⟨rs, hrs, hp, hall⟩ := hd
            rw [hrs]
            refine leaves_dfr hR rs w' hst hp hall fun W' hst' => ?_
            obtain ⟨u, hu, hr⟩ := run_results (P := P) hst'.rel hf h1
            exact ⟨u, hr, ρ', u, rfl, hst', hu⟩
          cases x with
          | normal => exact fin (m := .err "") h
          | ret => exact fin (m := .err "") h
          | exit id => cases h
          | goto l => cases h

/-- A loop's record is turned. -/
theorem Step.loop {ρ : Rho} {s : St} {w : World} (h : Rel W0 ρ s w) {b : Nat} {t : Fr} {ps : List Nat} {a c : Code} {st : Nat} {pend : Option Code} (hb : s.get b = some (.loop t ps a c st pend)) {m : Loc} (hm : ρ b = some m) {q : Loop} (hq : w.heap[m.blk]? = some (.loop q)) {st' : Nat} {pend' : Option Code} (q' : Loop)
    (hok : FrE ρ t q'.tmps ∧ q'.params.toList = ps ∧ q'.assign = a ∧ q'.body = c ∧ stNo q'.state = st' ∧ q'.pending = pend') : Step W0 ρ s w ρ (s.put b (.loop t ps a c st' pend')) (w.putObj m.blk (.loop q')) := by
  have hlt : m.blk < w.heap.size := (Array.getElem?_eq_some_iff.1 hq).1
  obtain ⟨_, m', hm', hside, _, _⟩ := h.blk b _ hb
  rw [hm] at hm'; injection hm' with e; subst e
  have hW : W0.heap.size ≤ m.blk := hside
  have hoth : ∀ k, k ≠ m.blk → (w.putObj m.blk (.loop q')).heap[k]? = w.heap[k]? := fun k hk => World.putObj_heap_other hk
  refine Step.write (x := .loop t ps a c st pend) (x' := .loop t ps a c st' pend') h hb trivial trivial hm rfl (fun k hk => Or.inl (by rw [St.get_put, if_neg hk])) (by rw [St.get_put, if_pos rfl]) ⟨h.below.os, h.below.tape, h.below.output, by rw [World.putObj_size]; exact h.below.size, fun k hk => (hoth k (by omega)).trans (h.below.block k hk)⟩ (by simp) hoth ⟨q', World.putObj_heap_same hlt, hok⟩ (fun k y m2 hne hk hy hm2 hblk => ?_)
  rw [St.get_put, if_neg hne] at hk
  rcases h.dis k b y _ m2 m hk hb hy trivial hm2 hm hne hblk with hu | hu
  · cases y <;> simp [Under] at hu
  · simp [Under] at hu
theorem loopAt_ok {s : St} {b st : Nat} {q : Lp} (h : loopAt s b st = some q) : s.get b = some (.loop q.t q.ps q.assign q.body st none) := by
  unfold loopAt at h
  split at h
  · rename_i t ps a c st' pend hb
    split at h
    · rename_i he
      split at h
      · injection h with h; subst h
        rw [hb, beq_eq he]
      · cases h
    · cases h
  · cases h
theorem loop_at {ρ : Rho} {s : St} {w : World} (hR : Rel W0 ρ s w) {b st : Nat} {q : Lp} (h : loopAt s b st = some q) {m : Loc} (hm : ρ b = some m) : ∃ u : Loop, w.heap[m.blk]? = some (.loop u) ∧ FrE ρ q.t u.tmps ∧ u.params.toList = q.ps ∧ u.assign = q.assign ∧ u.body = q.body ∧ stNo u.state = st ∧ u.pending = none := by
  obtain ⟨_, m', hm', _, _, hok⟩ := hR.blk b _ (loopAt_ok h)
  rw [hm] at hm'; injection hm' with e; subst e
  exact hok
theorem lenP_eq (l : List Nat) : lenP l = l.length := by
  induction l with
  | nil => rfl
  | cons a l ih => show Nat.succ (lenP l) = _; rw [ih]; rfl
theorem setPs_cons (p : Nat) (ps : List Nat) (v : V) (vs : List V) (t : Fr) : setPs (p :: ps) (v :: vs) t = setPs ps vs (t.set p v) := rfl
theorem setPs_ok {ρ : Rho} : ∀ (ps : List Nat) {l : List V} {us : List Value} {t : Fr} {a : Array Value}, EL ρ l us → FrE ρ t a → FrE ρ (setPs ps l t) ((ps.zip us).foldl (fun t p => t.setIfInBounds p.1 p.2) a)
  | [], l, us, t, a, _, hf => hf
  | p :: ps, [], us, t, a, hl, hf => by rw [EL.nil_inv hl]; exact hf
  | p :: ps, v :: l, us, t, a, hl, hf => by
    obtain ⟨u, r, rfl, h1, h2⟩ := EL.cons_inv hl
    rw [setPs_cons]
    exact setPs_ok ps h2 (putV_ok (a := { tmps := a, defers := [] }) hf (some p) h1)
theorem setPs_r : ∀ (ps : List Nat) (l : List V) (t : Fr), (setPs ps l t).r = t.r
  | [], _, _ => rfl
  | p :: ps, [], t => rfl
  | p :: ps, v :: l, t => by
    rw [setPs_cons, setPs_r ps l]
    unfold Fr.set
    split <;> rfl
theorem zip_foldl (ps : Array Nat) (us : List Value) (a : Array Value) : (ps.zip us.toArray).foldl (fun t (p, v) => t.setIfInBounds p v) a = (ps.toList.zip us).foldl (fun t p => t.setIfInBounds p.1 p.2) a := by
  rw [← Array.foldl_toList]
  simp
theorem jump_post {l : Nat} {R : Ending → World → Prop} {x : Ex} {a : Act} {w : World} (h : ∃ v w', (Instr.endRound l (jumpOf x)).run P w = .ok v w' ∧ R (.returned v) w') : roundPost P l R (exitOf x) a w := by
  cases x <;> exact h
/-- A round. -/
theorem yieldV_ok {ih : Run} (hih : RunOK P W0 ih) {b : Nat} {l : List V} {s s' : St} {v : V} (h : yieldV ih b l s = .ok (v, s')) {ρ : Rho} {w : World} {us : List Value} (hR : Rel W0 ρ s w) (hl : EL ρ l us) {m : Loc} (hm : ρ b = some m) (r : Option Nat) :
    ∃ q : Loop, w.heap[m.blk]? = some (.loop q) ∧ us.toArray.size = q.params.size ∧ RoundIn (FR r) 0 P m.blk q.fn ((q.params.zip us.toArray).foldl (fun t (p, v) => t.setIfInBounds p v) q.tmps) q.assign q.body w (Ret W0 ρ s w v s') := by
  unfold yieldV at h
  cases hq : loopAt s b 0 with
  | none => rw [hq] at h; cases h
  | some q =>
    rw [hq] at h
    simp only at h
    obtain ⟨u, hu, hft, hps, has, hbd, hst, hpe⟩ := loop_at hR hq hm
    cases hn : Nat.beq (lenN l) (lenP q.ps) with
    | false => rw [hn] at h; cases h
    | true =>
      rw [hn] at h
      simp only at h
      have hn := beq_eq hn
      rw [lenN_eq, lenP_eq] at hn
      have hlen := hl.len
      refine ⟨u, hu, by simp [hlen, hn, ← hps], ?_⟩
      cases hx : ih q.assign (setPs q.ps l ⟨q.t.t, q.t.n, some b⟩) s with
      | err e => rw [hx] at h; cases h
      | ok x t1 s1 =>
        rw [hx] at h
        simp only at h
        cases x with
        | normal =>
          simp only at h
          have hf0 : FrE ρ (⟨q.t.t, q.t.n, some b⟩ : Fr) u.tmps := hft
          have hf1 : FrA w.heap.size (some m.blk) ρ s w (setPs q.ps l ⟨q.t.t, q.t.n, some b⟩) { tmps := (u.params.zip us.toArray).foldl (fun t (p, v) => t.setIfInBounds p v) u.tmps, defers := [] } := by
            refine ⟨?_, Dfr.nil, ?_⟩
            · rw [zip_foldl, hps]; exact setPs_ok q.ps hl hf0
            · rw [setPs_r]; exact ⟨m, hm, rfl⟩
          refine roundIn_of_wpIn (F := FR r) (FR_fn _ _) ?_
          rw [has]
          refine wpIn_mono (hih _ _ _ _ _ _ hx ρ w _ w.heap.size (some m.blk) hR hf1 (Nat.le_refl _)) fun e a1 w1 hp => ?_
          obtain ⟨rfl, ρ1, hst1, hfa1⟩ := hp
          have hm1 := hst1.le _ _ hm
          unfold roundBody at h
          cases hq1 : loopAt s1 b 0 with
          | none => rw [hq1] at h; cases h
          | some q1 =>
            rw [hq1] at h
            simp only at h
            obtain ⟨u1, hu1, hft1, hps1, has1, hbd1, hs1, hpe1⟩ := loop_at hst1.rel hq1 hm1
            have hready : u1.state = .ready := by cases hh : u1.state <;> rw [hh] at hs1 <;> simp [stNo] at hs1 <;> rfl
            refine ⟨_, run_beginRound hu1 hready, ?_⟩
            have hst2 := Step.loop hst1.rel (loopAt_ok hq1) hm1 hu1 (st' := 1) (pend' := none) { u1 with state := .busy } ⟨hft1, hps1, has1, hbd1, rfl, hpe1⟩
            cases hy : ih q.body t1 (s1.put b (q1.blk 1 none)) with
            | err e => rw [hy] at h; cases h
            | ok x2 t2 s2 =>
              rw [hy] at h
              simp only at h
              have hB : w.heap.size ≤ (w1.putObj m.blk (.loop { u1 with state := .busy })).heap.size := by rw [World.putObj_size]; exact hst1.wsize
              rw [hbd]
              refine wpIn_mono (hih _ _ _ _ _ _ hy ρ1 _ _ w.heap.size (some m.blk) hst2.rel (hfa1.step hst2) hB) fun e2 a2 w2 hp2 => ?_
              obtain ⟨rfl, ρ2, hst3, hfa2⟩ := hp2
              have hm2 := hst3.le _ _ hm1
              unfold roundEnd at h
              cases hq2 : loopAt s2 b 1 with
              | none => rw [hq2] at h; cases h
              | some q2 =>
                rw [hq2] at h
                simp only at h
                obtain ⟨u2, hu2, hft2, hps2, has2, hbd2, hs2, hpe2⟩ := loop_at hst3.rel hq2 hm2
                refine jump_post ⟨_, _, run_endRound (jumpOf x2) hu2, ?_⟩
                have hall := (hst1.trans hst2).trans hst3
                cases hj : jumpOf x2 with
                | none =>
                  rw [hj] at h
                  simp only at h
                  injection h with h
                  simp only [Prod.mk.injEq] at h
                  obtain ⟨rfl, rfl⟩ := h
                  exact ⟨ρ2, .bool true, rfl, hall.trans (Step.loop hst3.rel (loopAt_ok hq2) hm2 hu2 _ ⟨hft2, hps2, has2, hbd2, rfl, rfl⟩), by simp only [E]⟩
                | some c =>
                  rw [hj] at h
                  simp only at h
                  injection h with h
                  simp only [Prod.mk.injEq] at h
                  obtain ⟨rfl, rfl⟩ := h
                  exact ⟨ρ2, .bool false, rfl, hall.trans (Step.loop hst3.rel (loopAt_ok hq2) hm2 hu2 _ ⟨hft2, hps2, has2, hbd2, rfl, rfl⟩), by simp only [E]⟩
        | _ => cases h

/-- An operation, in a region. -/
theorem operV_at {H : Hook} {ih : Run} (hih : RunOK P W0 ih) (hH : HookOK P W0 H) {o : Oper} {t : Fr} {s s' : St} {v : V} (h : operV P H ih t s (opF P o) = .ok (v, s')) {ρ : Rho} {w : World} {a : Act} (hR : Rel W0 ρ s w) {r : Option Nat} {c : Act} (heq : execOp c.eval o = execOp a.eval o) (hf : FrE ρ t c.tmps)
    {K : Act → World → Prop} {Q : Exit → Act → World → Prop} (hK : ∀ ρ' u w', Step W0 ρ s w ρ' s' w' → E ρ' v u → K (a.put o.dst u) w') : o.wpIn (FR r) 0 P a w K Q := by
  have hok := opF_ok (P := P) o
  have hnd : ∀ cl, o.op ≠ .defer cl := fun cl hc => by
    have : opF P o = .bad "an operation" := by unfold opF; rw [hc]
    rw [this] at h; cases h
  refine ⟨fun _ _ => FR_fn _ _, ?_⟩
  rw [Oper.semAt_eq _ _ _ hnd, ← heq]
  cases hF : opF P o with
  | pure f =>
    rw [hF] at h hok
    obtain ⟨v', h1, h2⟩ := M.bind_ok h
    injection h2 with h2
    simp only [Prod.mk.injEq] at h2
    obtain ⟨rfl, rfl⟩ := h2
    obtain ⟨u, hE, hr⟩ := hok ρ t c _ hf h1
    rw [hr w]
    exact hK ρ u w (Step.refl hR) hE
  | read f =>
    rw [hF] at h hok
    obtain ⟨v', h1, h2⟩ := M.bind_ok h
    injection h2 with h2
    simp only [Prod.mk.injEq] at h2
    obtain ⟨rfl, rfl⟩ := h2
    obtain ⟨u, hE, hr⟩ := hok W0 ρ s w t c _ hR hf h1
    rw [hr]
    exact hK ρ u w (Step.refl hR) hE
  | float f =>
    rw [hF] at h hok
    obtain ⟨⟨v', x⟩, h1, h2⟩ := M.bind_ok h
    injection h2 with h2
    simp only [Prod.mk.injEq] at h2
    obtain ⟨rfl, rfl⟩ := h2
    obtain ⟨hal, hw⟩ := hok ρ t c _ _ _ hf h1
    obtain ⟨u, obj, hr, hρ⟩ := hw w
    rw [hr]
    have hn : ρ s.size = none := hR.fresh _ (Nat.le_refl _)
    have hEu := hρ (ρ.upd s.size ⟨w.heap.size, 0, 0⟩) (Rho.le_upd _ hn) (Rho.upd_same _ _ _)
    exact hK _ u _ (Step.alloc hR x obj 0 hal hEu.2) hEu.1
  | eff f =>
    rw [hF] at h hok
    obtain ⟨u, w', ρ', hr, hst, hE⟩ := hok W0 ρ s w t c v s' hR hf h
    rcases hr with hr | ⟨hr, rfl⟩
    · rw [hr]; exact hK ρ' u w' hst hE
    · rw [hr]; exact hK ρ' undef w' hst hE
  | call fo args =>
    rw [hF] at h hok
    obtain ⟨cl, hc, hcal, hargs⟩ := hok
    obtain ⟨fv, h1, h2⟩ := M.bind_ok h
    have e1 := ev_ok hf h1
    cases fv with
    | fn g cap =>
      obtain ⟨h3, h2⟩ := ask_ok h2
      obtain ⟨l, h4, h2⟩ := M.bind_ok h2
      rw [appN_eq] at h2
      have e2 := evs_ok hf h4
      simp only [E] at e1
      obtain ⟨us, hx, hE⟩ := e1
      obtain ⟨fn, body, hfn, hb, hnm⟩ := callable_ok h3
      have hrun : (execOp c.eval o).run P w = .ok (.enter g (args.map c.eval ++ us).toArray) w := by
        simp only [execOp, hc, resolve, hcal, Sem.run_bind, hx, Deferred.ofValue, Sem.run_pure, Result.andThen_ok, invoke, callFunc, run_program, hfn, hnm, hb]
        have : cl.args = args.toArray := by rw [← hargs]
        rw [this]
        simp
      rw [hrun]
      refine ⟨fun hh => (by cases hh), ?_⟩
      show CallsIn Fence.wide (0 - 1) P g _ w _
      refine callsIn_wide.2 ((callV_ok hih hH h2 hR (e2.app hE)).mono fun e w' hret => ?_)
      obtain ⟨ρ', u, rfl, hst, hEu⟩ := hret
      exact hK ρ' u w' hst hEu
    | mfn g fs cap =>
      obtain ⟨h3, h2⟩ := ask_ok h2
      obtain ⟨l, h4, h2⟩ := M.bind_ok h2
      rw [appN_eq, appN_eq] at h2
      have e2 := evs_ok hf h4
      simp only [E] at e1
      obtain ⟨us, ws, hx, hE1, hE2⟩ := e1
      obtain ⟨fn, body, hfn, hb, hnm⟩ := callable_ok h3
      have hrun : (execOp c.eval o).run P w = .ok (.enter g (us ++ (args.map c.eval ++ ws)).toArray) w := by
        simp only [execOp, hc, resolve, hcal, Sem.run_bind, hx, Deferred.ofValue, Sem.run_pure, Result.andThen_ok, invoke, callFunc, run_program, hfn, hnm, hb]
        have : cl.args = args.toArray := by rw [← hargs]
        rw [this]
        simp
      rw [hrun]
      refine ⟨fun hh => (by cases hh), ?_⟩
      show CallsIn Fence.wide (0 - 1) P g _ w _
      refine callsIn_wide.2 ((callV_ok hih hH h2 hR (hE1.app (e2.app hE2))).mono fun e w' hret => ?_)
      obtain ⟨ρ', u, rfl, hst, hEu⟩ := hret
      exact hK ρ' u w' hst hEu
    | yld b =>
      obtain ⟨l, h4, h2⟩ := M.bind_ok h2
      have e2 := evs_ok hf h4
      simp only [E] at e1
      obtain ⟨m, hm, hx⟩ := e1
      obtain ⟨q, hq, hsz, hround⟩ := yieldV_ok hih h2 hR e2 hm r
      have hrun : (execOp c.eval o).run P w = .ok (.round m.blk q.fn ((q.params.zip (args.map c.eval).toArray).foldl (fun t (p, v) => t.setIfInBounds p v) q.tmps) q.assign q.body) w := by
        have hy := run_yield (P := P) hq hsz
        simp only [execOp, hc, resolve, hcal, Sem.run_bind, hx, Deferred.ofValue, Sem.run_pure, Result.andThen_ok, invoke]
        have : cl.args = args.toArray := by rw [← hargs]
        rw [this]
        simpa using hy
      rw [hrun]
      refine ⟨fun hh => (by cases hh), ?_⟩
      refine hround.mono fun e w' hret => ?_
      obtain ⟨ρ', u, rfl, hst, hEu⟩ := hret
      exact hK ρ' u w' hst hEu
    | _ => cases h2
  | bad e => rw [hF] at h; cases h
theorem operV_ok {H : Hook} {ih : Run} (hih : RunOK P W0 ih) (hH : HookOK P W0 H) {o : Oper} {t : Fr} {s s' : St} {v : V} (h : operV P H ih t s (opF P o) = .ok (v, s')) {ρ : Rho} {w : World} {a : Act} {r : Option Nat} (hR : Rel W0 ρ s w) (hf : FrE ρ t a.tmps)
    {K : Act → World → Prop} {Q : Exit → Act → World → Prop} (hK : ∀ ρ' u w', Step W0 ρ s w ρ' s' w' → E ρ' v u → K (a.put o.dst u) w') : o.wpIn (FR r) 0 P a w K Q := operV_at hih hH h hR rfl hf hK
end Go.Clo
