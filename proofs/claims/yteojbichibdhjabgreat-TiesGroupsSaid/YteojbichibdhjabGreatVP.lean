/- The interpreter of closed runs, a part of it. -/
import Derived.Test.YteojbichibdhjabGreatVN
import Derived.OrdersIn
import Derived.LoopNIn
namespace Go.Clo
set_option linter.unusedSimpArgs false
set_option linter.unusedVariables false
set_option linter.unnecessarySimpa false
open Go Go.RowKit

variable {P : Program} {W0 : World}

theorem E.bool_inv {ρ : Rho} {v : V} {b : Bool} (h : E ρ v (.bool b)) : v = .bool b := by
  cases v with
  | bool c => simp only [E] at h; injection h with h; rw [h]
  | sl b o n c => cases c <;> simp [E] at h
  | _ => simp [E] at h
theorem guardOf_some {ops : Array Oper} {o : Oper} {j : Nat} {want : Bool} (hg : o.guard = some (j, want)) : guardOf ops o = some ((ops[j]?).bind (·.dst), want) := by
  unfold guardOf
  rw [hg]
  show some ((match ops[j]? with | some p => p.dst | none => none), want) = _
  cases hp : ops[j]? <;> simp
/-- Whether an operation is wanted. -/
theorem wantedV_ok {ρ : Rho} {ops : Array Oper} {t : Fr} {o : Oper} {a : Array Value} (h : ∀ d b, guardOf ops o = some (some d, b) → E ρ (t.get d) (a.getD d undef)) :
    Region.wanted o (yielded ops a) = wantedV t (guardOf ops o) := by
  unfold Region.wanted
  cases hg : o.guard with
  | none => unfold guardOf; rw [hg]; rfl
  | some gw =>
    obtain ⟨j, want⟩ := gw
    rw [guardOf_some hg] at h ⊢
    show (yielded ops a j == some want) = _
    unfold yielded
    cases hs : (ops[j]?).bind (·.dst) with
    | none => rfl
    | some d =>
      have he := h d want (by rw [hs])
      show ((match a[d]? with | some (.bool b) => some b | _ => none) == some want) = (match t.get d with | .bool b => b == want | _ => false)
      cases ha : a[d]? with
      | none =>
        have hu : a.getD d undef = undef := by simp [Array.getD_eq_getD_getElem?, ha]
        rw [hu] at he
        cases htd : t.get d with
        | bool b => rw [htd] at he; simp [E, undef] at he
        | _ => rfl
      | some u =>
        have hu : a.getD d undef = u := by simp [Array.getD_eq_getD_getElem?, ha]
        rw [hu] at he
        cases htd : t.get d with
        | bool b =>
          rw [htd] at he
          simp only [E] at he
          subst he
          rfl
        | _ =>
          cases u with
          | bool b => have := E.bool_inv he; rw [htd] at this; cases this
          | _ => rfl
theorem put_defers' (a : Act) (d : Option Tmp) (v : Value) : (a.put d v).defers = a.defers := by cases d <;> rfl

theorem putV_r (t : Fr) (d : Option Tmp) (v : V) : (putV t d v).r = t.r := by
  cases d with
  | none => rfl
  | some d => show (t.set d v).r = t.r; unfold Fr.set; split <;> rfl
theorem FrA.put {B : Nat} {r : Option Nat} {ρ ρ' : Rho} {s s' : St} {w w' : World} {t : Fr} {a : Act} (h : FrA B r ρ s w t a) (hs : Step W0 ρ s w ρ' s' w') (d : Option Tmp) {v : V} {u : Value} (he : E ρ' v u) : FrA B r ρ' s' w' (putV t d v) (a.put d u) := by
  obtain ⟨h1, h2, h3⟩ := h.step hs
  exact ⟨putV_ok h1 d he, by rw [put_defers']; exact h2, by rw [putV_r]; exact h3⟩
theorem regionV_ok {H : Hook} {ih : Run} (hih : RunOK P W0 ih) (hH : HookOK P W0 H) {ops : Array Oper} {x : Ex} {t' : Fr} {s' : St} {ρ0 : Rho} {s0 : St} {w0 : World} {B : Nat} {r : Option Nat} : ∀ (l : List Oper) (i : Nat), ops.toList.drop i = l → ∀ {t : Fr} {s : St}, regionV P H ih ops l t s = .ok x t' s' →
    ∀ {ρ : Rho} {w : World} {a : Act}, Step W0 ρ0 s0 w0 ρ s w → FrA B r ρ s w t a → wpOpsIn (FR r) 0 P ops (Post W0 B r ρ0 s0 w0 x t' s') (List.range' i l.length) a w
  | [], i, hd, t, s, h, ρ, w, a, hR, hf => by
    have h : Out.ok .normal t s = .ok x t' s' := h
    injection h with h1 h2 h3; subst h1; subst h2; subst h3
    exact ⟨rfl, ρ, hR, hf⟩
  | o :: l, i, hd, t, s, h, ρ, w, a, hR, hf => by
    have hi : ops[i]? = some o := by
      have : ops.toList[i]? = some o := by
        have := congrArg (fun l => l[0]?) hd
        simpa [List.getElem?_drop] using this
      simpa using this
    have hl : ops.toList.drop (i + 1) = l := by
      have := congrArg List.tail hd
      simpa [List.tail_drop] using this
    have h : regionS P H ih ops (regionV P H ih ops l) o t s = .ok x t' s' := h
    show wpOpsIn (FR r) 0 P ops _ (List.range' i (l.length + 1)) a w
    rw [List.range'_succ, wpOpsIn_cons]
    unfold wpOpIn
    simp only [hi]
    rw [wantedV_ok (t := t) (fun d _ _ => hf.1.2 d)]
    unfold regionS at h
    cases hw : wantedV t (guardOf ops o) with
    | false =>
      rw [hw] at h
      simp only [Bool.false_eq_true, if_false]
      exact ⟨fun _ _ => FR_fn _ _, regionV_ok hih hH l (i + 1) hl h hR (hf.put (Step.refl hR.rel) o.dst E_undef)⟩
    | true =>
      rw [hw] at h
      simp only [if_true]
      cases hr : operV P H ih t s (opF P o) with
      | err e => rw [hr] at h; cases h
      | ok q =>
        rw [hr] at h
        have h : regionV P H ih ops l (putV t o.dst q.1) q.2 = .ok x t' s' := h
        refine operV_ok hih hH (v := q.1) (s' := q.2) hr hR.rel hf.1 fun ρ' u w' hst hE => ?_
        exact regionV_ok hih hH l (i + 1) hl h (hR.trans hst) (hf.put hst o.dst hE)
/-- The regions that draw their order. -/
def DrawOK (P : Program) (W0 : World) (H : Hook) : Prop :=
  ∀ ih, RunOK P W0 ih → ∀ id ops t s x t' s', drawV P H ih ops t s = .ok x t' s' → ∀ ρ w a B r, Rel W0 ρ s w → FrA B r ρ s w t a → (Code.region id ops true).wpIn (FR r) 0 P (Post W0 B r ρ s w x t' s') a w

theorem thenV_ok {o : Out} {f : Fr → St → Out} {x : Ex} {t' : Fr} {s' : St} (h : thenV o f = .ok x t' s') :
    ∃ x1 t1 s1, o = .ok x1 t1 s1 ∧ ((x1 = .normal ∧ f t1 s1 = .ok x t' s') ∨ (x1 ≠ .normal ∧ x = x1 ∧ t' = t1 ∧ s' = s1)) := by
  cases o with
  | err e => cases h
  | ok x1 t1 s1 =>
    refine ⟨x1, t1, s1, rfl, ?_⟩
    cases x1 with
    | normal => exact Or.inl ⟨rfl, h⟩
    | _ =>
      unfold thenV at h
      simp only at h
      injection h with h1 h2 h3
      exact Or.inr ⟨by (intro e; cases e), h1.symm, h2.symm, h3.symm⟩
theorem then_of {B : Nat} {r : Option Nat} {ρ0 : Rho} {s0 : St} {w0 : World} {x : Ex} {t' : Fr} {s' : St} {x1 : Ex} {t1 : Fr} {s1 : St} {next : Act → World → Prop}
    (hc : (x1 = .normal ∧ ∀ ρ w a, Step W0 ρ0 s0 w0 ρ s1 w → FrA B r ρ s1 w t1 a → next a w) ∨ (x1 ≠ .normal ∧ x = x1 ∧ t' = t1 ∧ s' = s1)) {e : Exit} {a : Act} {w : World} (h : Post W0 B r ρ0 s0 w0 x1 t1 s1 e a w) :
    Exit.then next (Post W0 B r ρ0 s0 w0 x t' s') e a w := by
  rcases hc with ⟨rfl, hn⟩ | ⟨hne, rfl, rfl, rfl⟩
  · obtain ⟨rfl, ρ, hst, hf⟩ := h
    exact hn ρ w a hst hf
  · have he := h.1
    subst he
    cases x with
    | normal => exact absurd rfl hne
    | _ => exact h
/-- Loops. -/
def LoopOK (P : Program) (W0 : World) (ih : Run) : Prop :=
  ∀ c t s x t' s', ih (.loop c) t s = .ok x t' s' → ∃ k, ∀ ρ0 s0 w0 ρ w a B r, Step W0 ρ0 s0 w0 ρ s w → FrA B r ρ s w t a → B ≤ w.heap.size → Code.roundsIn (FR r) 0 P c (Post W0 B r ρ0 s0 w0 x t' s') k a w
theorem RunOK.from {ih : Run} (hih : RunOK P W0 ih) {c : Code} {t : Fr} {s : St} {x : Ex} {t' : Fr} {s' : St} (h : ih c t s = .ok x t' s') {ρ0 : Rho} {s0 : St} {w0 : World} {ρ : Rho} {w : World} {a : Act} {B : Nat} {r : Option Nat}
    (hst : Step W0 ρ0 s0 w0 ρ s w) (hf : FrA B r ρ s w t a) (hB : B ≤ w.heap.size) : c.wpIn (FR r) 0 P (Post W0 B r ρ0 s0 w0 x t' s') a w :=
  wpIn_mono (hih _ _ _ _ _ _ h ρ w a B r hst.rel hf hB) fun _ _ _ hp => Post.trans hst hp
def goRoundsIn (F : Fence) (P : Program) (body : Code) (Q : Exit → Act → World → Prop) : Nat → Code → Act → World → Prop
  | 0, _, _, _ => False
  | n + 1, c, a, w => c.wpIn F 0 P (fun e a w => match e with
    | .goto l => match findLabel body l with
      | some rest => goRoundsIn F P body Q n rest a w
      | none => Q (.goto l) a w
    | e => Q e a w) a w
theorem stepR_scope {P : Program} {b : Frame} {a : Act} {k : List Item} {cs : List Frame} {w : World} {c : Code} : step P (lone (b.atR a (.code (.scope c) :: k)) cs w) = .next (lone (b.atR a (.code c :: .inScope c :: k)) cs w) :=
  step_lone_go (by simp [stepG, stepG.exec, Frame.atR])
theorem stepR_inScope {P : Program} {b : Frame} {a : Act} {k : List Item} {cs : List Frame} {w : World} {c : Code} : step P (lone (b.atR a (.inScope c :: k)) cs w) = .next (lone (b.atR a k) cs w) :=
  step_lone_go (by simp [stepG, stepG.exec, Frame.atR])
theorem wpIn_scope_rounds {F : Fence} {Q : Exit → Act → World → Prop} {a : Act} {w : World} {body : Code} (n : Nat) (h : goRoundsIn F P body Q n body a w) : (Code.scope body).wpIn F 0 P Q a w := by
  intro b k cs hro hb hr
  have key : ∀ n c a w, goRoundsIn F P body Q n c a w → ∃ e a' w', Q e a' w' ∧ ArrivesIn (Machine.fenced P F) P (lone (b.atR a (.code c :: .inScope body :: k)) cs w) b k cs e a' w' := by
    intro n
    induction n with
    | zero => intro c a w h; exact h.elim
    | succ n ih =>
      intro c a w h
      obtain ⟨e, a₁, w₁, hq, harr⟩ := h b (.inScope body :: k) cs hro hb hr
      cases e with
      | normal => exact ⟨.normal, a₁, w₁, hq, StepsIn.trans harr (.one (fenced_calm (fr := b.atR a₁ (.inScope body :: k)) hb hr rfl) stepR_inScope)⟩
      | exit id =>
        have hx : exitTo id (.inScope body :: k) = exitTo id k := by simp [exitTo]
        exact ⟨.exit id, a₁, w₁, hq, fun k' hk => harr.1 k' (by rw [hx]; exact hk), fun hr' hk => harr.2 hr' (by rw [hx]; exact hk)⟩
      | goto l =>
        cases hf : findLabel body l with
        | none =>
          simp only [hf] at hq
          have hx : gotoIn l (.inScope body :: k) = gotoIn l k := by simp [gotoIn, hf]
          exact ⟨.goto l, a₁, w₁, hq, fun k' hk => harr.1 k' (by rw [hx]; exact hk), fun hr' hk => harr.2 hr' (by rw [hx]; exact hk)⟩
        | some rest =>
          simp only [hf] at hq
          obtain ⟨e₂, a₂, w₂, hq₂, harr₂⟩ := ih rest a₁ w₁ hq
          exact ⟨e₂, a₂, w₂, hq₂, .of_steps (harr.1 _ (by simp [gotoIn, hf])) harr₂⟩
      | ret => exact ⟨_, a₁, w₁, hq, harr⟩
      | panic ch => exact ⟨_, a₁, w₁, hq, harr⟩
      | outgrown => exact ⟨_, a₁, w₁, hq, harr⟩
  obtain ⟨e, a', w', hq, harr⟩ := key n body a w h
  exact ⟨e, a', w', hq, .of_steps (.one (fenced_calm (fr := b.atR a (.code (.scope body) :: k)) hb hr rfl) stepR_scope) harr⟩
theorem scopeV_ok {ih : Run} (hih : RunOK P W0 ih) {body : Code} {x : Ex} {t' : Fr} {s' : St} {ρ0 : Rho} {s0 : St} {w0 : World} {B : Nat} {r : Option Nat} : ∀ (n : Nat) {c : Code} {t : Fr} {s : St}, scopeV body ih n (ih c t s) = .ok x t' s' →
    ∀ {ρ : Rho} {w : World} {a : Act}, Step W0 ρ0 s0 w0 ρ s w → FrA B r ρ s w t a → B ≤ w.heap.size → goRoundsIn (FR r) P body (Post W0 B r ρ0 s0 w0 x t' s') n c a w
  | 0, c, t, s, h, _, _, _, _, _, _ => by cases h
  | n + 1, c, t, s, h, ρ, w, a, hst, hf, hB => by
    cases ho : ih c t s with
    | err e => rw [ho] at h; cases h
    | ok x1 t1 s1 =>
      rw [ho] at h
      refine wpIn_mono (hih _ _ _ _ _ _ ho ρ w a B r hst.rel hf hB) fun e a1 w1 hp => ?_
      obtain ⟨rfl, ρ', hst1, hf1⟩ := hp
      cases x1 with
      | goto l =>
        unfold scopeV at h
        simp only at h
        show (match findLabel body l with | some rest => goRoundsIn (FR r) P body _ n rest a1 w1 | none => _)
        cases hl : findLabel body l with
        | none =>
          rw [hl] at h
          injection h with h1 h2 h3; subst h1; subst h2; subst h3
          exact ⟨rfl, ρ', hst.trans hst1, hf1⟩
        | some rest =>
          rw [hl] at h
          exact scopeV_ok hih n h (hst.trans hst1) hf1 (Nat.le_trans hB hst1.wsize)
      | _ =>
        unfold scopeV at h
        simp only at h
        injection h with h1 h2 h3; subst h1; subst h2; subst h3
        exact ⟨rfl, ρ', hst.trans hst1, hf1⟩
theorem enter_ok {B : Nat} {r : Option Nat} {ρ : Rho} {s : St} {w : World} {t : Fr} {a : Act} (hR : Rel W0 ρ s w) (hf : FrA B r ρ s w t a) (hB : B ≤ w.heap.size) (hin : inLoop s t.r = true) (fn : FuncId) (ps : Array Tmp) (assign body : Code) :
    ∃ (mark : List Deferred) (w1 : World) (ρ1 : Rho) (m : Loc), (Instr.enterLoop fn a.tmps ps assign body r).run P w = .ok (m.blk, mark) w1 ∧ Step W0 ρ s w ρ1 (s.alloc (.loop t ps.toList assign body 0 none)) w1 ∧ ρ1 s.size = some m ∧ Dfr B ρ1 (s.alloc (.loop t ps.toList assign body 0 none)) w1 (mark ++ a.defers) := by
  obtain ⟨hf1, hf2, hf3⟩ := hf
  have hn : ρ s.size = none := hR.fresh _ (Nat.le_refl _)
  cases r with
  | none =>
    have hst0 := Step.grow hR (.deferred (some []))
    have hst1 := Step.alloc hst0.rel (.loop t ps.toList assign body 0 none) (.loop { state := .ready, pending := none, fn, tmps := a.tmps, params := ps, assign, body, defers := w.heap.size }) 0 trivial
      ⟨_, heap_alloc_new _ _, hf1.mono (Rho.le_upd _ hn), rfl, rfl, rfl, rfl, rfl⟩
    have hst := hst0.trans hst1
    refine ⟨[markD w.heap.size], _, ρ.upd s.size ⟨(w.alloc (.deferred (some []))).heap.size, 0, 0⟩, ⟨(w.alloc (.deferred (some []))).heap.size, 0, 0⟩, ?_, hst, Rho.upd_same _ _ _, ?_⟩
    · rw [run_enterLoop_outer fn a.tmps ps assign body]
      simp [markD]
    · have h1 : ¬ Img (ρ.upd s.size ⟨(w.alloc (.deferred (some []))).heap.size, 0, 0⟩) (s.alloc (.loop t ps.toList assign body 0 none)) w.heap.size := fun hi => by
        have := hR.lt (hst1.img w.heap.size (by simp) hi)
        omega
      have h2 : ((w.alloc (.deferred (some []))).alloc (.loop { state := .ready, pending := none, fn, tmps := a.tmps, params := ps, assign, body, defers := w.heap.size })).heap[w.heap.size]? = some (.deferred (some [])) := by
        rw [heap_alloc_old _ _ (by simp)]; exact heap_alloc_new _ _
      have := hf2.cons (fun rs h => h.step hst) hB (Nat.le_refl _) h1 h2
      simpa using this
  | some l0 =>
    cases hr : t.r with
    | none => rw [hr] at hf3; exact hf3.elim
    | some b0 =>
      rw [hr] at hf3 hin
      obtain ⟨m0, hm0, rfl⟩ := hf3
      have : ∃ t0 p0 a0 c0 st0 pe0, s.get b0 = some (.loop t0 p0 a0 c0 st0 pe0) := by
        unfold inLoop at hin
        split at hin
        · rename_i h; cases h
        · rename_i b h
          injection h with h; subst h
          split at hin
          · rename_i h; exact ⟨_, _, _, _, _, _, h⟩
          · cases hin
      obtain ⟨t0, p0, a0, c0, st0, pe0, hb0⟩ := this
      obtain ⟨_, m1, hm1, _, _, q0, hq0, _⟩ := hR.blk b0 _ hb0
      rw [hm0] at hm1; injection hm1 with e; subst e
      have hst1 := Step.alloc hR (.loop t ps.toList assign body 0 none) (.loop { state := .ready, pending := none, fn, tmps := a.tmps, params := ps, assign, body, defers := q0.defers }) 0 trivial
        ⟨_, heap_alloc_new _ _, hf1.mono (Rho.le_upd _ hn), rfl, rfl, rfl, rfl, rfl⟩
      exact ⟨[], _, _, ⟨w.heap.size, 0, 0⟩, run_enterLoop_inner hq0 fn a.tmps ps assign body, hst1, Rho.upd_same _ _ _, hf2.step hst1⟩
theorem rangeV_ok {H : Hook} {ih : Run} (hih : RunOK P W0 ih) (hH : HookOK P W0 H) {g : Operand} {ps : Array Tmp} {assign body : Code} {t : Fr} {s : St} {x : Ex} {t' : Fr} {s' : St} (h : rangeV P H ih g ps.toList assign body t s = .ok x t' s') {ρ : Rho} {w : World} {a : Act} {B : Nat} {r : Option Nat} (hR : Rel W0 ρ s w) (hf : FrA B r ρ s w t a) (hB : B ≤ w.heap.size) :
    (Code.rangeFunc g ps assign body).wpIn (FR r) 0 P (Post W0 B r ρ s w x t' s') a w := by
  unfold rangeV at h
  cases hin : inLoop s t.r with
  | false => rw [hin] at h; cases h
  | true =>
    rw [hin] at h
    simp only at h
    cases hg : ev t g with
    | err e => rw [hg] at h; cases h
    | ok gv =>
      rw [hg] at h
      have e1 := ev_ok hf.1 hg
      cases gv with
      | fn f cap =>
        simp only at h
        cases hcal : callable P f with
        | false => rw [hcal] at h; cases h
        | true =>
          rw [hcal] at h
          simp only at h
          simp only [E] at e1
          obtain ⟨us, hx, hE⟩ := e1
          obtain ⟨fnn, bodyf, hfn, hb, hnm⟩ := callable_ok hcal
          cases hc : callV P H ih f (.yld s.size :: cap) (s.alloc (.loop t ps.toList assign body 0 none)) with
          | err e => rw [hc] at h; cases h
          | ok q =>
            rw [hc] at h
            have h : behindV ih s.size t q.2 = .ok x t' s' := h
            refine wpIn_rangeFunc fun fn hfnn => ?_
            obtain ⟨mark, w1, ρ1, m, he, hst1, hm, hd1⟩ := enter_ok (P := P) hR hf hB hin fn ps assign body
            refine ⟨m.blk, mark, w1, { target := .fn (.func f) us.toArray, args := #[.func (.yield m.blk) #[] #[]] }, w1, f, #[.func (.yield m.blk) #[] #[]] ++ us.toArray, w1, he, ?_, fun _ _ => FR_fn _ _, ?_, fun hh => (by cases hh), ?_⟩
            · simp only [resolve, hx, Sem.run_pure, Deferred.ofValue]
              simp [go_sem]
            · simp only [invoke, callFunc, run_program, Sem.run_bind, Result.andThen_ok, hfn, hnm, hb]
              simp
            · show CallsIn Fence.wide (0 - 1) P f _ w1 _
              have hargs : (#[.func (.yield m.blk) #[] #[]] ++ us.toArray : Array Value) = (Value.func (.yield m.blk) #[] #[] :: us).toArray := by simp
              rw [hargs]
              refine callsIn_wide.2 ((callV_ok hih hH hc hst1.rel (EL.cons (by simp only [E]; exact ⟨m, hm, rfl⟩) (EL.mono hst1.le _ hE))).mono fun e w3 hret => ?_)
              obtain ⟨ρ2, u, rfl, hst2, _⟩ := hret
              have hm2 := hst2.le _ _ hm
              unfold behindV at h
              split at h
              · rename_i t0 ps0 a0 c0 st pend hb0
                cases hst : Nat.beq st 1 with
                | true => rw [hst] at h; cases h
                | false =>
                  rw [hst] at h
                  simp only at h
                  obtain ⟨_, m3, hm3, _, _, qq, hq, hqf, hq1, hq2, hq3, hq4, hq5⟩ := hst2.rel.blk _ _ hb0
                  rw [hm2] at hm3; injection hm3 with e; subst e
                  have hnb : qq.state ≠ .busy := fun e => by rw [e] at hq4; subst hq4; simp [stNo] at hst
                  have hst3 := Step.loop hst2.rel hb0 hm2 hq (st' := 3) (pend' := pend) { qq with state := .exhausted } ⟨hqf, hq1, hq2, hq3, rfl, hq5⟩
                  have hall := (hst1.trans hst2).trans hst3
                  have hfa : FrA B r ρ2 (q.2.put s.size (.loop t0 ps0 a0 c0 3 pend)) (w3.putObj m.blk (.loop { qq with state := .exhausted })) t { a with defers := mark ++ a.defers } :=
                    ⟨hf.1.mono hall.le, hd1.step (hst2.trans hst3), hf.2.2.mono hall.le⟩
                  have hend := run_endLoop (P := P) hq hnb
                  obtain ⟨w4, hw4⟩ : ∃ w4, w4 = w3.putObj m.blk (.loop { qq with state := .exhausted }) := ⟨_, rfl⟩
                  rw [← hw4] at hend hall hfa
                  refine ⟨_, w4, hend, ?_⟩
                  rw [hq5]
                  cases pend with
                  | none =>
                    simp only at h ⊢
                    injection h with h1 h2 h3; subst h1; subst h2; subst h3
                    exact ⟨rfl, ρ2, hall, hfa⟩
                  | some j =>
                    simp only at h ⊢
                    exact hih.from h hall hfa (Nat.le_trans hB hall.wsize)
              · cases h
      | _ => cases h
theorem step_ok (hmix : P.follows .mixedOrders = true) {H : Hook} (hH : HookOK P W0 H) (hD : DrawOK P W0 H) : ∀ n, RunOK P W0 (exec P H n) ∧ LoopOK P W0 (exec P H n)
  | 0 => by
    refine ⟨fun c t s x t' s' h => ?_, fun c t s x t' s' h => ?_⟩
    · cases h
    · cases h
  | n + 1 => by
    obtain ⟨hih, hlo⟩ := step_ok hmix hH hD n
    have hloop : LoopOK P W0 (exec P H (n + 1)) := by
      intro c t s x t' s' h
      have h : thenV (exec P H n c t s) (exec P H n (.loop c)) = .ok x t' s' := h
      obtain ⟨x1, t1, s1, h1, h2⟩ := thenV_ok h
      rcases h2 with ⟨rfl, h2⟩ | ⟨hne, rfl, rfl, rfl⟩
      · obtain ⟨k, hk⟩ := hlo _ _ _ _ _ _ h2
        refine ⟨k + 1, fun ρ0 s0 w0 ρ w a B r hst hf hB => ?_⟩
        refine wpIn_mono (hih _ _ _ _ _ _ h1 ρ w a B r hst.rel hf hB) fun e a1 w1 hp => ?_
        obtain ⟨rfl, ρ1, hst1, hf1⟩ := hp
        exact hk ρ0 s0 w0 ρ1 w1 a1 B r (hst.trans hst1) hf1 (Nat.le_trans hB hst1.wsize)
      · exact ⟨1, fun ρ0 s0 w0 ρ w a B r hst hf hB => wpIn_mono (hih.from h1 hst hf hB) fun e a w hp => then_of (Or.inr ⟨hne, rfl, rfl, rfl⟩) hp⟩
    refine ⟨?_, hloop⟩
    intro c t s x t' s' h ρ w a B r hR hf hB
    have h : stepV P H n (exec P H n) c t s = .ok x t' s' := h
    have fin : ∀ {x0 : Ex}, Out.ok x0 t s = .ok x t' s' → Post W0 B r ρ s w x t' s' (exitOf x0) a w := fun {x0} e => by
      injection e with h1 h2 h3; subst h1; subst h2; subst h3
      exact ⟨rfl, ρ, Step.refl hR, hf⟩
    cases c with
    | skip => exact wpIn_skip (fin (x0 := .normal) h)
    | label l => exact wpIn_label (fin (x0 := .normal) h)
    | exit i => exact wpIn_exit (fin (x0 := .exit i) h)
    | goto l => exact wpIn_goto (fin (x0 := .goto l) h)
    | ret => exact wpIn_ret (fin (x0 := .ret) h)
    | seq c d =>
      have h : thenV (exec P H n c t s) (exec P H n d) = .ok x t' s' := h
      obtain ⟨x1, t1, s1, h1, h2⟩ := thenV_ok h
      refine wpIn_seq (wpIn_mono (hih _ _ _ _ _ _ h1 ρ w a B r hR hf hB) fun e a1 w1 hp => ?_)
      refine then_of (h2.imp (fun ⟨e, h2⟩ => ⟨e, fun ρ1 w1 a1 hst hf1 => hih.from h2 hst hf1 (Nat.le_trans hB hst.wsize)⟩) id) hp
    | cond c d e =>
      have h : condV (exec P H n) c d e t s = .ok x t' s' := h
      unfold condV at h
      cases hc : ev t c with
      | err e => rw [hc] at h; cases h
      | ok v =>
        rw [hc] at h
        have he := ev_ok hf.1 hc
        cases v with
        | bool b =>
          simp only [E] at he
          cases b with
          | true => exact wpIn_cond_true he (hih _ _ _ _ _ _ h ρ w a B r hR hf hB)
          | false => exact wpIn_cond_false he (hih _ _ _ _ _ _ h ρ w a B r hR hf hB)
        | _ => cases h
    | block i c =>
      have h : blockV i (exec P H n c t s) = .ok x t' s' := h
      cases ho : exec P H n c t s with
      | err e => rw [ho] at h; cases h
      | ok x1 t1 s1 =>
        rw [ho] at h
        refine wpIn_block (wpIn_mono (hih _ _ _ _ _ _ ho ρ w a B r hR hf hB) fun e a w hp => ?_)
        obtain ⟨rfl, ρ', hst, hf⟩ := hp
        cases x1 with
        | exit i' =>
          unfold blockV at h
          simp only at h
          by_cases e : i' = i
          · subst e
            rw [show Nat.beq i' i' = true from by simp] at h
            injection h with h1 h2 h3; subst h1; subst h2; subst h3
            show (if i' = i' then _ else _)
            rw [if_pos rfl]
            exact ⟨rfl, ρ', hst, hf⟩
          · rw [show Nat.beq i' i = false from (Bool.eq_false_iff.2 fun hb => e (Nat.eq_of_beq_eq_true hb))] at h
            injection h with h1 h2 h3; subst h1; subst h2; subst h3
            show (if i' = i then _ else _)
            rw [if_neg e]
            exact ⟨rfl, ρ', hst, hf⟩
        | _ =>
          unfold blockV at h
          simp only at h
          injection h with h1 h2 h3; subst h1; subst h2; subst h3
          exact ⟨rfl, ρ', hst, hf⟩
    | loop c =>
      obtain ⟨k, hk⟩ := hloop c t s x t' s' h
      exact wpIn_loop_rounds k (hk ρ s w ρ w a B r (Step.refl hR) hf hB)
    | region i ops draw =>
      cases draw with
      | true => exact hD _ hih i ops t s x t' s' h ρ w a B r hR hf
      | false =>
        refine wpIn_region ?_
        have := regionV_ok hih hH (ops := ops) ops.toList 0 rfl h (Step.refl hR) hf
        rw [List.range_eq_range']
        simpa using this
    | scope c =>
      exact wpIn_scope_rounds n (scopeV_ok hih n h (Step.refl hR) hf hB)
    | rangeFunc g ps assign body => exact rangeV_ok hih hH h hR hf hB
    | _ => cases h
theorem runOK (hmix : P.follows .mixedOrders = true) {H : Hook} (hH : HookOK P W0 H) (hD : DrawOK P W0 H) (n : Nat) : RunOK P W0 (exec P H n) := (step_ok hmix hH hD n).1
end Go.Clo
