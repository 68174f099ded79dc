/- The interpreter of closed runs, a part of it. -/
import Derived.Test.YtlkehdlhlpbomaaVN
namespace Go.Clo
set_option linter.unusedSimpArgs false
set_option linter.unusedVariables false
set_option linter.unnecessarySimpa false
open Go Go.RowKit

variable {P : Program} {W0 : World}

theorem E.bool_inv {ρ : Rho} {v : V} {b : Bool} (h : E ρ v (.bool b)) : v = .bool b := by
  cases v with
  | bool c => simp only [E] at h; injection h with h; rw [h]
  | sl b o n c => cases c <;> simp [E] at h
  | _ => simp [E] at h
theorem guardOf_some {ops : Array Oper} {o : Oper} {j : Nat} {want : Bool} (hg : o.guard = some (j, want)) : guardOf ops o = some ((ops[j]?).bind (·.dst), want) := by
  unfold guardOf
  rw [hg]
  show some ((match ops[j]? with | some p => p.dst | none => none), want) = _
  cases hp : ops[j]? <;> simp
/-- Whether an operation is wanted. -/
theorem wantedV_ok {ρ : Rho} {ops : Array Oper} {t : Fr} {o : Oper} {a : Array Value} (h : ∀ d b, guardOf ops o = some (some d, b) → E ρ (t.get d) (a.getD d undef)) :
    Region.wanted o (yielded ops a) = wantedV t (guardOf ops o) := by
  unfold Region.wanted
  cases hg : o.guard with
  | none => unfold guardOf; rw [hg]; rfl
  | some gw =>
    obtain ⟨j, want⟩ := gw
    rw [guardOf_some hg] at h ⊢
    show (yielded ops a j == some want) = _
    unfold yielded
    cases hs : (ops[j]?).bind (·.dst) with
    | none => rfl
    | some d =>
      have he := h d want (by rw [hs])
      show ((match a[d]? with | some (.bool b) => some b | _ => none) == some want) = (match t.get d with | .bool b => b == want | _ => false)
      cases ha : a[d]? with
      | none =>
        have hu : a.getD d undef = undef := by simp [Array.getD_eq_getD_getElem?, ha]
        rw [hu] at he
        cases htd : t.get d with
        | bool b => rw [htd] at he; simp [E, undef] at he
        | _ => rfl
      | some u =>
        have hu : a.getD d undef = u := by simp [Array.getD_eq_getD_getElem?, ha]
        rw [hu] at he
        cases htd : t.get d with
        | bool b =>
          rw [htd] at he
          simp only [E] at he
          subst he
          rfl
        | _ =>
          cases u with
          | bool b => have := E.bool_inv he; rw [htd] at this; cases this
          | _ => rfl
theorem put_defers' (a : Act) (d : Option Tmp) (v : Value) : (a.put d v).defers = a.defers := by cases d <;> rfl

theorem regionV_ok {H : Hook} {ih : Run} (hih : RunOK P W0 ih) (hH : HookOK P W0 H) {ops : Array Oper} {x : Ex} {t' : Fr} {s' : St} {ρ0 : Rho} {s0 : St} {w0 : World} : ∀ (l : List Oper) (i : Nat), ops.toList.drop i = l → ∀ {t : Fr} {s : St}, regionV P H ih ops l t s = .ok x t' s' →
    ∀ {ρ : Rho} {w : World} {a : Act}, Step W0 ρ0 s0 w0 ρ s w → FrE ρ t a.tmps → a.defers = [] → wpOps P ops (Post W0 ρ0 s0 w0 x t' s') (List.range' i l.length) a w
  | [], i, hd, t, s, h, ρ, w, a, hR, hf, ha => by
    have h : Out.ok .normal t s = .ok x t' s' := h
    injection h with h1 h2 h3; subst h1; subst h2; subst h3
    exact ⟨rfl, ha, ρ, hR, hf⟩
  | o :: l, i, hd, t, s, h, ρ, w, a, hR, hf, ha => by
    have hi : ops[i]? = some o := by
      have : ops.toList[i]? = some o := by
        have := congrArg (fun l => l[0]?) hd
        simpa [List.getElem?_drop] using this
      simpa using this
    have hl : ops.toList.drop (i + 1) = l := by
      have := congrArg List.tail hd
      simpa [List.tail_drop] using this
    have h : regionS P H ih ops (regionV P H ih ops l) o t s = .ok x t' s' := h
    show wpOps P ops _ (List.range' i (l.length + 1)) a w
    rw [List.range'_succ, wpOps_cons]
    unfold wpOp
    simp only [hi]
    rw [wantedV_ok (t := t) (fun d _ _ => hf.2 d)]
    unfold regionS at h
    cases hw : wantedV t (guardOf ops o) with
    | false =>
      rw [hw] at h
      simp only [Bool.false_eq_true, if_false]
      exact regionV_ok hih hH l (i + 1) hl h hR (putV_ok hf o.dst E_undef) (by rw [put_defers']; exact ha)
    | true =>
      rw [hw] at h
      simp only [if_true]
      left
      cases hr : operV P H ih t s (opF P o) with
      | err e => rw [hr] at h; cases h
      | ok r =>
        rw [hr] at h
        have h : regionV P H ih ops l (putV t o.dst r.1) r.2 = .ok x t' s' := h
        refine operV_ok hih hH (v := r.1) (s' := r.2) hr hR.rel hf fun ρ' u w' hst hE => ?_
        exact regionV_ok hih hH l (i + 1) hl h (hR.trans hst) (putV_ok (hf.mono hst.le) o.dst hE) (by rw [put_defers']; exact ha)
/-- The regions that draw their order. -/
def DrawOK (P : Program) (W0 : World) (H : Hook) : Prop :=
  ∀ ih, RunOK P W0 ih → ∀ id ops t s x t' s', drawV P H ih ops t s = .ok x t' s' → ∀ ρ w a, Rel W0 ρ s w → FrE ρ t a.tmps → a.defers = [] → (Code.region id ops true).wp P (Post W0 ρ s w x t' s') a w

theorem thenV_ok {o : Out} {f : Fr → St → Out} {x : Ex} {t' : Fr} {s' : St} (h : thenV o f = .ok x t' s') :
    ∃ x1 t1 s1, o = .ok x1 t1 s1 ∧ ((x1 = .normal ∧ f t1 s1 = .ok x t' s') ∨ (x1 ≠ .normal ∧ x = x1 ∧ t' = t1 ∧ s' = s1)) := by
  cases o with
  | err e => cases h
  | ok x1 t1 s1 =>
    refine ⟨x1, t1, s1, rfl, ?_⟩
    cases x1 with
    | normal => exact Or.inl ⟨rfl, h⟩
    | _ =>
      unfold thenV at h
      simp only at h
      injection h with h1 h2 h3
      exact Or.inr ⟨by (intro e; cases e), h1.symm, h2.symm, h3.symm⟩
theorem then_of {ρ0 : Rho} {s0 : St} {w0 : World} {x : Ex} {t' : Fr} {s' : St} {x1 : Ex} {t1 : Fr} {s1 : St} {next : Act → World → Prop}
    (hc : (x1 = .normal ∧ ∀ ρ w a, Step W0 ρ0 s0 w0 ρ s1 w → FrE ρ t1 a.tmps → a.defers = [] → next a w) ∨ (x1 ≠ .normal ∧ x = x1 ∧ t' = t1 ∧ s' = s1)) {e : Exit} {a : Act} {w : World} (h : Post W0 ρ0 s0 w0 x1 t1 s1 e a w) :
    Exit.then next (Post W0 ρ0 s0 w0 x t' s') e a w := by
  rcases hc with ⟨rfl, hn⟩ | ⟨hne, rfl, rfl, rfl⟩
  · obtain ⟨rfl, hd, ρ, hst, hf⟩ := h
    exact hn ρ w a hst hf hd
  · have he := h.1
    subst he
    cases x with
    | normal => exact absurd rfl hne
    | _ => exact h
/-- Loops. -/
def LoopOK (P : Program) (W0 : World) (ih : Run) : Prop :=
  ∀ c t s x t' s', ih (.loop c) t s = .ok x t' s' → ∃ k, ∀ ρ0 s0 w0 ρ w a, Step W0 ρ0 s0 w0 ρ s w → FrE ρ t a.tmps → a.defers = [] → Code.rounds P c (Post W0 ρ0 s0 w0 x t' s') k a w
theorem RunOK.from {ih : Run} (hih : RunOK P W0 ih) {c : Code} {t : Fr} {s : St} {x : Ex} {t' : Fr} {s' : St} (h : ih c t s = .ok x t' s') {ρ0 : Rho} {s0 : St} {w0 : World} {ρ : Rho} {w : World} {a : Act}
    (hst : Step W0 ρ0 s0 w0 ρ s w) (hf : FrE ρ t a.tmps) (hd : a.defers = []) : c.wp P (Post W0 ρ0 s0 w0 x t' s') a w :=
  wp_mono (hih _ _ _ _ _ _ h ρ w a hst.rel hf hd) fun _ _ _ hp => Post.trans hst hp
theorem rounds_mono {c : Code} {Q Q' : Exit → Act → World → Prop} (hQ : ∀ e a w, Q e a w → Q' e a w) : ∀ (k : Nat) (a : Act) (w : World), Code.rounds P c Q k a w → Code.rounds P c Q' k a w
  | 0, _, _, h => h.elim
  | k + 1, a, w, h => wp_mono h fun e a w hq => by
    cases e with
    | normal => exact rounds_mono hQ k a w hq
    | _ => exact hQ _ _ _ hq
theorem scopeV_ok {ih : Run} (hih : RunOK P W0 ih) {body : Code} {x : Ex} {t' : Fr} {s' : St} {ρ0 : Rho} {s0 : St} {w0 : World} : ∀ (n : Nat) {c : Code} {t : Fr} {s : St}, scopeV body ih n (ih c t s) = .ok x t' s' →
    ∀ {ρ : Rho} {w : World} {a : Act}, Step W0 ρ0 s0 w0 ρ s w → FrE ρ t a.tmps → a.defers = [] → goRounds P body (Post W0 ρ0 s0 w0 x t' s') n c a w
  | 0, c, t, s, h, _, _, _, _, _, _ => by cases h
  | n + 1, c, t, s, h, ρ, w, a, hst, hf, hd => by
    cases ho : ih c t s with
    | err e => rw [ho] at h; cases h
    | ok x1 t1 s1 =>
      rw [ho] at h
      refine wp_mono (hih.from ho hst hf hd) fun e a w hp => ?_
      cases x1 with
      | goto l =>
        obtain ⟨rfl, hd, ρ', hst, hf⟩ := hp
        unfold scopeV at h
        simp only at h
        show (match findLabel body l with | some rest => goRounds P body _ n rest a w | none => _)
        cases hl : findLabel body l with
        | none =>
          rw [hl] at h
          injection h with h1 h2 h3; subst h1; subst h2; subst h3
          exact ⟨rfl, hd, ρ', hst, hf⟩
        | some rest =>
          rw [hl] at h
          exact scopeV_ok hih n h hst hf hd
      | _ =>
        unfold scopeV at h
        simp only at h
        injection h with h1 h2 h3; subst h1; subst h2; subst h3
        obtain ⟨rfl, hd, ρ', hst, hf⟩ := hp
        exact ⟨rfl, hd, ρ', hst, hf⟩
theorem step_ok (hmix : P.follows .mixedOrders = true) {H : Hook} (hH : HookOK P W0 H) (hD : DrawOK P W0 H) : ∀ n, RunOK P W0 (exec P H n) ∧ LoopOK P W0 (exec P H n)
  | 0 => by
    refine ⟨fun c t s x t' s' h => ?_, fun c t s x t' s' h => ?_⟩
    · cases h
    · cases h
  | n + 1 => by
    obtain ⟨hih, hlo⟩ := step_ok hmix hH hD n
    have hloop : LoopOK P W0 (exec P H (n + 1)) := by
      intro c t s x t' s' h
      have h : thenV (exec P H n c t s) (exec P H n (.loop c)) = .ok x t' s' := h
      obtain ⟨x1, t1, s1, h1, h2⟩ := thenV_ok h
      rcases h2 with ⟨rfl, h2⟩ | ⟨hne, rfl, rfl, rfl⟩
      · obtain ⟨k, hk⟩ := hlo _ _ _ _ _ _ h2
        exact ⟨k + 1, fun ρ0 s0 w0 ρ w a hst hf hd => wp_mono (hih.from h1 hst hf hd) fun e a w hp => then_of (Or.inl ⟨rfl, fun ρ w a hst hf hd => hk ρ0 s0 w0 ρ w a hst hf hd⟩) hp⟩
      · exact ⟨1, fun ρ0 s0 w0 ρ w a hst hf hd => wp_mono (hih.from h1 hst hf hd) fun e a w hp => then_of (Or.inr ⟨hne, rfl, rfl, rfl⟩) hp⟩
    refine ⟨?_, hloop⟩
    intro c t s x t' s' h ρ w a hR hf hd
    have h : stepV P H n (exec P H n) c t s = .ok x t' s' := h
    have fin : ∀ {x0 : Ex}, Out.ok x0 t s = .ok x t' s' → Post W0 ρ s w x t' s' (exitOf x0) a w := fun {x0} e => by
      injection e with h1 h2 h3; subst h1; subst h2; subst h3
      exact ⟨rfl, hd, ρ, Step.refl hR, hf⟩
    cases c with
    | skip => exact wp_skip (fin (x0 := .normal) h)
    | label l => exact wp_label (fin (x0 := .normal) h)
    | exit i => exact wp_exit (fin (x0 := .exit i) h)
    | goto l => exact wp_goto (fin (x0 := .goto l) h)
    | ret => exact wp_ret (fin (x0 := .ret) h)
    | seq c d =>
      have h : thenV (exec P H n c t s) (exec P H n d) = .ok x t' s' := h
      obtain ⟨x1, t1, s1, h1, h2⟩ := thenV_ok h
      refine wp_seq (wp_mono (hih _ _ _ _ _ _ h1 ρ w a hR hf hd) fun e a w hp => then_of ?_ hp)
      exact h2.imp (fun ⟨e, h2⟩ => ⟨e, fun ρ w a hst hf hd => hih.from h2 hst hf hd⟩) id
    | cond c d e =>
      have h : condV (exec P H n) c d e t s = .ok x t' s' := h
      unfold condV at h
      cases hc : ev t c with
      | err e => rw [hc] at h; cases h
      | ok v =>
        rw [hc] at h
        have he := ev_ok hf hc
        cases v with
        | bool b =>
          simp only [E] at he
          cases b with
          | true => exact wp_cond_true he (hih _ _ _ _ _ _ h ρ w a hR hf hd)
          | false => exact wp_cond_false he (hih _ _ _ _ _ _ h ρ w a hR hf hd)
        | _ => cases h
    | block i c =>
      have h : blockV i (exec P H n c t s) = .ok x t' s' := h
      cases ho : exec P H n c t s with
      | err e => rw [ho] at h; cases h
      | ok x1 t1 s1 =>
        rw [ho] at h
        refine wp_block (wp_mono (hih _ _ _ _ _ _ ho ρ w a hR hf hd) fun e a w hp => ?_)
        obtain ⟨rfl, hd, ρ', hst, hf⟩ := hp
        cases x1 with
        | exit i' =>
          unfold blockV at h
          simp only at h
          by_cases e : i' = i
          · subst e
            rw [show Nat.beq i' i' = true from by simp] at h
            injection h with h1 h2 h3; subst h1; subst h2; subst h3
            show (if i' = i' then _ else _)
            rw [if_pos rfl]
            exact ⟨rfl, hd, ρ', hst, hf⟩
          · rw [show Nat.beq i' i = false from (Bool.eq_false_iff.2 fun hb => e (Nat.eq_of_beq_eq_true hb))] at h
            injection h with h1 h2 h3; subst h1; subst h2; subst h3
            show (if i' = i then _ else _)
            rw [if_neg e]
            exact ⟨rfl, hd, ρ', hst, hf⟩
        | _ =>
          unfold blockV at h
          simp only at h
          injection h with h1 h2 h3; subst h1; subst h2; subst h3
          exact ⟨rfl, hd, ρ', hst, hf⟩
    | loop c =>
      obtain ⟨k, hk⟩ := hloop c t s x t' s' h
      exact wp_loop_rounds k (hk ρ s w ρ w a (Step.refl hR) hf hd)
    | region i ops draw =>
      cases draw with
      | true => exact hD _ hih i ops t s x t' s' h ρ w a hR hf hd
      | false =>
        refine wp_region ?_
        have := regionV_ok hih hH (ops := ops) ops.toList 0 rfl h (Step.refl hR) hf hd
        rw [List.range_eq_range']
        simpa using this
    | scope c =>
      exact wp_scope_rounds n (scopeV_ok hih n h (Step.refl hR) hf hd)
    | _ => cases h
theorem runOK (hmix : P.follows .mixedOrders = true) {H : Hook} (hH : HookOK P W0 H) (hD : DrawOK P W0 H) (n : Nat) : RunOK P W0 (exec P H n) := (step_ok hmix hH hD n).1
end Go.Clo
