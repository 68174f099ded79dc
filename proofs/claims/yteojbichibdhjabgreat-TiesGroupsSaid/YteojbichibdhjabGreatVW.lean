/- The interpreter of closed runs, a part of it. -/
import Derived.Test.YteojbichibdhjabGreatVV
namespace Go.Clo
set_option linter.unusedSimpArgs false
set_option linter.unusedVariables false
set_option linter.unnecessarySimpa false
open Go Go.RowKit

variable {P : Program} {W0 : World}

section
variable {H : Hook} {ih : Run} {ops : Array Oper} {b : List Nat} {base : Nat} {X : Nat → Sn} {U : Nat → V}
variable {ρ0 ρ : Rho} {s0 : St} {w0 w : World} {L : Nat → Prop} {c : Nat} {ds : List Deferred} {r : Option Nat}

/-- All that holds when the operations of L have run. -/
structure Inv (ds : List Deferred) (P : Program) (W0 : World) (ops : Array Oper) (b : List Nat) (base : Nat) (X : Nat → Sn) (U : Nat → V) (ρ0 : Rho) (s0 : St) (w0 : World) (L : Nat → Prop) (a : Act) (w : World) : Prop where
  closed : Closed ops L
  ex : ∃ ρ c, MInv P W0 ops b base X U ρ0 s0 w0 L ρ w c ∧ TInv ds ops (X 0).t.n X L ρ a
theorem oper_wp_value {o : Oper} {a : Act} {u : Value} {w' : World} {K : Act → World → Prop} {Q : Exit → Act → World → Prop} (hnd : ∀ cl, o.op ≠ .defer cl) (h : (execOp a.eval o).run P w = .ok (.value u) w') (hK : K (a.put o.dst u) w') : o.wpIn (FR r) 0 P a w K Q := by
  refine ⟨fun _ _ => FR_fn _ _, ?_⟩
  rw [Oper.semAt_eq _ _ _ hnd, h]
  exact hK
theorem no_defer {o : Oper} {F : OpF} (h : opF P o = F) (hb : ∀ e, F ≠ .bad e) : ∀ cl, o.op ≠ .defer cl := fun cl hc => by
  have : opF P o = .bad "an operation" := by unfold opF; rw [hc]
  rw [this] at h
  exact hb _ h.symm
/-- One operation that may run. -/
theorem step_drawn (hih : RunOK P W0 ih) (hH : HookOK P W0 H) (C : Cn P H ih ops b base X U) (hB : W0.heap.size ≤ w0.heap.size) (hbase : s0.size = base) {a : Act} (I : Inv ds P W0 ops b base X U ρ0 s0 w0 L a w) {k : Nat} {o : Oper} (hk : Rdy ops L k o)
    {K : Act → World → Prop} {Q : Exit → Act → World → Prop} (hK : ∀ a' w', Inv ds P W0 ops b base X U ρ0 s0 w0 (with_ L k) a' w' → K a' w') : wpOpIn (FR r) 0 P ops Q k K a w := by
  obtain ⟨hL, ρ, c, M, T⟩ := I
  have hks := size_of hk.op
  unfold wpOpIn
  simp only [hk.op]
  rw [T.want C hk]
  have hfr : FrE ρ (restrF (X k).t o) (rAct a o (X k).t.n).tmps := rAct_FrE fun d hd => T.read C hL hk (Or.inr hd)
  have heq : execOp (rAct a o (X k).t.n).eval o = execOp a.eval o := rAct_eval (by rw [T.size, C.n (Nat.le_of_lt hks)]) (fun cs d => C.nosel k o cs d hk.op)
  have hop := opF_ok (P := P) o
  have key : ∀ {wn : Bool}, wantedV (X k).t (guardOf ops o) = wn → StepD P H ih b base k o (X k) (U k) (X (k + 1)) wn →
      if wn = true then o.wpIn (FR r) 0 P a w K Q else (∀ f, o.about P w a.eval = some f → (FR r).fn f) ∧ K (a.put o.dst undef) w := by
    intro wn hw hs
    have notE : ((∀ f, opF P o ≠ .eff f) ∧ ∀ f l, opF P o ≠ .call f l) ∨ wn = false → ¬ EffAt P ops X k := by
      rintro hc ⟨o', k1, k2, k3⟩
      rw [hk.op] at k1; injection k1 with k1; subst k1
      rcases hc with ⟨hc, hc'⟩ | hc
      · rcases k3 with ⟨f, k3⟩ | ⟨f, l, k3⟩
        · exact hc f k3
        · exact hc' f l k3
      · rw [hw, hc] at k2; cases k2
    have notF : (∀ f, opF P o ≠ .float f) ∨ wn = false → ∀ x, ¬ Flt P ops base X U k x := by
      rintro hc x ⟨o', f, k1, k2, k3, _⟩
      rw [hk.op] at k1; injection k1 with k1; subst k1
      rcases hc with hc | hc
      · exact hc f k3
      · rw [hw, hc] at k2; cases k2
    have idle : ¬ EffAt P ops X k → (∀ x, ¬ Flt P ops base X U k x) → ∀ u, E ρ (U k) u → K (a.put o.dst u) w := fun h1 h2 u hu =>
      hK _ _ ⟨hL.with hk, ρ, c, M.idle hks h1 h2, T.put C hL hk ρ.le_refl hu⟩
    cases hs with
    | off hv _ _ _ =>
      simp only [Bool.false_eq_true, if_false]
      refine ⟨fun _ _ => FR_fn _ _, ?_⟩
      exact idle (notE (Or.inr rfl)) (notF (Or.inr rfl)) _ (by rw [hv]; exact E_undef)
    | pure f hF hf _ _ _ =>
      rw [hF] at hop
      simp only [if_true]
      obtain ⟨u, hE, hr⟩ := hop ρ _ _ _ hfr hf
      rw [heq] at hr
      exact oper_wp_value (no_defer hF (by intro e h; cases h)) (hr w) (idle (notE (Or.inl ⟨fun g => (by rw [hF]; intro h; cases h), fun g l => (by rw [hF]; intro h; cases h)⟩)) (notF (Or.inl fun g => (by rw [hF]; intro h; cases h))) u hE)
    | read f hF _ _ _ =>
      simp only [if_true]
      have hval : f (restrF (X k).t o) (addPend (X c).s (ownOf b k (X k).q)) = .ok (U k) := by
        rcases C.red k o f hk.op hw hF c M.curE with ⟨j, hj, hbar⟩ | h
        · exfalso
          rcases hbar with ⟨h1, h2⟩ | ⟨h1, h2⟩
          · have hj' : EffAt P ops X j := by
              rcases hj with e | e
              · have := C.lt h2; omega
              · exact e
            have hLj := C.ahead hL hk h2
            by_cases e : c = j
            · subst e; exact M.curL hLj
            · rcases M.curE with e' | e'
              · have := hj'.lt; omega
              · exact M.curL (C.down hL (C.ord c j e' hj' (by omega)) hLj)
          · have hj' : EffAt P ops X j := by
              rcases hj with e | e
              · have := M.cur; omega
              · exact e
            exact hk.un (C.down hL h2 (M.low j hj' h1))
        · exact h
      rw [hF] at hop
      have A := M.added hB hbase (M.ownAll C hL hk (q := (X k).q) fun e h => h)
      obtain ⟨u, hE, hr⟩ := hop W0 ρ _ w _ _ _ A.step.rel hfr hval
      rw [heq] at hr
      exact oper_wp_value (no_defer hF (by intro e h; cases h)) hr (idle (notE (Or.inl ⟨fun g => (by rw [hF]; intro h; cases h), fun g l => (by rw [hF]; intro h; cases h)⟩)) (notF (Or.inl fun g => (by rw [hF]; intro h; cases h))) u hE)
    | float f y hF hf _ _ _ =>
      rw [hF] at hop
      simp only [if_true]
      have hfl : Flt P ops base X U k y := ⟨o, f, hk.op, hw, hF, hf⟩
      obtain ⟨_, hrun⟩ := hop ρ _ _ _ _ _ hfr hf
      obtain ⟨u, obj, hr, hval⟩ := hrun w
      rw [heq] at hr
      have hn : ρ (base + k) = none := M.un k hks (Or.inl hk.un)
      have hv := hval _ (Rho.le_upd _ hn) (Rho.upd_same _ _ _)
      exact oper_wp_value (no_defer hF (by intro e h; cases h)) hr (hK _ _ ⟨hL.with hk, _, c, M.made C hbase hL hk hfl hv.2, T.put C hL hk (Rho.le_upd _ hn) hv.1⟩)
    | eff hF hf _ _ =>
      simp only [if_true]
      have he : EffAt P ops X k := ⟨o, hk.op, hw, hF⟩
      have hkc := M.isNext C hL hk he
      subst hkc
      have A := M.added hB hbase (M.ownAll C hL hk (q := (X k).p) fun e h => ((C.mem_p M.cur).1 h).1)
      refine operV_at hih hH hf A.step.rel heq hfr fun ρ' u w' hst hE => ?_
      obtain ⟨c', M'⟩ := M.effect C hB hbase hL hk he hst
      exact hK _ _ ⟨hL.with hk, ρ', c', M', T.put C hL hk hst.le hE⟩
  have := key rfl (stepD_inv (C.st k o hk.op)).2
  cases hw : wantedV (X k).t (guardOf ops o) <;> (rw [hw] at this; simpa using this)

/-- Which operations have run. -/
def isL (listed : Array Bool) (i : Nat) : Prop := listed.getD i false = true
theorem with_set {listed : Array Bool} {k : Nat} (hk : k < listed.size) : isL (listed.setIfInBounds k true) = with_ (isL listed) k := by
  funext i
  unfold isL with_
  by_cases e : i = k
  · subst e; simp [hk]
  · rw [getD_set_ne false (Ne.symm e)]; simp [e]
def leftN (n : Nat) (L : Array Bool) : Nat := (List.range n).countP fun i => !L.getD i false
theorem countP_lt {α : Type} {p q : α → Bool} {l : List α} (h : ∀ x ∈ l, q x = true → p x = true) {y : α} (hy : y ∈ l) (hp : p y = true) (hq : q y = false) : l.countP q < l.countP p := by
  induction l with
  | nil => cases hy
  | cons z l ihl =>
    rcases List.mem_cons.1 hy with rfl | hy
    · have : l.countP q ≤ l.countP p := List.countP_mono_left fun x hx => h x (List.mem_cons_of_mem _ hx)
      simp [hp, hq]; omega
    · have := ihl (fun x hx => h x (List.mem_cons_of_mem _ hx)) hy
      have hz := h z List.mem_cons_self
      simp only [List.countP_cons]
      cases hqz : q z with
      | false => simp; omega
      | true => simp [hz hqz]; omega
theorem any_drawn (hih : RunOK P W0 ih) (hH : HookOK P W0 H) (C : Cn P H ih ops b base X U) (hB : W0.heap.size ≤ w0.heap.size) (hbase : s0.size = base) {Q : Exit → Act → World → Prop}
    (hQ : ∀ a w, (∃ L, (∀ i, i < ops.size → L i) ∧ Inv ds P W0 ops b base X U ρ0 s0 w0 L a w) → Q .normal a w) : ∀ (fuel : Nat) (listed : Array Bool) (a : Act) (w : World), listed.size = ops.size → leftN ops.size listed ≤ fuel → Inv ds P W0 ops b base X U ρ0 s0 w0 (isL listed) a w →
    wpAnyIn (FR r) 0 P .any ops Q fuel listed a w := by
  have getD_eq : ∀ (l : Array Bool) (j : Nat), l.size = ops.size → j < ops.size → l.getD j true = l.getD j false := fun l j h1 h2 => by
    simp [Array.getD_eq_getD_getElem?, h1, h2]
  have all_of : ∀ (listed : Array Bool), listed.size = ops.size → Region.ready .any ops listed = [] → ∀ i, i < ops.size → isL listed i := by
    intro listed hsz hr i
    induction i using Nat.strongRecOn with
    | _ i ihi =>
      intro hi
      unfold isL
      cases hb : listed.getD i false with
      | true => rfl
      | false =>
        obtain ⟨o, ho⟩ := op_at hi
        have : i ∈ Region.ready .any ops listed := mem_ready.2 ⟨by rw [getD_eq _ _ hsz hi]; exact hb, o, ho, fun e he hbi => by
          have h1 := C.edge i o ho e he hbi
          exact ihi e.on h1 (by omega)⟩
        rw [hr] at this; cases this
  have done : ∀ (listed : Array Bool) (a : Act) (w : World), listed.size = ops.size → Inv ds P W0 ops b base X U ρ0 s0 w0 (isL listed) a w → Region.ready .any ops listed = [] → Q .normal a w := fun listed a w hsz I hr => hQ a w ⟨_, all_of listed hsz hr, I⟩
  intro fuel
  induction fuel with
  | zero =>
    intro listed a w hsz hle I
    have hr : Region.ready .any ops listed = [] := by
      cases hr : Region.ready .any ops listed with
      | nil => rfl
      | cons k r =>
        have hk : k ∈ Region.ready .any ops listed := by rw [hr]; exact List.mem_cons_self
        obtain ⟨h1, o, ho, _⟩ := mem_ready.1 hk
        have hks := size_of ho
        rw [getD_eq _ _ hsz hks] at h1
        have : 0 < leftN ops.size listed := List.countP_pos_iff.2 ⟨k, List.mem_range.2 hks, by rw [h1]; rfl⟩
        omega
    exact ⟨hr, done listed a w hsz I hr⟩
  | succ fuel ihf =>
    intro listed a w hsz hle I
    refine ⟨done listed a w hsz I, fun k hk => ?_⟩
    obtain ⟨h1, o, ho, h2⟩ := mem_ready.1 hk
    have hks := size_of ho
    rw [getD_eq _ _ hsz hks] at h1
    refine step_drawn hih hH C hB hbase I (k := k) (o := o) ⟨ho, by unfold isL; rw [h1]; simp, h2⟩ fun a' w' I' => ?_
    rw [← with_set (by omega)] at I'
    refine ihf _ a' w' (by simp [hsz]) ?_ I'
    have : leftN ops.size (listed.setIfInBounds k true) < leftN ops.size listed := by
      refine countP_lt (fun x hx hq => ?_) (List.mem_range.2 hks) (by rw [h1]; rfl) (by simp [hsz, hks])
      by_cases e : k = x
      · subst e; rw [h1]; rfl
      · rw [getD_set_ne false e] at hq; exact hq
    omega
end
end Go.Clo
