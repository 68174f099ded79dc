/- The interpreter of closed runs, a part of it. -/
import Derived.Test.YteojbichibdhjabGreatVQ
namespace Go.Clo
set_option linter.unusedSimpArgs false
set_option linter.unusedVariables false
set_option linter.unnecessarySimpa false
open Go Go.RowKit

variable {P : Program} {W0 : World}

def Closed (ops : Array Oper) (L : Nat → Prop) : Prop := ∀ j o, ops[j]? = some o → L j → ∀ e ∈ o.after, Region.binds .any e = true → L e.on
def EffAt (P : Program) (ops : Array Oper) (X : Nat → Sn) (k : Nat) : Prop := ∃ o, ops[k]? = some o ∧ wantedV (X k).t (guardOf ops o) = true ∧ ((∃ f, opF P o = .eff f) ∨ ∃ f l, opF P o = .call f l)
def Flt (P : Program) (ops : Array Oper) (base : Nat) (X : Nat → Sn) (U : Nat → V) (k : Nat) (x : Blk) : Prop := ∃ o f, ops[k]? = some o ∧ wantedV (X k).t (guardOf ops o) = true ∧ opF P o = .float f ∧ f (restrF (X k).t o) (base + k) = .ok (U k, x)
/-- The canonical run of a region that draws its order. -/
structure Cn (P : Program) (H : Hook) (ih : Run) (ops : Array Oper) (b : List Nat) (base : Nat) (X : Nat → Sn) (U : Nat → V) : Prop where
  st : ∀ (i : Nat) (o : Oper), ops[i]? = some o → stepD P H ih ops b base i o (X i) = .ok (U i, X (i + 1))
  p0 : (X 0).p = []
  q0 : (X 0).q = []
  inn : ∀ i j, before b i j = true → j < ops.size
  clo : ∀ (i j : Nat) (o : Oper), ops[j]? = some o → before b i j = true → ∃ e ∈ o.after, Region.binds .any e = true ∧ (i = e.on ∨ before b i e.on = true)
  edge : ∀ (i : Nat) (o : Oper), ops[i]? = some o → ∀ e ∈ o.after, Region.binds .any e = true → e.on < i
  tmp : ∀ (i : Nat) (o : Oper) d, ops[i]? = some o → o.dst = some d → ∀ (j : Nat) (o' : Oper), ops[j]? = some o' → i ≠ j → (o'.dst = some d ∨ d ∈ tmpsOf o'.op.operands.toList) → (i < j → before b i j = true) ∧ (j < i → before b j i = true)
  grd : ∀ (i : Nat) (o : Oper) (j : Nat) (want : Bool), ops[i]? = some o → o.guard = some (j, want) → (∃ e ∈ o.after, e.on = j ∧ Region.binds .any e = true) ∧ ∀ p d, ops[j]? = some p → p.dst = some d → ∀ k ok, ops[k]? = some ok → k ≠ j → ok.dst ≠ some d
  ord : ∀ j k, EffAt P ops X j → EffAt P ops X k → j < k → before b j k = true
  red : ∀ (i : Nat) (o : Oper) f, ops[i]? = some o → wantedV (X i).t (guardOf ops o) = true → opF P o = .read f → ∀ c, (c = ops.size ∨ EffAt P ops X c) →
    (∃ k, (k = ops.size ∨ EffAt P ops X k) ∧ ((c ≤ k ∧ before b k i = true) ∨ (k < c ∧ before b i k = true))) ∨ f (restrF (X i).t o) (addPend (X c).s (ownOf b i (X i).q)) = .ok (U i)
  nosel : ∀ (i : Nat) (o : Oper) cs d, ops[i]? = some o → o.op ≠ .select cs d

section
variable {H : Hook} {ih : Run} {ops : Array Oper} {b : List Nat} {base : Nat} {X : Nat → Sn} {U : Nat → V}
theorem size_of {i : Nat} {o : Oper} (h : ops[i]? = some o) : i < ops.size := (Array.getElem?_eq_some_iff.1 h).1
theorem op_at {i : Nat} (h : i < ops.size) : ∃ o, ops[i]? = some o := ⟨ops[i], by simp [h]⟩
theorem EffAt.lt {k : Nat} (h : EffAt P ops X k) : k < ops.size := by obtain ⟨o, h, _⟩ := h; exact size_of h
theorem Flt.lt {k : Nat} {x : Blk} (h : Flt P ops base X U k x) : k < ops.size := by obtain ⟨o, _, h, _⟩ := h; exact size_of h
theorem Flt.notEff {k : Nat} {x : Blk} (h : Flt P ops base X U k x) : ¬ EffAt P ops X k := by
  rintro ⟨o, h1, _, h3⟩
  obtain ⟨o', f, k1, _, k3, _⟩ := h
  rw [h1] at k1; injection k1 with k1; subst k1
  rcases h3 with ⟨g, h3⟩ | ⟨g, l, h3⟩ <;> (rw [h3] at k3; cases k3)
theorem Flt.one {k : Nat} {x x' : Blk} (h : Flt P ops base X U k x) (h' : Flt P ops base X U k x') : x = x' := by
  obtain ⟨o, f, h1, _, h3, h4⟩ := h
  obtain ⟨o', f', k1, _, k3, k4⟩ := h'
  rw [h1] at k1; injection k1 with k1; subst k1
  rw [h3] at k3; injection k3 with k3; subst k3
  rw [h4] at k4; injection k4 with k4
  simp only [Prod.mk.injEq] at k4
  exact k4.2
theorem Cn.lt (C : Cn P H ih ops b base X U) : ∀ {j i : Nat}, before b i j = true → i < j := by
  intro j
  induction j using Nat.strongRecOn with
  | _ j ihj =>
    intro i h
    obtain ⟨o, ho⟩ := op_at (C.inn i j h)
    obtain ⟨e, he, hb, h1 | h1⟩ := C.clo i j o ho h
    · subst h1; exact C.edge j o ho e he hb
    · have h2 := C.edge j o ho e he hb
      exact Nat.lt_trans (ihj _ h2 h1) h2
theorem Cn.down (C : Cn P H ih ops b base X U) {L : Nat → Prop} (hL : Closed ops L) : ∀ {j i : Nat}, before b i j = true → L j → L i := by
  intro j
  induction j using Nat.strongRecOn with
  | _ j ihj =>
    intro i h hj
    obtain ⟨o, ho⟩ := op_at (C.inn i j h)
    obtain ⟨e, he, hb, h1 | h1⟩ := C.clo i j o ho h
    · subst h1; exact hL j o ho hj e he hb
    · exact ihj _ (C.edge j o ho e he hb) h1 (hL j o ho hj e he hb)
/-- An operation that may run. -/
structure Rdy (ops : Array Oper) (L : Nat → Prop) (k : Nat) (o : Oper) : Prop where
  op : ops[k]? = some o
  un : ¬ L k
  all : ∀ e ∈ o.after, Region.binds .any e = true → L e.on
theorem Cn.ahead (C : Cn P H ih ops b base X U) {L : Nat → Prop} (hL : Closed ops L) {k : Nat} {o : Oper} (hk : Rdy ops L k o) {i : Nat} (h : before b i k = true) : L i := by
  obtain ⟨e, he, hb, h1 | h1⟩ := C.clo i k o hk.op h
  · subst h1; exact hk.all e he hb
  · exact C.down hL h1 (hk.all e he hb)
def with_ (L : Nat → Prop) (k : Nat) : Nat → Prop := fun i => i = k ∨ L i
theorem Closed.with {L : Nat → Prop} (hL : Closed ops L) {k : Nat} {o : Oper} (hk : Rdy ops L k o) : Closed ops (with_ L k) := by
  intro j o' ho' hj e he hb
  rcases hj with rfl | hj
  · have := hk.op
    rw [ho'] at this; injection this with this; subst this
    exact Or.inr (hk.all e he hb)
  · exact Or.inr (hL j o' ho' hj e he hb)

/-- The slots, when the operations of L have run. -/
structure TInv (ds : List Deferred) (ops : Array Oper) (n : Nat) (X : Nat → Sn) (L : Nat → Prop) (ρ : Rho) (a : Act) : Prop where
  size : a.tmps.size = n
  defers : a.defers = ds
  at_ : ∀ d i, i ≤ ops.size → (∀ j o, j < i → ops[j]? = some o → o.dst = some d → L j) → (∀ j o, i ≤ j → ops[j]? = some o → L j → o.dst ≠ some d) → E ρ ((X i).t.get d) (a.tmps.getD d undef)
theorem Cn.next (C : Cn P H ih ops b base X U) {i : Nat} {o : Oper} (h : ops[i]? = some o) : (X (i + 1)).t = putV (X i).t o.dst (U i) := (stepD_inv (C.st i o h)).1
theorem Cn.keep (C : Cn P H ih ops b base X U) {d i : Nat} : ∀ {j : Nat}, i ≤ j → j ≤ ops.size → (∀ k o, i ≤ k → k < j → ops[k]? = some o → o.dst ≠ some d) → (X j).t.get d = (X i).t.get d := by
  intro j
  induction j with
  | zero => intro h _ _; rw [Nat.le_zero.1 h]
  | succ j ihj =>
    intro h hj hno
    by_cases e : i = j + 1
    · rw [e]
    · obtain ⟨o, ho⟩ := op_at (show j < ops.size by omega)
      rw [C.next ho, ← ihj (by omega) (by omega) (fun k o h1 h2 h3 => hno k o h1 (by omega) h3)]
      cases hd : o.dst with
      | none => rfl
      | some d' =>
        have := hno j o (by omega) (by omega) ho
        show ((X j).t.set d' (U j)).get d = _
        rw [Fr.get_set, if_neg]
        rintro ⟨rfl, _⟩
        exact this hd
theorem Cn.n (C : Cn P H ih ops b base X U) : ∀ {i : Nat}, i ≤ ops.size → (X i).t.n = (X 0).t.n := by
  intro i
  induction i with
  | zero => intro _; rfl
  | succ i ihi =>
    intro h
    obtain ⟨o, ho⟩ := op_at (show i < ops.size by omega)
    rw [C.next ho, ← ihi (by omega)]
    cases o.dst with
    | none => rfl
    | some d => exact Fr.set_n _ _ _
theorem Cn.r (C : Cn P H ih ops b base X U) : ∀ {i : Nat}, i ≤ ops.size → (X i).t.r = (X 0).t.r := by
  intro i
  induction i with
  | zero => intro _; rfl
  | succ i ihi =>
    intro h
    obtain ⟨o, ho⟩ := op_at (show i < ops.size by omega)
    rw [C.next ho, putV_r, ← ihi (by omega)]
/-- What an operation that may run reads. -/
theorem TInv.read {ds : List Deferred} (C : Cn P H ih ops b base X U) {L : Nat → Prop} {ρ : Rho} {a : Act} (T : TInv ds ops (X 0).t.n X L ρ a) (hL : Closed ops L) {k : Nat} {o : Oper} (hk : Rdy ops L k o) {d : Nat} (hd : o.dst = some d ∨ d ∈ tmpsOf o.op.operands.toList) :
    E ρ ((X k).t.get d) (a.tmps.getD d undef) := by
  refine T.at_ d k (Nat.le_of_lt (size_of hk.op)) (fun j o' hj ho' hd' => ?_) (fun j o' hj ho' hl hd' => ?_)
  · exact C.ahead hL hk ((C.tmp j o' d ho' hd' k o hk.op (by omega) hd).1 hj)
  · by_cases e : j = k
    · subst e; exact hk.un hl
    · exact hk.un (C.down hL ((C.tmp j o' d ho' hd' k o hk.op e hd).2 (by omega)) hl)
theorem TInv.want {ds : List Deferred} (C : Cn P H ih ops b base X U) {L : Nat → Prop} {ρ : Rho} {a : Act} (T : TInv ds ops (X 0).t.n X L ρ a) {k : Nat} {o : Oper} (hk : Rdy ops L k o) :
    Region.wanted o (yielded ops a.tmps) = wantedV (X k).t (guardOf ops o) := by
  refine wantedV_ok (ρ := ρ) fun d want hg => ?_
  cases hgd : o.guard with
  | none => unfold guardOf at hg; rw [hgd] at hg; cases hg
  | some gw =>
    obtain ⟨j, w'⟩ := gw
    rw [guardOf_some hgd] at hg
    injection hg with hg
    simp only [Prod.mk.injEq] at hg
    obtain ⟨hg, _⟩ := hg
    obtain ⟨⟨e, he, hej, heb⟩, hs⟩ := C.grd k o j w' hk.op hgd
    have hLj : L j := hej ▸ hk.all e he heb
    have hjk : j < k := hej ▸ C.edge k o hk.op e he heb
    cases hp : ops[j]? with
    | none => rw [hp] at hg; cases hg
    | some p =>
      rw [hp] at hg
      refine T.at_ d k (Nat.le_of_lt (size_of hk.op)) (fun i o' hi ho' hd' => ?_) (fun i o' hi ho' hl hd' => ?_)
      · by_cases e : i = j
        · subst e; exact hLj
        · exact absurd hd' (hs p d hp hg i o' ho' e)
      · exact absurd hd' (hs p d hp hg i o' ho' (by omega))
theorem TInv.put {ds : List Deferred} (C : Cn P H ih ops b base X U) {L : Nat → Prop} {ρ ρ' : Rho} {a : Act} (T : TInv ds ops (X 0).t.n X L ρ a) (hL : Closed ops L) {k : Nat} {o : Oper} (hk : Rdy ops L k o) (hle : ρ.le ρ') {u : Value} (hu : E ρ' (U k) u) :
    TInv ds ops (X 0).t.n X (with_ L k) ρ' (a.put o.dst u) := by
  have hks := size_of hk.op
  refine ⟨?_, by rw [put_defers']; exact T.defers, fun d i hi h1 h2 => ?_⟩
  · cases hd : o.dst with
    | none => exact T.size
    | some d => show (a.tmps.setIfInBounds d u).size = _; simp [T.size]
  · by_cases hd : o.dst = some d
    · have hki : k < i := by
        rcases Nat.lt_or_ge k i with h | h
        · exact h
        · exact absurd hd (h2 k o h hk.op (Or.inl rfl))
      rw [C.keep (i := k + 1) (j := i) (by omega) hi (fun j o' hj hj' ho' hd' => ?_)]
      · rw [C.next hk.op, hd]
        show E ρ' (((X k).t.set d (U k)).get d) ((a.tmps.setIfInBounds d u).getD d undef)
        have hr := T.read C hL hk (Or.inl hd)
        rw [Fr.get_set, C.n (Nat.le_of_lt hks)]
        by_cases hlt : d < (X 0).t.n
        · rw [if_pos ⟨rfl, hlt⟩]
          have : d < a.tmps.size := by rw [T.size]; exact hlt
          simpa [Array.getD, this] using hu
        · rw [if_neg (fun h => hlt h.2)]
          have : ¬ d < a.tmps.size := by rw [T.size]; exact hlt
          have e : (a.tmps.setIfInBounds d u).getD d undef = a.tmps.getD d undef := by simp [Array.getD, this]
          rw [e]; exact E.mono hle _ hr
      · have hj2 : L j := by
          rcases h1 j o' hj' ho' hd' with e | h
          · omega
          · exact h
        exact hk.un (C.down hL ((C.tmp j o' d ho' hd' k o hk.op (by omega) (Or.inl hd)).2 (by omega)) hj2)
    · have e : (a.put o.dst u).tmps.getD d undef = a.tmps.getD d undef := by
        cases ho : o.dst with
        | none => rfl
        | some d' =>
          have : d' ≠ d := fun e => hd (by rw [ho, e])
          show (a.tmps.setIfInBounds d' u).getD d undef = _
          simp [Array.getElem?_setIfInBounds_ne this]
      rw [e]
      refine E.mono hle _ (T.at_ d i hi (fun j o' hj ho' hd' => ?_) (fun j o' hj ho' hl => h2 j o' hj ho' (Or.inr hl)))
      rcases h1 j o' hj ho' hd' with e | h
      · subst e
        rw [hk.op] at ho'; injection ho' with ho'; subst ho'
        exact absurd hd' hd
      · exact h
end
end Go.Clo
