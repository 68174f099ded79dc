/- The interpreter of closed runs, a part of it. -/
import Derived.Test.YteojbichibdhjabGreatVR
namespace Go.Clo
set_option linter.unusedSimpArgs false
set_option linter.unusedVariables false
set_option linter.unnecessarySimpa false
open Go Go.RowKit

variable {P : Program} {W0 : World}
theorem alive_c {u v : V} {c : List V} {ty : TypeId} {x : Blk} (h : M.ok (u, Blk.cells c ty) = M.ok (v, x)) : x.alive := by
  injection h with h; injection h with _ h; subst h; trivial
theorem alive_m {u v : V} {c : List (V × V)} {x : Blk} (h : M.ok (u, Blk.map c) = M.ok (v, x)) : x.alive := by
  injection h with h; injection h with _ h; subst h; trivial
set_option maxHeartbeats 1000000 in
theorem float_alive {o : Oper} {f : Fr → Nat → M (V × Blk)} (h : opF P o = .float f) {t : Fr} {id : Nat} {v : V} {x : Blk} (hx : f t id = .ok (v, x)) : x.alive := by
  unfold opF at h
  split at h
  all_goals try (simp only [fBuild, fConv, fFieldAddr, fField, fIndexAddr, fIndex, fFunc, fIface, fLoad, fSlice, fLookup, fAlloc, fLit, fMake, fStore, fUpdate, fCall, fBuiltin, fLen, fCap, fAppend, fCopy, fClear, isSlice, orBad] at h)
  all_goals repeat' (first | (cases h; done) | split at h)
  all_goals injection h with h
  all_goals subst h
  all_goals simp only [gAlloc, gBox, gLit, gMake, gMap] at hx
  · exact alive_c hx
  · obtain ⟨_, _, hx⟩ := M.bind_ok hx; obtain ⟨_, hx⟩ := ask_ok hx; exact alive_c hx
  · obtain ⟨_, _, hx⟩ := M.bind_ok hx; obtain ⟨_, _, hx⟩ := M.bind_ok hx; exact alive_c hx
  · obtain ⟨_, _, hx⟩ := M.bind_ok hx; obtain ⟨_, _, hx⟩ := M.bind_ok hx; obtain ⟨_, _, hx⟩ := M.bind_ok hx; obtain ⟨_, _, hx⟩ := M.bind_ok hx; obtain ⟨_, hx⟩ := ask_ok hx; exact alive_c hx
  · exact alive_m hx

section
variable {H : Hook} {ih : Run} {ops : Array Oper} {b : List Nat} {base : Nat} {X : Nat → Sn} {U : Nat → V}

theorem Cn.mem_q (C : Cn P H ih ops b base X U) {e : Nat × Nat × Blk} : ∀ {i : Nat}, i ≤ ops.size → (e ∈ (X i).q ↔ ∃ j x, j < i ∧ e = (j, base + j, x) ∧ Flt P ops base X U j x) := by
  intro i
  induction i with
  | zero => intro _; rw [C.q0]; simp
  | succ i ihi =>
    intro h
    obtain ⟨o, ho⟩ := op_at (show i < ops.size by omega)
    have old : (X (i + 1)).q = (X i).q → (∀ x, ¬ Flt P ops base X U i x) → (e ∈ (X (i + 1)).q ↔ ∃ j x, j < i + 1 ∧ e = (j, base + j, x) ∧ Flt P ops base X U j x) := fun hq hno => by
      rw [hq, ihi (by omega)]
      constructor
      · rintro ⟨j, x, h1, h2, h3⟩; exact ⟨j, x, by omega, h2, h3⟩
      · rintro ⟨j, x, h1, h2, h3⟩
        have : j ≠ i := fun e => by subst e; exact hno x h3
        exact ⟨j, x, by omega, h2, h3⟩
    have key : ∀ {w : Bool}, wantedV (X i).t (guardOf ops o) = w → StepD P H ih b base i o (X i) (U i) (X (i + 1)) w → (e ∈ (X (i + 1)).q ↔ ∃ j x, j < i + 1 ∧ e = (j, base + j, x) ∧ Flt P ops base X U j x) := by
      intro w hw hs
      have not : (∀ f, opF P o ≠ .float f) ∨ w = false → ∀ x, ¬ Flt P ops base X U i x := by
        rintro hc x ⟨o', f, k1, k2, k3, _⟩
        rw [ho] at k1; injection k1 with k1; subst k1
        rcases hc with hc | hc
        · exact hc f k3
        · rw [hw, hc] at k2; cases k2
      cases hs with
      | off _ _ _ hq => exact old hq (not (Or.inr rfl))
      | pure f hF _ _ _ hq => exact old hq (not (Or.inl fun g => by rw [hF]; intro h; cases h))
      | read f hF _ _ hq => exact old hq (not (Or.inl fun g => by rw [hF]; intro h; cases h))
      | eff hF _ _ hq => exact old hq (not (Or.inl fun g => by rcases hF with ⟨f, hF⟩ | ⟨f, l, hF⟩ <;> (rw [hF]; intro h; cases h)))
      | float f y hF hf _ _ hq =>
        have hfl : Flt P ops base X U i y := ⟨o, f, ho, hw, hF, hf⟩
        rw [hq, List.mem_cons, ihi (by omega)]
        constructor
        · rintro (rfl | ⟨j, x, h1, h2, h3⟩)
          · exact ⟨i, y, by omega, rfl, hfl⟩
          · exact ⟨j, x, by omega, h2, h3⟩
        · rintro ⟨j, x, h1, h2, h3⟩
          by_cases e : j = i
          · subst e; rw [hfl.one h3]; exact Or.inl h2
          · exact Or.inr ⟨j, x, by omega, h2, h3⟩
    exact key rfl (stepD_inv (C.st i o ho)).2
theorem Cn.mem_p (C : Cn P H ih ops b base X U) {e : Nat × Nat × Blk} : ∀ {i : Nat}, i ≤ ops.size → (e ∈ (X i).p ↔ e ∈ (X i).q ∧ ∀ k, k < i → EffAt P ops X k → before b e.1 k = false) := by
  intro i
  induction i with
  | zero => intro _; rw [C.p0, C.q0]; simp
  | succ i ihi =>
    intro h
    obtain ⟨o, ho⟩ := op_at (show i < ops.size by omega)
    have old : (X (i + 1)).q = (X i).q → (X (i + 1)).p = (X i).p → ¬ EffAt P ops X i → (e ∈ (X (i + 1)).p ↔ e ∈ (X (i + 1)).q ∧ ∀ k, k < i + 1 → EffAt P ops X k → before b e.1 k = false) := fun hq hp hno => by
      rw [hq, hp, ihi (by omega)]
      constructor
      · rintro ⟨h1, h2⟩
        refine ⟨h1, fun k hk he => ?_⟩
        have : k ≠ i := fun e => by subst e; exact hno he
        exact h2 k (by omega) he
      · rintro ⟨h1, h2⟩; exact ⟨h1, fun k hk he => h2 k (by omega) he⟩
    have key : ∀ {w : Bool}, wantedV (X i).t (guardOf ops o) = w → StepD P H ih b base i o (X i) (U i) (X (i + 1)) w → (e ∈ (X (i + 1)).p ↔ e ∈ (X (i + 1)).q ∧ ∀ k, k < i + 1 → EffAt P ops X k → before b e.1 k = false) := by
      intro w hw hs
      have not : ((∀ f, opF P o ≠ .eff f) ∧ ∀ f l, opF P o ≠ .call f l) ∨ w = false → ¬ EffAt P ops X i := by
        rintro hc ⟨o', k1, k2, k3⟩
        rw [ho] at k1; injection k1 with k1; subst k1
        rcases hc with ⟨hc, hc'⟩ | hc
        · rcases k3 with ⟨f, k3⟩ | ⟨f, l, k3⟩
          · exact hc f k3
          · exact hc' f l k3
        · rw [hw, hc] at k2; cases k2
      cases hs with
      | off _ _ hp hq => exact old hq hp (not (Or.inr rfl))
      | pure f hF _ _ hp hq => exact old hq hp (not (Or.inl ⟨fun g => (by rw [hF]; intro h; cases h), fun g l => (by rw [hF]; intro h; cases h)⟩))
      | read f hF _ hp hq => exact old hq hp (not (Or.inl ⟨fun g => (by rw [hF]; intro h; cases h), fun g l => (by rw [hF]; intro h; cases h)⟩))
      | float f y hF hf _ hp hq =>
        have hno : ¬ EffAt P ops X i := not (Or.inl ⟨fun g => (by rw [hF]; intro h; cases h), fun g l => (by rw [hF]; intro h; cases h)⟩)
        rw [hp, hq, List.mem_cons, List.mem_cons, ihi (by omega)]
        constructor
        · rintro (rfl | ⟨h1, h2⟩)
          · refine ⟨Or.inl rfl, fun k hk he => ?_⟩
            cases hb : before b i k with
            | false => rfl
            | true => have := C.lt hb; omega
          · refine ⟨Or.inr h1, fun k hk he => ?_⟩
            have : k ≠ i := fun e => by subst e; exact hno he
            exact h2 k (by omega) he
        · rintro ⟨h1 | h1, h2⟩
          · exact Or.inl h1
          · exact Or.inr ⟨h1, fun k hk he => h2 k (by omega) he⟩
      | eff hF _ hp hq =>
        have heff : EffAt P ops X i := ⟨o, ho, hw, hF⟩
        rw [hp, hq, mem_restOf, ihi (by omega)]
        constructor
        · rintro ⟨⟨h1, h2⟩, h3⟩
          refine ⟨h1, fun k hk he => ?_⟩
          by_cases e : k = i
          · subst e; exact h3
          · exact h2 k (by omega) he
        · rintro ⟨h1, h2⟩
          exact ⟨⟨h1, fun k hk he => h2 k (by omega) he⟩, h2 i (by omega) heff⟩
    exact key rfl (stepD_inv (C.st i o ho)).2
theorem Cn.still (C : Cn P H ih ops b base X U) {i : Nat} : ∀ {j : Nat}, i ≤ j → j ≤ ops.size → (∀ k, i ≤ k → k < j → ¬ EffAt P ops X k) → (X j).s = (X i).s := by
  intro j
  induction j with
  | zero => intro h _ _; rw [Nat.le_zero.1 h]
  | succ j ihj =>
    intro h hj hno
    by_cases e : i = j + 1
    · rw [e]
    · obtain ⟨o, ho⟩ := op_at (show j < ops.size by omega)
      rw [← ihj (by omega) (by omega) (fun k h1 h2 => hno k h1 (by omega))]
      have hn := hno j (by omega) (by omega)
      have key : ∀ {w : Bool}, wantedV (X j).t (guardOf ops o) = w → StepD P H ih b base j o (X j) (U j) (X (j + 1)) w → (X (j + 1)).s = (X j).s := by
        intro w hw hs
        cases hs with
        | off _ hs _ _ => exact hs
        | pure f hF _ hs _ _ => exact hs
        | read f hF hs _ _ => exact hs
        | float f y hF hf hs _ _ => exact hs
        | eff hF _ _ _ => exact absurd ⟨o, ho, hw, hF⟩ hn
      exact key rfl (stepD_inv (C.st j o ho)).2
theorem next_eff (P : Program) (ops : Array Oper) (X : Nat → Sn) : ∀ (m c : Nat), ops.size - c = m → c ≤ ops.size → ∃ c', c ≤ c' ∧ c' ≤ ops.size ∧ (c' = ops.size ∨ EffAt P ops X c') ∧ ∀ k, c ≤ k → k < c' → ¬ EffAt P ops X k
  | 0, c, h, hc => ⟨c, Nat.le_refl _, hc, Or.inl (by omega), fun k h1 h2 => by omega⟩
  | m + 1, c, h, hc => by
    by_cases he : EffAt P ops X c
    · exact ⟨c, Nat.le_refl _, hc, Or.inr he, fun k h1 h2 => by omega⟩
    · obtain ⟨c', h1, h2, h3, h4⟩ := next_eff P ops X m (c + 1) (by omega) (by omega)
      refine ⟨c', by omega, h2, h3, fun k k1 k2 => ?_⟩
      by_cases e : k = c
      · subst e; exact he
      · exact h4 k (by omega) k2

/-- The memory, when the operations of L have run; c: the effect that is next. -/
structure MInv (P : Program) (W0 : World) (ops : Array Oper) (b : List Nat) (base : Nat) (X : Nat → Sn) (U : Nat → V) (ρ0 : Rho) (s0 : St) (w0 : World) (L : Nat → Prop) (ρ : Rho) (w : World) (c : Nat) : Prop where
  lt : ∀ i, L i → i < ops.size
  cur : c ≤ ops.size
  curE : c = ops.size ∨ EffAt P ops X c
  curL : ¬ L c
  low : ∀ k, EffAt P ops X k → k < c → L k
  step : Step W0 ρ0 s0 w0 ρ (X c).s w
  sz : base + ops.size ≤ (X c).s.size
  un : ∀ i, i < ops.size → (¬ L i ∨ ∀ x, ¬ Flt P ops base X U i x) → ρ (base + i) = none
  taken : ∀ i x k, L i → Flt P ops base X U i x → L k → EffAt P ops X k → before b i k = true → ∃ y, (X c).s.get (base + i) = some y
  pend : ∀ i x, L i → Flt P ops base X U i x → (∀ k, L k → EffAt P ops X k → before b i k = false) → (X c).s.get (base + i) = none ∧ ∃ l, ρ (base + i) = some l ∧ w0.heap.size ≤ l.blk ∧ l.blk < w.heap.size ∧ BOK ρ w l x ∧ ¬ Img ρ (X c).s l.blk
  apart : ∀ i i' x x' l l', i ≠ i' → L i → Flt P ops base X U i x → L i' → Flt P ops base X U i' x' → (X c).s.get (base + i) = none → (X c).s.get (base + i') = none → ρ (base + i) = some l → ρ (base + i') = some l' → l.blk ≠ l'.blk
section
variable {ρ0 ρ : Rho} {s0 : St} {w0 w : World} {L : Nat → Prop} {c : Nat}
theorem MInv.open_ (M : MInv P W0 ops b base X U ρ0 s0 w0 L ρ w c) {i : Nat} {x : Blk} (hi : L i) (hf : Flt P ops base X U i x) (hg : (X c).s.get (base + i) = none) :
    ∃ l, ρ (base + i) = some l ∧ w0.heap.size ≤ l.blk ∧ l.blk < w.heap.size ∧ BOK ρ w l x ∧ ¬ Img ρ (X c).s l.blk := by
  refine (M.pend i x hi hf fun k hk he => ?_).2
  cases hb : before b i k with
  | false => rfl
  | true => obtain ⟨y, hy⟩ := M.taken i x k hi hf hk he hb; rw [hg] at hy; cases hy
theorem MInv.added (M : MInv P W0 ops b base X U ρ0 s0 w0 L ρ w c) (hB : W0.heap.size ≤ w0.heap.size) (hbase : s0.size = base) {q : Pend} (hq : ∀ e ∈ q, ∃ j x, e = (j, base + j, x) ∧ L j ∧ Flt P ops base X U j x) :
    Added W0 ρ0 s0 w0 ρ (X c).s w q (addPend (X c).s q) := by
  refine addPend_ok hB q M.step (fun e he => ?_) (fun e he e' he' hne hn hn' l l' hl hl' => ?_)
  · obtain ⟨j, x, rfl, hj, hf⟩ := hq e he
    have := M.sz
    have := M.lt j hj
    exact ⟨by show s0.size ≤ base + j; omega, by show base + j < _; omega, (by obtain ⟨_, _, _, _, h1, h2⟩ := hf; exact float_alive h1 h2), fun hn => M.open_ hj hf hn⟩
  · obtain ⟨j, x, rfl, hj, hf⟩ := hq e he
    obtain ⟨j', x', rfl, hj', hf'⟩ := hq e' he'
    exact M.apart j j' x x' l l' (fun e => hne (by rw [e])) hj hf hj' hf' hn hn' hl hl'
theorem MInv.notCur (M : MInv P W0 ops b base X U ρ0 s0 w0 L ρ w c) {k : Nat} (hk : k < ops.size) (he : ¬ EffAt P ops X k) : k ≠ c := by
  rintro rfl
  rcases M.curE with h | h
  · omega
  · exact he h
/-- An operation that leaves the memory alone. -/
theorem MInv.idle (M : MInv P W0 ops b base X U ρ0 s0 w0 L ρ w c) {k : Nat} (hk : k < ops.size) (he : ¬ EffAt P ops X k) (hf : ∀ x, ¬ Flt P ops base X U k x) : MInv P W0 ops b base X U ρ0 s0 w0 (with_ L k) ρ w c := by
  have inE : ∀ {i}, with_ L k i → EffAt P ops X i → L i := fun h h' => h.resolve_left fun e => he (e ▸ h')
  have inF : ∀ {i x}, with_ L k i → Flt P ops base X U i x → L i := fun {i x} h h' => h.resolve_left fun e => hf x (e ▸ h')
  exact ⟨fun i hi => hi.elim (fun e => e ▸ hk) (M.lt i), M.cur, M.curE, fun h => h.elim (fun e => M.notCur hk he e.symm) M.curL, fun i h1 h2 => Or.inr (M.low i h1 h2), M.step, M.sz,
    fun i hi h => M.un i hi (h.imp (fun h h' => h (Or.inr h')) id), fun i x j h1 h2 h3 h4 h5 => M.taken i x j (inF h1 h2) h2 (inE h3 h4) h4 h5,
    fun i x h1 h2 h3 => M.pend i x (inF h1 h2) h2 fun j h4 h5 => h3 j (Or.inr h4) h5,
    fun i i' x x' l l' h1 h2 h3 h4 h5 => M.apart i i' x x' l l' h1 (inF h2 h3) h3 (inF h4 h5) h5⟩
end
end
end Go.Clo
