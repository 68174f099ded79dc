/- The finest partition that is coarser than two: plain mathematics. -/
import Derived.Test.YtlllmoafhfjbbaaGreatPm
namespace Go.Proofs.YtlllmoafhfjbbaaGreat
set_option linter.unusedSimpArgs false
set_option linter.unusedVariables false

/-- The least equivalence that holds a relation. -/
inductive Eqv (R : Nat → Nat → Prop) : Nat → Nat → Prop
  | base {i k : Nat} : R i k → Eqv R i k
  | refl (i : Nat) : Eqv R i i
  | symm {i k : Nat} : Eqv R i k → Eqv R k i
  | trans {i k m : Nat} : Eqv R i k → Eqv R k m → Eqv R i m
theorem Eqv.mono {R R' : Nat → Nat → Prop} (h : ∀ i k, R i k → Eqv R' i k) {i k : Nat} (e : Eqv R i k) : Eqv R' i k := by
  induction e with
  | base h1 => exact h _ _ h1
  | refl i => exact .refl i
  | symm _ ih => exact .symm ih
  | trans _ _ ih1 ih2 => exact .trans ih1 ih2
theorem Eqv.keeps {R : Nat → Nat → Prop} {P : Nat → Prop} (h : ∀ i k, R i k → (P i ↔ P k)) {i k : Nat} (e : Eqv R i k) : P i ↔ P k := by
  induction e with
  | base h1 => exact h _ _ h1
  | refl i => exact Iff.rfl
  | symm _ ih => exact ih.symm
  | trans _ _ ih1 ih2 => exact ih1.trans ih2
/-- Each place holds the least one of its class. -/
structure Least (n : Nat) (E : Nat → Nat → Prop) (l : List Int) : Prop where
  len : l.length = n
  cls : ∀ (i : Nat) (x : Int), l[i]? = some x → 0 ≤ x ∧ x ≤ i ∧ E i x.toNat
  same : ∀ (i k : Nat), E i k → l[i]? = l[k]?
theorem Least.le {n : Nat} {E : Nat → Nat → Prop} {l l' : List Int} (h : Least n E l) (h' : Least n E l') {i : Nat} {x x' : Int} (hx : l[i]? = some x) (hx' : l'[i]? = some x') : x' ≤ x := by
  obtain ⟨h1, h2, h3⟩ := h.cls i x hx
  have hi : i < n := by have := (List.getElem?_eq_some_iff.1 hx).1; rw [h.len] at this; exact this
  have e := h'.same i x.toNat h3
  rw [hx'] at e
  obtain ⟨h4, h5, _⟩ := h'.cls x.toNat x' e.symm
  omega
theorem Least.uniq {n : Nat} {E : Nat → Nat → Prop} {l l' : List Int} (h : Least n E l) (h' : Least n E l') : l = l' := by
  apply List.ext_getElem?
  intro i
  by_cases hi : i < n
  · have e1 := List.getElem?_eq_getElem (l := l) (i := i) (by rw [h.len]; exact hi)
    have e2 := List.getElem?_eq_getElem (l := l') (i := i) (by rw [h'.len]; exact hi)
    have := h.le h' e1 e2
    have := h'.le h e2 e1
    rw [e1, e2]
    congr 1; omega
  · rw [List.getElem?_eq_none (by rw [h.len]; omega), List.getElem?_eq_none (by rw [h'.len]; omega)]
theorem Least.iff {n : Nat} {E E' : Nat → Nat → Prop} {l : List Int} (he : ∀ i k, E i k ↔ E' i k) (h : Least n E l) : Least n E' l :=
  ⟨h.len, fun i x hx => by obtain ⟨h1, h2, h3⟩ := h.cls i x hx; exact ⟨h1, h2, (he _ _).1 h3⟩, fun i k e => h.same i k ((he i k).2 e)⟩
/-! ### By uniting -/
def TieR (T : List (Nat × Nat)) (i k : Nat) : Prop := (i, k) ∈ T
def uniL (l : List Int) (lo hi : Int) : List Int := l.map fun v => if v = hi then lo else v
theorem uni_get (l : List Int) (lo hi : Int) (i : Nat) : (uniL l lo hi)[i]? = (l[i]?).map fun v => if v = hi then lo else v := by unfold uniL; rw [List.getElem?_map]
theorem Least.start (n : Nat) : Least n (Eqv (TieR [])) (intN (List.range n)) := by
  refine ⟨by rw [intN_len, List.length_range], fun i x hx => ?_, fun i k e => ?_⟩
  · rw [range_get] at hx
    split at hx
    · injection hx with hx; subst hx; exact ⟨by omega, by omega, by rw [Int.toNat_natCast]; exact .refl i⟩
    · cases hx
  · have : ∀ {i k : Nat}, Eqv (TieR []) i k → i = k := fun e => by
      induction e with
      | base h => cases h
      | refl i => rfl
      | symm _ ih => exact ih.symm
      | trans _ _ ih1 ih2 => exact ih1.trans ih2
    rw [this e]
theorem Least.unite {n : Nat} {T : List (Nat × Nat)} {l : List Int} (h : Least n (Eqv (TieR T)) l) {x y : Nat} {p q : Int} (hx : l[x]? = some p) (hy : l[y]? = some q) : Least n (Eqv (TieR (T ++ [(x, y)]))) (uniL l (min p q) (max p q)) := by
  have up : ∀ {i k : Nat}, Eqv (TieR T) i k → Eqv (TieR (T ++ [(x, y)])) i k := fun e => e.mono fun i k hr => .base (by unfold TieR at *; exact List.mem_append_left _ hr)
  have hxy : Eqv (TieR (T ++ [(x, y)])) x y := .base (by unfold TieR; simp)
  obtain ⟨p0, p1, p2⟩ := h.cls x p hx
  obtain ⟨q0, q1, q2⟩ := h.cls y q hy
  have hpq : Eqv (TieR (T ++ [(x, y)])) p.toNat q.toNat := (up p2).symm.trans (hxy.trans (up q2))
  refine ⟨by unfold uniL; rw [List.length_map]; exact h.len, fun i v hv => ?_, fun i k e => ?_⟩
  · rw [uni_get] at hv
    cases hl : l[i]? with
    | none => rw [hl] at hv; cases hv
    | some u =>
      rw [hl] at hv
      simp only [Option.map_some, Option.some.injEq] at hv
      obtain ⟨u0, u1, u2⟩ := h.cls i u hl
      split at hv
      · rename_i hu
        subst hv
        refine ⟨by omega, by omega, (up u2).trans ?_⟩
        rw [hu]
        rcases Int.le_total p q with hle | hle
        · rw [Int.max_eq_right hle, Int.min_eq_left hle]; exact hpq.symm
        · rw [Int.max_eq_left hle, Int.min_eq_right hle]; exact hpq
      · subst hv; exact ⟨u0, u1, up u2⟩
  · induction e with
    | @base i k hr =>
      unfold TieR at hr
      rw [List.mem_append, List.mem_singleton] at hr
      rcases hr with hr | hr
      · rw [uni_get, uni_get, h.same i k (.base hr)]
      · injection hr with h1 h2
        subst h1; subst h2
        rw [uni_get, uni_get, hx, hy]
        simp only [Option.map_some, Option.some.injEq]
        rcases Int.le_total p q with hle | hle
        · rw [Int.max_eq_right hle, Int.min_eq_left hle, if_pos rfl]; split <;> rfl
        · rw [Int.max_eq_left hle, Int.min_eq_right hle, if_pos rfl]; split <;> rfl
    | refl i => rfl
    | symm _ ih => exact ih.symm
    | trans _ _ ih1 ih2 => exact ih1.trans ih2
/-! ### By taking the least number of those with which it is together, as long as something changes -/
/-- A list on its way: what it holds is of the class, and not above its place. -/
structure Way (n : Nat) (E : Nat → Nat → Prop) (l : List Int) : Prop where
  len : l.length = n
  cls : ∀ (i : Nat) (x : Int), l[i]? = some x → 0 ≤ x ∧ x ≤ i ∧ E i x.toNat
theorem Way.start {n : Nat} {R : Nat → Nat → Prop} : Way n (Eqv R) (intN (List.range n)) := by
  refine ⟨by rw [intN_len, List.length_range], fun i x hx => ?_⟩
  rw [range_get] at hx
  split at hx
  · injection hx with hx; subst hx; exact ⟨by omega, by omega, by rw [Int.toNat_natCast]; exact .refl i⟩
  · cases hx
/-- A smaller number of the class. -/
theorem Way.put {n : Nat} {R : Nat → Nat → Prop} {l : List Int} (h : Way n (Eqv R) l) {i k : Nat} {x y : Int} (hx : l[i]? = some x) (hy : l[k]? = some y) (hr : R i k) : Way n (Eqv R) (l.set i (min x y)) := by
  refine ⟨by rw [List.length_set]; exact h.len, fun j v hv => ?_⟩
  rw [List.getElem?_set] at hv
  split at hv
  · rename_i hij
    subst hij
    split at hv
    · injection hv with hv
      subst hv
      obtain ⟨h1, h2, h3⟩ := h.cls i x hx
      obtain ⟨g1, g2, g3⟩ := h.cls k y hy
      rcases Int.le_total x y with hle | hle
      · rw [Int.min_eq_left hle]; exact ⟨h1, h2, h3⟩
      · rw [Int.min_eq_right hle]; exact ⟨g1, by omega, (Eqv.base hr).trans g3⟩
    · cases hv
  · exact h.cls j v hv
/-- A list that is stable holds the least ones. -/
theorem Way.done {n : Nat} {R : Nat → Nat → Prop} {l : List Int} (h : Way n (Eqv R) l) (hs : ∀ i k, R i k → l[i]? = l[k]?) : Least n (Eqv R) l := by
  refine ⟨h.len, h.cls, fun i k e => ?_⟩
  induction e with
  | base hr => exact hs _ _ hr
  | refl i => rfl
  | symm _ ih => exact ih.symm
  | trans _ _ ih1 ih2 => exact ih1.trans ih2
/-- A place that holds the least one of its class. -/
def Fin (n : Nat) (E : Nat → Nat → Prop) (l : List Int) (i : Nat) : Prop := ∃ v : Int, l[i]? = some v ∧ ∀ k, k < n → E i k → v ≤ k
theorem Fin.eq {n : Nat} {R : Nat → Nat → Prop} {l l' : List Int} (h : Way n (Eqv R) l) (h' : Way n (Eqv R) l') {i k : Nat} {v v' : Int} (hv : l[i]? = some v) (hm : ∀ k, k < n → Eqv R i k → v ≤ k) (hv' : l'[k]? = some v') (e : Eqv R i k) : v ≤ v' := by
  obtain ⟨h1, h2, h3⟩ := h'.cls k v' hv'
  have hk : k < n := by have := (List.getElem?_eq_some_iff.1 hv').1; rw [h'.len] at this; exact this
  have := hm v'.toNat (by omega) (e.trans h3)
  omega
/-- A round: every place takes what those with which it is together held at its start, or less. -/
structure Round (n : Nat) (R : Nat → Nat → Prop) (l0 l1 : List Int) : Prop where
  old : Way n (Eqv R) l0
  way : Way n (Eqv R) l1
  less : ∀ (i : Nat) (x y : Int), l0[i]? = some x → l1[i]? = some y → y ≤ x
  took : ∀ (i k : Nat) (x y : Int), R i k → l0[k]? = some x → l1[i]? = some y → y ≤ x
theorem some_of {n : Nat} {E : Nat → Nat → Prop} {l : List Int} (h : Way n E l) {i : Nat} (hi : i < n) : ∃ x, l[i]? = some x := ⟨_, List.getElem?_eq_getElem (by rw [h.len]; exact hi)⟩
theorem lt_of {n : Nat} {E : Nat → Nat → Prop} {l : List Int} (h : Way n E l) {i : Nat} {x : Int} (hx : l[i]? = some x) : i < n := by have := (List.getElem?_eq_some_iff.1 hx).1; rw [h.len] at this; exact this
theorem Round.keeps {n : Nat} {R : Nat → Nat → Prop} {l0 l1 : List Int} (h : Round n R l0 l1) {i : Nat} (hf : Fin n (Eqv R) l0 i) : Fin n (Eqv R) l1 i := by
  obtain ⟨v, hv, hm⟩ := hf
  obtain ⟨y, hy⟩ := some_of h.way (lt_of h.old hv)
  have h1 := h.less i v y hv hy
  exact ⟨y, hy, fun k hk e => by have := hm k hk e; omega⟩
theorem least_of (P : Nat → Prop) : ∀ n, P n → ∃ m, P m ∧ ∀ k, P k → m ≤ k := fun n => by
  induction n using Nat.strongRecOn with
  | _ n ih =>
    intro hn
    by_cases h : ∃ k, k < n ∧ P k
    · obtain ⟨k, hk, hp⟩ := h; exact ih k hk hp
    · exact ⟨n, hn, fun k hk => Nat.le_of_not_lt fun hlt => h ⟨k, hlt, hk⟩⟩
theorem Round.gains {n : Nat} {R : Nat → Nat → Prop} {l0 l1 : List Int} (hin : ∀ i k, R i k → i < n ∧ k < n) (hsym : ∀ i k, R i k → R k i) (h : Round n R l0 l1) (hno : ∀ i, i < n → Fin n (Eqv R) l1 i → Fin n (Eqv R) l0 i) {i : Nat} (hi : i < n) : Fin n (Eqv R) l0 i := by
  have hcl : ∀ i k, R i k → Fin n (Eqv R) l0 k → Fin n (Eqv R) l0 i := fun i k hr ⟨v, hv, hm⟩ => by
    obtain ⟨hi, hk⟩ := hin i k hr
    obtain ⟨y, hy⟩ := some_of h.way hi
    have h1 := h.took i k v y hr hv hy
    exact hno i hi ⟨y, hy, fun j hj e => by have := hm j hj ((Eqv.base hr).symm.trans e); omega⟩
  obtain ⟨m, ⟨hmn, hme⟩, hml⟩ := least_of (fun m => m < n ∧ Eqv R i m) i ⟨hi, .refl i⟩
  have hfm : Fin n (Eqv R) l0 m := by
    obtain ⟨v, hv⟩ := some_of h.old hmn
    obtain ⟨h1, h2, h3⟩ := h.old.cls m v hv
    exact ⟨v, hv, fun k hk e => by have := hml k ⟨hk, hme.trans e⟩; omega⟩
  exact (Eqv.keeps (P := Fin n (Eqv R) l0) (fun i k hr => ⟨hcl k i (hsym i k hr), hcl i k hr⟩) hme).2 hfm
open Classical in
/-- How many places are done. -/
noncomputable def cntF (n : Nat) (E : Nat → Nat → Prop) (l : List Int) : Nat := ((List.range n).filter fun i => decide (Fin n E l i)).length
theorem filter_lt {p q : Nat → Bool} (hpq : ∀ i, p i = true → q i = true) : ∀ (l : List Nat) (x : Nat), x ∈ l → p x = false → q x = true → (l.filter p).length < (l.filter q).length
  | [], x, hx, _, _ => by cases hx
  | y :: l, x, hx, h1, h2 => by
    have hle : ∀ l : List Nat, (l.filter p).length ≤ (l.filter q).length := fun l => by
      induction l with
      | nil => exact Nat.le_refl _
      | cons z l ih =>
        rw [List.filter_cons, List.filter_cons]
        cases hz : p z with
        | true => rw [hpq z hz]; simpa using ih
        | false => cases q z <;> simp <;> omega
    rw [List.filter_cons, List.filter_cons]
    rw [List.mem_cons] at hx
    rcases hx with rfl | hx
    · rw [h1, h2]; have := hle l; simp; omega
    · have ih := filter_lt hpq l x hx h1 h2
      cases hy : p y with
      | true => rw [hpq y hy]; simpa using ih
      | false => cases q y <;> simp <;> omega
theorem Round.count {n r : Nat} {R : Nat → Nat → Prop} {l0 l1 : List Int} (hin : ∀ i k, R i k → i < n ∧ k < n) (hsym : ∀ i k, R i k → R k i) (h : Round n R l0 l1) (hr : (∀ i, i < n → Fin n (Eqv R) l0 i) ∨ r ≤ cntF n (Eqv R) l0) :
    (∀ i, i < n → Fin n (Eqv R) l1 i) ∨ r + 1 ≤ cntF n (Eqv R) l1 := by
  rcases hr with hr | hr
  · exact .inl fun i hi => h.keeps (hr i hi)
  · by_cases hx : ∃ i, i < n ∧ Fin n (Eqv R) l1 i ∧ ¬ Fin n (Eqv R) l0 i
    · obtain ⟨i, hi, h1, h2⟩ := hx
      refine .inr ?_
      have : cntF n (Eqv R) l0 < cntF n (Eqv R) l1 := by
        unfold cntF
        exact filter_lt (fun i hp => by simp only [decide_eq_true_eq] at *; exact h.keeps hp) _ i (List.mem_range.2 hi) (by simp [h2]) (by simp [h1])
      omega
    · exact .inl fun i hi => h.keeps (h.gains hin hsym (fun i hi h1 => Classical.byContradiction fun h2 => hx ⟨i, hi, h1, h2⟩) hi)
theorem all_of_count {n : Nat} {E : Nat → Nat → Prop} {l : List Int} (h : (∀ i, i < n → Fin n E l i) ∨ n ≤ cntF n E l) : ∀ i, i < n → Fin n E l i := by
  rcases h with h | h
  · exact h
  · intro i hi
    refine Classical.byContradiction fun hno => ?_
    have := filter_lt (p := fun i => @decide (Fin n E l i) (Classical.propDecidable _)) (q := fun _ => true) (fun _ _ => rfl) (List.range n) i (List.mem_range.2 hi) (by simp [hno]) rfl
    unfold cntF at h
    have e : ((List.range n).filter fun _ => true).length = n := by rw [List.filter_eq_self.2 (fun _ _ => rfl), List.length_range]
    rw [e] at this
    omega
theorem Way.least {n : Nat} {R : Nat → Nat → Prop} {l : List Int} (hin : ∀ i k, R i k → i < n ∧ k < n) (h : Way n (Eqv R) l) (hf : ∀ i, i < n → Fin n (Eqv R) l i) : Least n (Eqv R) l := h.done fun i k hr => by
  obtain ⟨hi, hk⟩ := hin i k hr
  obtain ⟨x, hx, hm⟩ := hf i hi
  obtain ⟨y, hy, hm'⟩ := hf k hk
  have := Fin.eq h h hx hm hy (.base hr)
  have := Fin.eq h h hy hm' hx (Eqv.base hr).symm
  rw [hx, hy]; congr 1; omega
end Go.Proofs.YtlllmoafhfjbbaaGreat
