/- Partitions in their normal form: plain mathematics. / The finest partition that is coarser than two: plain mathematics. / Groups of nodes that ties join: plain mathematics. -/
import Derived.WalkKit
/- Partitions in their normal form: plain mathematics. -/
namespace Go.Proofs.YthjeiaildabadaaGreat
set_option linter.unusedSimpArgs false
set_option linter.unusedVariables false

/-- Where a number stands first. -/
def ixF : List Int → Int → Nat → Option Nat
  | [], _, _ => none
  | y :: l, x, i => if x = y then some i else ixF l x (i + 1)
theorem ixF_some : ∀ {l : List Int} {x : Int} {i j : Nat}, ixF l x i = some j → i ≤ j ∧ l[j - i]? = some x
  | [], x, i, j, h => by simp [ixF] at h
  | y :: l, x, i, j, h => by
    unfold ixF at h
    split at h
    · rename_i e; injection h with h; subst h; subst e; simp
    · obtain ⟨h1, h2⟩ := ixF_some h
      refine ⟨by omega, ?_⟩
      rw [show j - i = (j - (i + 1)) + 1 by omega, List.getElem?_cons_succ]; exact h2
theorem ixF_none : ∀ {l : List Int} {x : Int} {i : Nat}, ixF l x i = none → x ∉ l
  | [], x, i, h => by simp
  | y :: l, x, i, h => by
    unfold ixF at h
    split at h
    · cases h
    · rename_i e; simp [e, ixF_none h]
theorem ixF_at : ∀ {l : List Int} {x : Int} {i j : Nat}, l.Nodup → l[j]? = some x → ixF l x i = some (i + j)
  | [], x, i, j, _, h => by simp at h
  | y :: l, x, i, 0, _, h => by simp at h; subst h; simp [ixF]
  | y :: l, x, i, j + 1, hn, h => by
    rw [List.getElem?_cons_succ] at h
    rw [List.nodup_cons] at hn
    have hne : x ≠ y := fun e => hn.1 (by rw [← e]; exact List.mem_of_getElem? h)
    unfold ixF
    rw [if_neg hne, ixF_at hn.2 h]
    congr 1; omega
def ixI (l : List Int) (x : Int) : Int := match ixF l x 0 with | some j => (j : Int) | none => -1
def intN (l : List Nat) : List Int := l.map fun (n : Nat) => (n : Int)
theorem intN_snoc (l : List Nat) (n : Nat) : intN (l ++ [n]) = intN l ++ [(n : Int)] := by simp [intN]
theorem intN_len (l : List Nat) : (intN l).length = l.length := by simp [intN]
/-- One more number: that of the first equal one, or a new one. -/
def nrmS (p : List Int × List Nat) (x : Int) : List Int × List Nat := match ixF p.1 x 0 with
  | some i => (p.1, p.2 ++ [i])
  | none => (p.1 ++ [x], p.2 ++ [p.1.length])
def nrmP (l : List Int) : List Int × List Nat := l.foldl nrmS ([], [])
theorem nrmP_snoc (l : List Int) (x : Int) : nrmP (l ++ [x]) = nrmS (nrmP l) x := by unfold nrmP; rw [List.foldl_append]; rfl
theorem nrmP_step (l : List Int) (k : Nat) (hk : k < l.length) : nrmP (l.take (k + 1)) = nrmS (nrmP (l.take k)) l[k] := by
  rw [← List.take_append_getElem hk, nrmP_snoc]
structure NInv (l : List Int) (p : List Int × List Nat) : Prop where
  nodup : p.1.Nodup
  len : p.2.length = l.length
  flen : p.1.length ≤ l.length
  at_ : ∀ (k : Nat) (x : Int), l[k]? = some x → ∃ j, p.2[k]? = some j ∧ p.1[j]? = some x
  mem : ∀ x ∈ p.1, x ∈ l
theorem snoc_ind {P : List Int → Prop} (h0 : P []) (h1 : ∀ l x, P l → P (l ++ [x])) : ∀ l, P l := fun l => by
  have : ∀ r : List Int, P r.reverse := fun r => by
    induction r with
    | nil => exact h0
    | cons x r ih => rw [List.reverse_cons]; exact h1 _ _ ih
  have h := this l.reverse
  rwa [List.reverse_reverse] at h
theorem nrm_inv : ∀ l, NInv l (nrmP l) := snoc_ind (P := fun l => NInv l (nrmP l)) ⟨by simp [nrmP], rfl, by simp [nrmP], fun k x h => by simp at h, fun x h => by simp [nrmP] at h⟩ fun l x ih => by
  rw [nrmP_snoc]
  unfold nrmS
  cases hx : ixF (nrmP l).1 x 0 with
  | some i =>
    obtain ⟨_, hi⟩ := ixF_some hx
    simp only [Nat.sub_zero] at hi
    refine ⟨ih.nodup, by simp [ih.len], by have := ih.flen; simp; omega, fun k y hk => ?_, fun y hy => List.mem_append_left _ (ih.mem y hy)⟩
    by_cases hkl : k < l.length
    · rw [List.getElem?_append_left hkl] at hk
      obtain ⟨j, h1, h2⟩ := ih.at_ k y hk
      exact ⟨j, by rw [List.getElem?_append_left (by rw [ih.len]; exact hkl)]; exact h1, h2⟩
    · have hk1 : k = l.length := by have := (List.getElem?_eq_some_iff.1 hk).1; simp at this; omega
      subst hk1
      simp at hk
      subst hk
      exact ⟨i, by rw [← ih.len]; simp, hi⟩
  | none =>
    have hnot := ixF_none hx
    refine ⟨?_, by simp [ih.len], by have := ih.flen; simp; omega, fun k y hk => ?_, fun y hy => ?_⟩
    · rw [List.nodup_append]
      exact ⟨ih.nodup, by simp, fun a ha b hb => by simp at hb; subst hb; exact fun e => hnot (e ▸ ha)⟩
    · by_cases hkl : k < l.length
      · rw [List.getElem?_append_left hkl] at hk
        obtain ⟨j, h1, h2⟩ := ih.at_ k y hk
        have hj := (List.getElem?_eq_some_iff.1 h2).1
        exact ⟨j, by rw [List.getElem?_append_left (by rw [ih.len]; exact hkl)]; exact h1, by rw [List.getElem?_append_left hj]; exact h2⟩
      · have hk1 : k = l.length := by have := (List.getElem?_eq_some_iff.1 hk).1; simp at this; omega
        subst hk1
        simp at hk
        subst hk
        exact ⟨(nrmP l).1.length, by rw [← ih.len]; simp, by simp⟩
    · rcases List.mem_append.1 hy with h | h
      · exact List.mem_append_left _ (ih.mem y h)
      · exact List.mem_append_right _ h
/-- The first k nodes: the number of the next one, as the specification finds it. -/
theorem nrm_seen {l : List Int} {k : Nat} {x : Int} (hx : l[k]? = some x) {j : Nat} (hj : (nrmP l).2[k]? = some j) : ixI (nrmP l).1 x = (j : Int) := by
  obtain ⟨j', h1, h2⟩ := (nrm_inv l).at_ k x hx
  rw [hj] at h1; injection h1 with h1; subst h1
  unfold ixI
  rw [ixF_at (nrm_inv l).nodup h2]
  simp
theorem nrm_unseen {l : List Int} {x : Int} (hx : x ∉ l) : ixI (nrmP l).1 x = -1 := by
  unfold ixI
  cases h : ixF (nrmP l).1 x 0 with
  | none => rfl
  | some j => exact absurd ((nrm_inv l).mem x (List.mem_of_getElem? (ixF_some h).2)) hx

/-- Numbers that come in order, from 0 on. -/
def scnS (o : Option Nat) (x : Int) : Option Nat := match o with
  | none => none
  | some m => if x < 0 ∨ (m : Int) < x then none else if x = m then some (m + 1) else some m
def scn (l : List Int) : Option Nat := l.foldl scnS (some 0)
theorem scn_snoc (l : List Int) (x : Int) : scn (l ++ [x]) = scnS (scn l) x := by unfold scn; rw [List.foldl_append]; rfl
theorem scn_step (l : List Int) (k : Nat) (hk : k < l.length) : scn (l.take (k + 1)) = scnS (scn (l.take k)) l[k] := by
  rw [← List.take_append_getElem hk, scn_snoc]
theorem scn_stop (l : List Int) : l.foldl scnS none = none := by
  induction l with
  | nil => rfl
  | cons x l ih => exact ih
theorem scn_take {l : List Int} {k : Nat} (h : scn (l.take k) = none) : scn l = none := by
  have := List.take_append_drop k l
  rw [← this]
  unfold scn at h ⊢
  rw [List.foldl_append, h]
  exact scn_stop _
theorem range_get (m i : Nat) : (intN (List.range m))[i]? = if i < m then some (i : Int) else none := by
  unfold intN
  by_cases h : i < m
  · simp [h]
  · simp [h]
theorem range_nodup (m : Nat) : (intN (List.range m)).Nodup := by
  unfold intN
  rw [List.nodup_iff_pairwise_ne, List.pairwise_map]
  exact List.Pairwise.imp (fun h e => h (by omega)) (List.nodup_iff_pairwise_ne.1 List.nodup_range)
theorem ixF_range {m : Nat} {x : Int} : (0 ≤ x ∧ x < m → ixF (intN (List.range m)) x 0 = some x.toNat) ∧ (¬ (0 ≤ x ∧ x < m) → ixF (intN (List.range m)) x 0 = none) := by
  constructor
  · rintro ⟨h1, h2⟩
    have := ixF_at (i := 0) (range_nodup m) (j := x.toNat) (x := x) (by rw [range_get, if_pos (by omega)]; congr 1; omega)
    simpa using this
  · intro h
    cases hx : ixF (intN (List.range m)) x 0 with
    | none => rfl
    | some j =>
      obtain ⟨_, h2⟩ := ixF_some hx
      rw [Nat.sub_zero, range_get] at h2
      split at h2
      · injection h2 with h2; exact absurd ⟨by omega, by omega⟩ h
      · cases h2
theorem scn_nrm : ∀ l m, scn l = some m → (nrmP l).1 = intN (List.range m) ∧ intN (nrmP l).2 = l := snoc_ind (P := fun l => ∀ m, scn l = some m → (nrmP l).1 = intN (List.range m) ∧ intN (nrmP l).2 = l) (fun m h => by
    have h : some 0 = some m := h
    injection h with h; subst h; exact ⟨rfl, rfl⟩) fun l x ih m h => by
  rw [scn_snoc] at h
  cases hl : scn l with
  | none => rw [hl] at h; cases h
  | some n =>
    obtain ⟨h1, h2⟩ := ih n hl
    rw [hl] at h
    simp only [scnS] at h
    rw [nrmP_snoc]
    unfold nrmS
    rw [h1]
    split at h
    · cases h
    · rename_i hb
      split at h
      · rename_i e
        injection h with h; subst h
        rw [ixF_range.2 (by omega)]
        simp only
        refine ⟨?_, ?_⟩
        · rw [e]; unfold intN; rw [List.range_succ, List.map_append]; rfl
        · rw [intN_snoc, h2, e, intN_len, List.length_range]
      · rename_i e
        injection h with h; subst h
        rw [ixF_range.1 (by omega)]
        simp only
        refine ⟨trivial, ?_⟩
        rw [intN_snoc, h2]
        congr 2
        omega
theorem scn_bad : ∀ l, scn l = none → intN (nrmP l).2 ≠ l := snoc_ind (P := fun l => scn l = none → intN (nrmP l).2 ≠ l) (fun h => by cases h) fun l x ih h e => by
  rw [scn_snoc] at h
  have key : ∀ j : Nat, (nrmP (l ++ [x])).2 = (nrmP l).2 ++ [j] → intN (nrmP l).2 = l ∧ (j : Int) = x := fun j hj => by
    rw [hj, intN_snoc] at e
    have := List.append_inj' e rfl
    exact ⟨this.1, by simpa using this.2⟩
  have hex : ∃ j, (nrmP (l ++ [x])).2 = (nrmP l).2 ++ [j] := by
    rw [nrmP_snoc]; unfold nrmS; split <;> exact ⟨_, rfl⟩
  obtain ⟨j, hj⟩ := hex
  obtain ⟨k1, k2⟩ := key j hj
  cases hl : scn l with
  | none => exact ih hl k1
  | some m =>
    obtain ⟨h1, _⟩ := scn_nrm l m hl
    rw [hl] at h
    simp only [scnS] at h
    split at h
    · rename_i hb
      rw [nrmP_snoc] at hj
      unfold nrmS at hj
      rw [h1, ixF_range.2 (by omega)] at hj
      simp only at hj
      have := List.append_inj' hj rfl
      have h3 := this.2
      simp [intN] at h3
      omega
    · split at h <;> cases h
theorem scn_iff (l : List Int) : (scn l).isSome = decide (intN (nrmP l).2 = l) := by
  cases h : scn l with
  | none => simp [scn_bad l h]
  | some m => simp [(scn_nrm l m h).2]
def manyL (l : List Int) : Int := l.foldl (fun n x => max n (x + 1)) 0
theorem manyL_step (l : List Int) (k : Nat) (hk : k < l.length) : manyL (l.take (k + 1)) = max (manyL (l.take k)) (l[k] + 1) := by
  rw [← List.take_append_getElem hk]; unfold manyL; rw [List.foldl_append]; rfl
theorem scn_many : ∀ l m, scn l = some m → manyL l = m := snoc_ind (P := fun l => ∀ m, scn l = some m → manyL l = m) (fun m h => by
    have h : some 0 = some m := h
    injection h with h; subst h; rfl) fun l x ih m h => by
  have e : manyL (l ++ [x]) = max (manyL l) (x + 1) := by unfold manyL; rw [List.foldl_append]; rfl
  rw [scn_snoc] at h
  cases hl : scn l with
  | none => rw [hl] at h; cases h
  | some n =>
    rw [hl] at h
    simp only [scnS] at h
    rw [e, ih n hl]
    split at h
    · cases h
    · split at h <;> (injection h with h; subst h; omega)
theorem scn_mem : ∀ l m, scn l = some m → ∀ p, p ∈ l ↔ 0 ≤ p ∧ p < (m : Int) := snoc_ind (P := fun l => ∀ m, scn l = some m → ∀ p, p ∈ l ↔ 0 ≤ p ∧ p < (m : Int)) (fun m h p => by
    have h : some 0 = some m := h
    injection h with h; subst h; simp) fun l x ih m h p => by
  rw [scn_snoc] at h
  cases hl : scn l with
  | none => rw [hl] at h; cases h
  | some n =>
    have hi := ih n hl p
    rw [hl] at h
    simp only [scnS] at h
    rw [List.mem_append, List.mem_singleton, hi]
    split at h
    · cases h
    · split at h <;> (injection h with h; subst h; omega)
theorem scn_low : ∀ l m, scn l = some m → m ≤ l.length := snoc_ind (P := fun l => ∀ m, scn l = some m → m ≤ l.length) (fun m h => by
    have h : some 0 = some m := h
    injection h with h; subst h; simp) fun l x ih m h => by
  rw [scn_snoc] at h
  cases hl : scn l with
  | none => rw [hl] at h; cases h
  | some n =>
    have hi := ih n hl
    rw [hl] at h
    simp only [scnS] at h
    rw [List.length_append, List.length_singleton]
    split at h
    · cases h
    · split at h <;> (injection h with h; subst h; omega)
def maxL : List Int → Int
  | [] => 0
  | x :: l => l.foldl max x
theorem maxL_many {l : List Int} (h0 : l ≠ []) (h : ∀ x ∈ l, 0 ≤ x) : maxL l + 1 = manyL l := by
  cases l with
  | nil => exact absurd rfl h0
  | cons x l =>
    have hx := h x (by simp)
    have key : ∀ (l : List Int) (a : Int), l.foldl (fun n x => max n (x + 1)) (a + 1) = l.foldl max a + 1 := fun l => by
      induction l with
      | nil => intro a; rfl
      | cons y l ih =>
        intro a
        simp only [List.foldl_cons]
        rw [show max (a + 1) (y + 1) = max a y + 1 by omega]
        exact ih _
    have e : manyL (x :: l) = l.foldl (fun n x => max n (x + 1)) (x + 1) := by
      unfold manyL
      rw [List.foldl_cons, show max 0 (x + 1) = x + 1 by omega]
    rw [e, key]
    rfl
/-- The nodes of a person among the first k. -/
def perT (l : List Int) (p : Int) (k : Nat) : List Nat := (List.range k).filter fun n => decide (l[n]? = some p)
theorem perT_yes {l : List Int} {p : Int} {k : Nat} (h : l[k]? = some p) : perT l p (k + 1) = perT l p k ++ [k] := by
  unfold perT; rw [List.range_succ, List.filter_append]; simp [h]
theorem perT_no {l : List Int} {p : Int} {k : Nat} (h : l[k]? ≠ some p) : perT l p (k + 1) = perT l p k := by
  unfold perT; rw [List.range_succ, List.filter_append]; simp [h]
theorem perT_len (l : List Int) (p : Int) (k : Nat) : (perT l p k).length ≤ k := by
  unfold perT
  have := List.length_filter_le (fun n => decide (l[n]? = some p)) (List.range k)
  simpa using this
theorem perT_nil {l : List Int} {p : Int} : perT l p l.length = [] ↔ p ∉ l := by
  unfold perT
  rw [List.filter_eq_nil_iff]
  constructor
  · intro h hp
    obtain ⟨i, hi⟩ := List.getElem?_of_mem hp
    have hlt := (List.getElem?_eq_some_iff.1 hi).1
    exact h i (List.mem_range.2 hlt) (by simp [hi])
  · intro h i hi hd
    simp at hd
    exact h (List.mem_of_getElem? hd)
end Go.Proofs.YthjeiaildabadaaGreat
/- The finest partition that is coarser than two: plain mathematics. -/
namespace Go.Proofs.YthjeiaildabadaaGreat
set_option linter.unusedSimpArgs false
set_option linter.unusedVariables false

/-- The least equivalence that holds a relation. -/
inductive Eqv (R : Nat → Nat → Prop) : Nat → Nat → Prop
  | base {i k : Nat} : R i k → Eqv R i k
  | refl (i : Nat) : Eqv R i i
  | symm {i k : Nat} : Eqv R i k → Eqv R k i
  | trans {i k m : Nat} : Eqv R i k → Eqv R k m → Eqv R i m
theorem Eqv.mono {R R' : Nat → Nat → Prop} (h : ∀ i k, R i k → Eqv R' i k) {i k : Nat} (e : Eqv R i k) : Eqv R' i k := by
  induction e with
  | base h1 => exact h _ _ h1
  | refl i => exact .refl i
  | symm _ ih => exact .symm ih
  | trans _ _ ih1 ih2 => exact .trans ih1 ih2
theorem Eqv.keeps {R : Nat → Nat → Prop} {P : Nat → Prop} (h : ∀ i k, R i k → (P i ↔ P k)) {i k : Nat} (e : Eqv R i k) : P i ↔ P k := by
  induction e with
  | base h1 => exact h _ _ h1
  | refl i => exact Iff.rfl
  | symm _ ih => exact ih.symm
  | trans _ _ ih1 ih2 => exact ih1.trans ih2
/-- Each place holds the least one of its class. -/
structure Least (n : Nat) (E : Nat → Nat → Prop) (l : List Int) : Prop where
  len : l.length = n
  cls : ∀ (i : Nat) (x : Int), l[i]? = some x → 0 ≤ x ∧ x ≤ i ∧ E i x.toNat
  same : ∀ (i k : Nat), E i k → l[i]? = l[k]?
theorem Least.le {n : Nat} {E : Nat → Nat → Prop} {l l' : List Int} (h : Least n E l) (h' : Least n E l') {i : Nat} {x x' : Int} (hx : l[i]? = some x) (hx' : l'[i]? = some x') : x' ≤ x := by
  obtain ⟨h1, h2, h3⟩ := h.cls i x hx
  have hi : i < n := by have := (List.getElem?_eq_some_iff.1 hx).1; rw [h.len] at this; exact this
  have e := h'.same i x.toNat h3
  rw [hx'] at e
  obtain ⟨h4, h5, _⟩ := h'.cls x.toNat x' e.symm
  omega
theorem Least.uniq {n : Nat} {E : Nat → Nat → Prop} {l l' : List Int} (h : Least n E l) (h' : Least n E l') : l = l' := by
  apply List.ext_getElem?
  intro i
  by_cases hi : i < n
  · have e1 := List.getElem?_eq_getElem (l := l) (i := i) (by rw [h.len]; exact hi)
    have e2 := List.getElem?_eq_getElem (l := l') (i := i) (by rw [h'.len]; exact hi)
    have := h.le h' e1 e2
    have := h'.le h e2 e1
    rw [e1, e2]
    congr 1; omega
  · rw [List.getElem?_eq_none (by rw [h.len]; omega), List.getElem?_eq_none (by rw [h'.len]; omega)]
theorem Least.iff {n : Nat} {E E' : Nat → Nat → Prop} {l : List Int} (he : ∀ i k, E i k ↔ E' i k) (h : Least n E l) : Least n E' l :=
  ⟨h.len, fun i x hx => by obtain ⟨h1, h2, h3⟩ := h.cls i x hx; exact ⟨h1, h2, (he _ _).1 h3⟩, fun i k e => h.same i k ((he i k).2 e)⟩
/-! ### By uniting -/
def TieR (T : List (Nat × Nat)) (i k : Nat) : Prop := (i, k) ∈ T
def uniL (l : List Int) (lo hi : Int) : List Int := l.map fun v => if v = hi then lo else v
theorem uni_get (l : List Int) (lo hi : Int) (i : Nat) : (uniL l lo hi)[i]? = (l[i]?).map fun v => if v = hi then lo else v := by unfold uniL; rw [List.getElem?_map]
theorem Least.start (n : Nat) : Least n (Eqv (TieR [])) (intN (List.range n)) := by
  refine ⟨by rw [intN_len, List.length_range], fun i x hx => ?_, fun i k e => ?_⟩
  · rw [range_get] at hx
    split at hx
    · injection hx with hx; subst hx; exact ⟨by omega, by omega, by rw [Int.toNat_natCast]; exact .refl i⟩
    · cases hx
  · have : ∀ {i k : Nat}, Eqv (TieR []) i k → i = k := fun e => by
      induction e with
      | base h => cases h
      | refl i => rfl
      | symm _ ih => exact ih.symm
      | trans _ _ ih1 ih2 => exact ih1.trans ih2
    rw [this e]
theorem Least.unite {n : Nat} {T : List (Nat × Nat)} {l : List Int} (h : Least n (Eqv (TieR T)) l) {x y : Nat} {p q : Int} (hx : l[x]? = some p) (hy : l[y]? = some q) : Least n (Eqv (TieR (T ++ [(x, y)]))) (uniL l (min p q) (max p q)) := by
  have up : ∀ {i k : Nat}, Eqv (TieR T) i k → Eqv (TieR (T ++ [(x, y)])) i k := fun e => e.mono fun i k hr => .base (by unfold TieR at *; exact List.mem_append_left _ hr)
  have hxy : Eqv (TieR (T ++ [(x, y)])) x y := .base (by unfold TieR; simp)
  obtain ⟨p0, p1, p2⟩ := h.cls x p hx
  obtain ⟨q0, q1, q2⟩ := h.cls y q hy
  have hpq : Eqv (TieR (T ++ [(x, y)])) p.toNat q.toNat := (up p2).symm.trans (hxy.trans (up q2))
  refine ⟨by unfold uniL; rw [List.length_map]; exact h.len, fun i v hv => ?_, fun i k e => ?_⟩
  · rw [uni_get] at hv
    cases hl : l[i]? with
    | none => rw [hl] at hv; cases hv
    | some u =>
      rw [hl] at hv
      simp only [Option.map_some, Option.some.injEq] at hv
      obtain ⟨u0, u1, u2⟩ := h.cls i u hl
      split at hv
      · rename_i hu
        subst hv
        refine ⟨by omega, by omega, (up u2).trans ?_⟩
        rw [hu]
        rcases Int.le_total p q with hle | hle
        · rw [Int.max_eq_right hle, Int.min_eq_left hle]; exact hpq.symm
        · rw [Int.max_eq_left hle, Int.min_eq_right hle]; exact hpq
      · subst hv; exact ⟨u0, u1, up u2⟩
  · induction e with
    | @base i k hr =>
      unfold TieR at hr
      rw [List.mem_append, List.mem_singleton] at hr
      rcases hr with hr | hr
      · rw [uni_get, uni_get, h.same i k (.base hr)]
      · injection hr with h1 h2
        subst h1; subst h2
        rw [uni_get, uni_get, hx, hy]
        simp only [Option.map_some, Option.some.injEq]
        rcases Int.le_total p q with hle | hle
        · rw [Int.max_eq_right hle, Int.min_eq_left hle, if_pos rfl]; split <;> rfl
        · rw [Int.max_eq_left hle, Int.min_eq_right hle, if_pos rfl]; split <;> rfl
    | refl i => rfl
    | symm _ ih => exact ih.symm
    | trans _ _ ih1 ih2 => exact ih1.trans ih2
/-! ### By taking the least number of those with which it is together, as long as something changes -/
/-- A list on its way: what it holds is of the class, and not above its place. -/
structure Way (n : Nat) (E : Nat → Nat → Prop) (l : List Int) : Prop where
  len : l.length = n
  cls : ∀ (i : Nat) (x : Int), l[i]? = some x → 0 ≤ x ∧ x ≤ i ∧ E i x.toNat
theorem Way.start {n : Nat} {R : Nat → Nat → Prop} : Way n (Eqv R) (intN (List.range n)) := by
  refine ⟨by rw [intN_len, List.length_range], fun i x hx => ?_⟩
  rw [range_get] at hx
  split at hx
  · injection hx with hx; subst hx; exact ⟨by omega, by omega, by rw [Int.toNat_natCast]; exact .refl i⟩
  · cases hx
/-- A smaller number of the class. -/
theorem Way.put {n : Nat} {R : Nat → Nat → Prop} {l : List Int} (h : Way n (Eqv R) l) {i k : Nat} {x y : Int} (hx : l[i]? = some x) (hy : l[k]? = some y) (hr : R i k) : Way n (Eqv R) (l.set i (min x y)) := by
  refine ⟨by rw [List.length_set]; exact h.len, fun j v hv => ?_⟩
  rw [List.getElem?_set] at hv
  split at hv
  · rename_i hij
    subst hij
    split at hv
    · injection hv with hv
      subst hv
      obtain ⟨h1, h2, h3⟩ := h.cls i x hx
      obtain ⟨g1, g2, g3⟩ := h.cls k y hy
      rcases Int.le_total x y with hle | hle
      · rw [Int.min_eq_left hle]; exact ⟨h1, h2, h3⟩
      · rw [Int.min_eq_right hle]; exact ⟨g1, by omega, (Eqv.base hr).trans g3⟩
    · cases hv
  · exact h.cls j v hv
/-- A list that is stable holds the least ones. -/
theorem Way.done {n : Nat} {R : Nat → Nat → Prop} {l : List Int} (h : Way n (Eqv R) l) (hs : ∀ i k, R i k → l[i]? = l[k]?) : Least n (Eqv R) l := by
  refine ⟨h.len, h.cls, fun i k e => ?_⟩
  induction e with
  | base hr => exact hs _ _ hr
  | refl i => rfl
  | symm _ ih => exact ih.symm
  | trans _ _ ih1 ih2 => exact ih1.trans ih2
/-- A place that holds the least one of its class. -/
def Fin (n : Nat) (E : Nat → Nat → Prop) (l : List Int) (i : Nat) : Prop := ∃ v : Int, l[i]? = some v ∧ ∀ k, k < n → E i k → v ≤ k
theorem Fin.eq {n : Nat} {R : Nat → Nat → Prop} {l l' : List Int} (h : Way n (Eqv R) l) (h' : Way n (Eqv R) l') {i k : Nat} {v v' : Int} (hv : l[i]? = some v) (hm : ∀ k, k < n → Eqv R i k → v ≤ k) (hv' : l'[k]? = some v') (e : Eqv R i k) : v ≤ v' := by
  obtain ⟨h1, h2, h3⟩ := h'.cls k v' hv'
  have hk : k < n := by have := (List.getElem?_eq_some_iff.1 hv').1; rw [h'.len] at this; exact this
  have := hm v'.toNat (by omega) (e.trans h3)
  omega
/-- A round: every place takes what those with which it is together held at its start, or less. -/
structure Round (n : Nat) (R : Nat → Nat → Prop) (l0 l1 : List Int) : Prop where
  old : Way n (Eqv R) l0
  way : Way n (Eqv R) l1
  less : ∀ (i : Nat) (x y : Int), l0[i]? = some x → l1[i]? = some y → y ≤ x
  took : ∀ (i k : Nat) (x y : Int), R i k → l0[k]? = some x → l1[i]? = some y → y ≤ x
theorem some_of {n : Nat} {E : Nat → Nat → Prop} {l : List Int} (h : Way n E l) {i : Nat} (hi : i < n) : ∃ x, l[i]? = some x := ⟨_, List.getElem?_eq_getElem (by rw [h.len]; exact hi)⟩
theorem lt_of {n : Nat} {E : Nat → Nat → Prop} {l : List Int} (h : Way n E l) {i : Nat} {x : Int} (hx : l[i]? = some x) : i < n := by have := (List.getElem?_eq_some_iff.1 hx).1; rw [h.len] at this; exact this
theorem Round.keeps {n : Nat} {R : Nat → Nat → Prop} {l0 l1 : List Int} (h : Round n R l0 l1) {i : Nat} (hf : Fin n (Eqv R) l0 i) : Fin n (Eqv R) l1 i := by
  obtain ⟨v, hv, hm⟩ := hf
  obtain ⟨y, hy⟩ := some_of h.way (lt_of h.old hv)
  have h1 := h.less i v y hv hy
  exact ⟨y, hy, fun k hk e => by have := hm k hk e; omega⟩
theorem least_of (P : Nat → Prop) : ∀ n, P n → ∃ m, P m ∧ ∀ k, P k → m ≤ k := fun n => by
  induction n using Nat.strongRecOn with
  | _ n ih =>
    intro hn
    by_cases h : ∃ k, k < n ∧ P k
    · obtain ⟨k, hk, hp⟩ := h; exact ih k hk hp
    · exact ⟨n, hn, fun k hk => Nat.le_of_not_lt fun hlt => h ⟨k, hlt, hk⟩⟩
theorem Round.gains {n : Nat} {R : Nat → Nat → Prop} {l0 l1 : List Int} (hin : ∀ i k, R i k → i < n ∧ k < n) (hsym : ∀ i k, R i k → R k i) (h : Round n R l0 l1) (hno : ∀ i, i < n → Fin n (Eqv R) l1 i → Fin n (Eqv R) l0 i) {i : Nat} (hi : i < n) : Fin n (Eqv R) l0 i := by
  have hcl : ∀ i k, R i k → Fin n (Eqv R) l0 k → Fin n (Eqv R) l0 i := fun i k hr ⟨v, hv, hm⟩ => by
    obtain ⟨hi, hk⟩ := hin i k hr
    obtain ⟨y, hy⟩ := some_of h.way hi
    have h1 := h.took i k v y hr hv hy
    exact hno i hi ⟨y, hy, fun j hj e => by have := hm j hj ((Eqv.base hr).symm.trans e); omega⟩
  obtain ⟨m, ⟨hmn, hme⟩, hml⟩ := least_of (fun m => m < n ∧ Eqv R i m) i ⟨hi, .refl i⟩
  have hfm : Fin n (Eqv R) l0 m := by
    obtain ⟨v, hv⟩ := some_of h.old hmn
    obtain ⟨h1, h2, h3⟩ := h.old.cls m v hv
    exact ⟨v, hv, fun k hk e => by have := hml k ⟨hk, hme.trans e⟩; omega⟩
  exact (Eqv.keeps (P := Fin n (Eqv R) l0) (fun i k hr => ⟨hcl k i (hsym i k hr), hcl i k hr⟩) hme).2 hfm
open Classical in
/-- How many places are done. -/
noncomputable def cntF (n : Nat) (E : Nat → Nat → Prop) (l : List Int) : Nat := ((List.range n).filter fun i => decide (Fin n E l i)).length
theorem filter_lt {p q : Nat → Bool} (hpq : ∀ i, p i = true → q i = true) : ∀ (l : List Nat) (x : Nat), x ∈ l → p x = false → q x = true → (l.filter p).length < (l.filter q).length
  | [], x, hx, _, _ => by cases hx
  | y :: l, x, hx, h1, h2 => by
    have hle : ∀ l : List Nat, (l.filter p).length ≤ (l.filter q).length := fun l => by
      induction l with
      | nil => exact Nat.le_refl _
      | cons z l ih =>
        rw [List.filter_cons, List.filter_cons]
        cases hz : p z with
        | true => rw [hpq z hz]; simpa using ih
        | false => cases q z <;> simp <;> omega
    rw [List.filter_cons, List.filter_cons]
    rw [List.mem_cons] at hx
    rcases hx with rfl | hx
    · rw [h1, h2]; have := hle l; simp; omega
    · have ih := filter_lt hpq l x hx h1 h2
      cases hy : p y with
      | true => rw [hpq y hy]; simpa using ih
      | false => cases q y <;> simp <;> omega
theorem Round.count {n r : Nat} {R : Nat → Nat → Prop} {l0 l1 : List Int} (hin : ∀ i k, R i k → i < n ∧ k < n) (hsym : ∀ i k, R i k → R k i) (h : Round n R l0 l1) (hr : (∀ i, i < n → Fin n (Eqv R) l0 i) ∨ r ≤ cntF n (Eqv R) l0) :
    (∀ i, i < n → Fin n (Eqv R) l1 i) ∨ r + 1 ≤ cntF n (Eqv R) l1 := by
  rcases hr with hr | hr
  · exact .inl fun i hi => h.keeps (hr i hi)
  · by_cases hx : ∃ i, i < n ∧ Fin n (Eqv R) l1 i ∧ ¬ Fin n (Eqv R) l0 i
    · obtain ⟨i, hi, h1, h2⟩ := hx
      refine .inr ?_
      have : cntF n (Eqv R) l0 < cntF n (Eqv R) l1 := by
        unfold cntF
        exact filter_lt (fun i hp => by simp only [decide_eq_true_eq] at *; exact h.keeps hp) _ i (List.mem_range.2 hi) (by simp [h2]) (by simp [h1])
      omega
    · exact .inl fun i hi => h.keeps (h.gains hin hsym (fun i hi h1 => Classical.byContradiction fun h2 => hx ⟨i, hi, h1, h2⟩) hi)
theorem all_of_count {n : Nat} {E : Nat → Nat → Prop} {l : List Int} (h : (∀ i, i < n → Fin n E l i) ∨ n ≤ cntF n E l) : ∀ i, i < n → Fin n E l i := by
  rcases h with h | h
  · exact h
  · intro i hi
    refine Classical.byContradiction fun hno => ?_
    have := filter_lt (p := fun i => @decide (Fin n E l i) (Classical.propDecidable _)) (q := fun _ => true) (fun _ _ => rfl) (List.range n) i (List.mem_range.2 hi) (by simp [hno]) rfl
    unfold cntF at h
    have e : ((List.range n).filter fun _ => true).length = n := by rw [List.filter_eq_self.2 (fun _ _ => rfl), List.length_range]
    rw [e] at this
    omega
theorem Way.least {n : Nat} {R : Nat → Nat → Prop} {l : List Int} (hin : ∀ i k, R i k → i < n ∧ k < n) (h : Way n (Eqv R) l) (hf : ∀ i, i < n → Fin n (Eqv R) l i) : Least n (Eqv R) l := h.done fun i k hr => by
  obtain ⟨hi, hk⟩ := hin i k hr
  obtain ⟨x, hx, hm⟩ := hf i hi
  obtain ⟨y, hy, hm'⟩ := hf k hk
  have := Fin.eq h h hx hm hy (.base hr)
  have := Fin.eq h h hy hm' hx (Eqv.base hr).symm
  rw [hx, hy]; congr 1; omega
end Go.Proofs.YthjeiaildabadaaGreat
/- Groups of nodes that ties join: plain mathematics. -/
namespace Go.Proofs.YthjeiaildabadaaGreat
set_option linter.unusedSimpArgs false
set_option linter.unusedVariables false

/-- A tie. -/
structure TieD where
  a : Int
  b : Int
  kind : Int
  str : Int
  src : Int
def ftB (n lo hi : Int) : Bool := decide (lo ≤ n) && decide (n ≤ hi)
def tieB (t : TieD) (n : Int) : Bool := ftB t.a 0 (n - 1) && ftB t.b 0 (n - 1) && !(t.a == t.b) && (t.kind == 2 || t.kind == 1) && ftB t.str 1 100 && ftB t.src 0 4095
theorem tieB_in {t : TieD} {n : Nat} (h : tieB t n = true) : 0 ≤ t.a ∧ t.a < n ∧ 0 ≤ t.b ∧ t.b < n ∧ t.a.toNat < n ∧ t.b.toNat < n := by
  unfold tieB ftB at h
  simp only [Bool.and_eq_true, decide_eq_true_eq] at h
  omega
def joinsT (ts : List TieD) : List (Nat × Nat) := (ts.filter (·.kind == 2)).map fun t => (t.a.toNat, t.b.toNat)
theorem joinsT_snoc (ts : List TieD) (t : TieD) : joinsT (ts ++ [t]) = joinsT ts ++ if t.kind == 2 then [(t.a.toNat, t.b.toNat)] else [] := by
  unfold joinsT
  rw [List.filter_append, List.map_append]
  congr 1
  rw [List.filter_cons]
  split <;> rfl
theorem tsnoc_ind {P : List TieD → Prop} (h0 : P []) (h1 : ∀ l x, P l → P (l ++ [x])) : ∀ l, P l := fun l => by
  rw [← List.reverse_reverse l]
  induction l.reverse with
  | nil => exact h0
  | cons x l ih => rw [List.reverse_cons]; exact h1 _ _ ih
def atI (l : List Int) (i : Int) : Int := (l[i.toNat]?).getD 0
theorem atI_some {l : List Int} {i : Int} (h : i.toNat < l.length) : l[i.toNat]? = some (atI l i) := by
  unfold atI; rw [List.getElem?_eq_getElem h]; rfl
def grpS (l : List Int) (t : TieD) : List Int := if t.kind == 2 then uniL l (min (atI l t.a) (atI l t.b)) (max (atI l t.a) (atI l t.b)) else l
def grpL (n : Nat) (ts : List TieD) : List Int := ts.foldl grpS (intN (List.range n))
theorem grpL_snoc (n : Nat) (ts : List TieD) (t : TieD) : grpL n (ts ++ [t]) = grpS (grpL n ts) t := by unfold grpL; rw [List.foldl_append]; rfl
theorem grpL_step (n : Nat) (ts : List TieD) (k : Nat) (hk : k < ts.length) : grpL n (ts.take (k + 1)) = grpS (grpL n (ts.take k)) ts[k] := by
  rw [← List.take_append_getElem hk, grpL_snoc]
theorem uniL_len (l : List Int) (lo hi : Int) : (uniL l lo hi).length = l.length := by unfold uniL; rw [List.length_map]
theorem grpL_len (n : Nat) : ∀ ts, (grpL n ts).length = n := tsnoc_ind (P := fun ts => (grpL n ts).length = n) (by unfold grpL; rw [List.foldl_nil, intN_len, List.length_range]) fun ts t ih => by
  rw [grpL_snoc]; unfold grpS
  split
  · rw [uniL_len]; exact ih
  · exact ih
theorem grp_least (n : Nat) : ∀ ts : List TieD, (∀ t ∈ ts, tieB t n = true) → Least n (Eqv (TieR (joinsT ts))) (grpL n ts) :=
  tsnoc_ind (P := fun ts => (∀ t ∈ ts, tieB t n = true) → Least n (Eqv (TieR (joinsT ts))) (grpL n ts)) (fun _ => Least.start n) fun ts t ih h => by
    have h1 := ih fun t ht => h t (List.mem_append_left _ ht)
    have hl := grpL_len n ts
    rw [joinsT_snoc, grpL_snoc]
    unfold grpS
    split
    · obtain ⟨_, _, _, _, ha, hb⟩ := tieB_in (h t (by simp))
      exact h1.unite (atI_some (by rw [hl]; exact ha)) (atI_some (by rw [hl]; exact hb))
    · rw [List.append_nil]; exact h1
theorem grp_val {n : Nat} {ts : List TieD} (h : ∀ t ∈ ts, tieB t n = true) {i : Nat} {v : Int} (hv : (grpL n ts)[i]? = some v) : 0 ≤ v ∧ v ≤ i := by
  obtain ⟨h1, h2, _⟩ := (grp_least n ts h).cls i v hv
  exact ⟨h1, h2⟩
/-! ### The specification's: both nodes of a join get the lesser one of what they have, again and again -/
def sumT : List Int → Nat
  | [] => 0
  | x :: l => x.toNat + sumT l
theorem sumT_set : ∀ (l : List Int) (i : Nat) (x v : Int), l[i]? = some x → sumT (l.set i v) + x.toNat = sumT l + v.toNat
  | [], i, x, v, h => by simp at h
  | y :: l, 0, x, v, h => by simp at h; subst h; simp [sumT]; omega
  | y :: l, i + 1, x, v, h => by
    have := sumT_set l i x v (by simpa using h)
    simp [sumT]; omega
def refS (p : List Int × Bool) (t : TieD) : List Int × Bool :=
  if t.kind == 2 && !(atI p.1 t.a == atI p.1 t.b) then ((p.1.set t.a.toNat (min (atI p.1 t.a) (atI p.1 t.b))).set t.b.toNat (min (atI p.1 t.a) (atI p.1 t.b)), true) else p
def refP (l : List Int) (ts : List TieD) : List Int × Bool := ts.foldl refS (l, false)
theorem refP_snoc (l : List Int) (ts : List TieD) (t : TieD) : refP l (ts ++ [t]) = refS (refP l ts) t := by unfold refP; rw [List.foldl_append]; rfl
theorem refP_step (l : List Int) (ts : List TieD) (k : Nat) (hk : k < ts.length) : refP l (ts.take (k + 1)) = refS (refP l (ts.take k)) ts[k] := by
  rw [← List.take_append_getElem hk, refP_snoc]
theorem refP_len (l : List Int) : ∀ ts, (refP l ts).1.length = l.length := tsnoc_ind (P := fun ts => (refP l ts).1.length = l.length) rfl fun ts t ih => by
  rw [refP_snoc]; unfold refS
  split
  · rw [List.length_set, List.length_set]; exact ih
  · exact ih
theorem Way.putE {n : Nat} {R : Nat → Nat → Prop} {l : List Int} (h : Way n (Eqv R) l) {i : Nat} {x v : Int} (hx : l[i]? = some x) (hv : 0 ≤ v ∧ v ≤ x) (he : Eqv R i v.toNat) : Way n (Eqv R) (l.set i v) := by
  refine ⟨by rw [List.length_set]; exact h.len, fun j u hu => ?_⟩
  rw [List.getElem?_set] at hu
  split at hu
  · rename_i hij
    subst hij
    split at hu
    · injection hu with hu
      subst hu
      obtain ⟨h1, h2, h3⟩ := h.cls i x hx
      exact ⟨hv.1, by omega, he⟩
    · cases hu
  · exact h.cls j u hu
structure PassI (n : Nat) (T : List (Nat × Nat)) (l : List Int) (ts : List TieD) (p : List Int × Bool) : Prop where
  way : Way n (Eqv (TieR T)) p.1
  no : p.2 = false → p.1 = l ∧ ∀ t ∈ ts, t.kind = 2 → l[t.a.toNat]? = l[t.b.toNat]?
  yes : p.2 = true → sumT p.1 < sumT l
theorem refP_inv {n : Nat} {T : List (Nat × Nat)} {l : List Int} (hw : Way n (Eqv (TieR T)) l) : ∀ ts : List TieD, (∀ t ∈ ts, tieB t n = true) → (∀ x ∈ joinsT ts, x ∈ T) → PassI n T l ts (refP l ts) :=
  tsnoc_ind (P := fun ts => (∀ t ∈ ts, tieB t n = true) → (∀ x ∈ joinsT ts, x ∈ T) → PassI n T l ts (refP l ts)) (fun _ _ => ⟨hw, fun _ => ⟨rfl, fun t h => by cases h⟩, fun h => by cases h⟩) fun ts t ih hv hT => by
    have I := ih (fun t ht => hv t (List.mem_append_left _ ht)) (fun x hx => hT x (by rw [joinsT_snoc]; exact List.mem_append_left _ hx))
    obtain ⟨_, _, _, _, ha, hb⟩ := tieB_in (hv t (by simp))
    have hab : t.a ≠ t.b := by
      have := hv t (by simp)
      unfold tieB at this
      simp only [Bool.and_eq_true, Bool.not_eq_true', beq_eq_false_iff_ne] at this
      exact this.1.1.1.2
    rw [refP_snoc]
    have hlen := I.way.len
    have ea := atI_some (l := (refP l ts).1) (i := t.a) (by rw [hlen]; exact ha)
    have eb := atI_some (l := (refP l ts).1) (i := t.b) (by rw [hlen]; exact hb)
    unfold refS
    split
    · rename_i hc
      simp only [Bool.and_eq_true, beq_iff_eq, Bool.not_eq_true', beq_eq_false_iff_ne] at hc
      obtain ⟨hk, hne⟩ := hc
      have hm : (t.a.toNat, t.b.toNat) ∈ T := hT _ (by rw [joinsT_snoc, hk]; simp)
      generalize hx : atI (refP l ts).1 t.a = x at *
      generalize hy : atI (refP l ts).1 t.b = y at *
      have er : Eqv (TieR T) t.a.toNat t.b.toNat := .base hm
      obtain ⟨x0, x1, x2⟩ := I.way.cls _ _ ea
      obtain ⟨y0, y1, y2⟩ := I.way.cls _ _ eb
      have hmin : Eqv (TieR T) t.a.toNat (min x y).toNat := by
        rcases Int.le_total x y with hle | hle
        · rw [Int.min_eq_left hle]; exact x2
        · rw [Int.min_eq_right hle]; exact er.trans y2
      have w1 := I.way.putE ea (v := min x y) (by omega) hmin
      have eb' : ((refP l ts).1.set t.a.toNat (min x y))[t.b.toNat]? = some y := by
        rw [List.getElem?_set, if_neg (by omega)]; exact eb
      have s1 := sumT_set _ _ _ (min x y) ea
      have s2 := sumT_set _ _ _ (min x y) eb'
      refine ⟨w1.putE eb' (by omega) (er.symm.trans hmin), fun h => (by cases h), fun _ => ?_⟩
      have hle : sumT (refP l ts).1 ≤ sumT l := by
        cases hf : (refP l ts).2 with
        | true => exact Nat.le_of_lt (I.yes hf)
        | false => rw [(I.no hf).1]; exact Nat.le_refl _
      simp only
      omega
    · rename_i hc
      refine ⟨I.way, fun hf => ⟨(I.no hf).1, fun u hu hk => ?_⟩, I.yes⟩
      rw [List.mem_append, List.mem_singleton] at hu
      rcases hu with hu | rfl
      · exact (I.no hf).2 u hu hk
      · rw [(I.no hf).1] at ea eb hc
        rw [hk] at hc
        simp only [beq_self_eq_true, Bool.true_and, Bool.not_eq_true', Bool.not_eq_false, beq_iff_eq] at hc
        rw [ea, eb, hc]
theorem ref_done {n : Nat} {l : List Int} {ts : List TieD} (hv : ∀ t ∈ ts, tieB t n = true) (hw : Way n (Eqv (TieR (joinsT ts))) l) (hs : ∀ t ∈ ts, t.kind = 2 → l[t.a.toNat]? = l[t.b.toNat]?) : l = grpL n ts := by
  refine (hw.done fun i k hr => ?_).uniq (grp_least n ts hv)
  unfold TieR joinsT at hr
  obtain ⟨t, ht, he⟩ := List.mem_map.1 hr
  obtain ⟨ht, hk⟩ := List.mem_filter.1 ht
  injection he with h1 h2
  subst h1; subst h2
  exact hs t ht (by simpa using hk)
/-! ### Apart -/
def cutB (l : List Int) (a b : Int) (t : TieD) : Bool := t.kind == 1 && ((atI l t.a == atI l a && atI l t.b == atI l b) || (atI l t.a == atI l b && atI l t.b == atI l a))
def apB (l : List Int) (ts : List TieD) (a b : Int) : Bool := ts.any (cutB l a b)
end Go.Proofs.YthjeiaildabadaaGreat
