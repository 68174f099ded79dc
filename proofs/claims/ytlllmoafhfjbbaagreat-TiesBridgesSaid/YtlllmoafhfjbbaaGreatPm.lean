/- Partitions in their normal form: plain mathematics. -/
import Derived.WalkKit
namespace Go.Proofs.YtlllmoafhfjbbaaGreat
set_option linter.unusedSimpArgs false
set_option linter.unusedVariables false

/-- Where a number stands first. -/
def ixF : List Int → Int → Nat → Option Nat
  | [], _, _ => none
  | y :: l, x, i => if x = y then some i else ixF l x (i + 1)
theorem ixF_some : ∀ {l : List Int} {x : Int} {i j : Nat}, ixF l x i = some j → i ≤ j ∧ l[j - i]? = some x
  | [], x, i, j, h => by simp [ixF] at h
  | y :: l, x, i, j, h => by
    unfold ixF at h
    split at h
    · rename_i e; injection h with h; subst h; subst e; simp
    · obtain ⟨h1, h2⟩ := ixF_some h
      refine ⟨by omega, ?_⟩
      rw [show j - i = (j - (i + 1)) + 1 by omega, List.getElem?_cons_succ]; exact h2
theorem ixF_none : ∀ {l : List Int} {x : Int} {i : Nat}, ixF l x i = none → x ∉ l
  | [], x, i, h => by simp
  | y :: l, x, i, h => by
    unfold ixF at h
    split at h
    · cases h
    · rename_i e; simp [e, ixF_none h]
theorem ixF_at : ∀ {l : List Int} {x : Int} {i j : Nat}, l.Nodup → l[j]? = some x → ixF l x i = some (i + j)
  | [], x, i, j, _, h => by simp at h
  | y :: l, x, i, 0, _, h => by simp at h; subst h; simp [ixF]
  | y :: l, x, i, j + 1, hn, h => by
    rw [List.getElem?_cons_succ] at h
    rw [List.nodup_cons] at hn
    have hne : x ≠ y := fun e => hn.1 (by rw [← e]; exact List.mem_of_getElem? h)
    unfold ixF
    rw [if_neg hne, ixF_at hn.2 h]
    congr 1; omega
def ixI (l : List Int) (x : Int) : Int := match ixF l x 0 with | some j => (j : Int) | none => -1
def intN (l : List Nat) : List Int := l.map fun (n : Nat) => (n : Int)
theorem intN_snoc (l : List Nat) (n : Nat) : intN (l ++ [n]) = intN l ++ [(n : Int)] := by simp [intN]
theorem intN_len (l : List Nat) : (intN l).length = l.length := by simp [intN]
/-- One more number: that of the first equal one, or a new one. -/
def nrmS (p : List Int × List Nat) (x : Int) : List Int × List Nat := match ixF p.1 x 0 with
  | some i => (p.1, p.2 ++ [i])
  | none => (p.1 ++ [x], p.2 ++ [p.1.length])
def nrmP (l : List Int) : List Int × List Nat := l.foldl nrmS ([], [])
theorem nrmP_snoc (l : List Int) (x : Int) : nrmP (l ++ [x]) = nrmS (nrmP l) x := by unfold nrmP; rw [List.foldl_append]; rfl
theorem nrmP_step (l : List Int) (k : Nat) (hk : k < l.length) : nrmP (l.take (k + 1)) = nrmS (nrmP (l.take k)) l[k] := by
  rw [← List.take_append_getElem hk, nrmP_snoc]
structure NInv (l : List Int) (p : List Int × List Nat) : Prop where
  nodup : p.1.Nodup
  len : p.2.length = l.length
  flen : p.1.length ≤ l.length
  at_ : ∀ (k : Nat) (x : Int), l[k]? = some x → ∃ j, p.2[k]? = some j ∧ p.1[j]? = some x
  mem : ∀ x ∈ p.1, x ∈ l
theorem snoc_ind {P : List Int → Prop} (h0 : P []) (h1 : ∀ l x, P l → P (l ++ [x])) : ∀ l, P l := fun l => by
  have : ∀ r : List Int, P r.reverse := fun r => by
    induction r with
    | nil => exact h0
    | cons x r ih => rw [List.reverse_cons]; exact h1 _ _ ih
  have h := this l.reverse
  rwa [List.reverse_reverse] at h
theorem nrm_inv : ∀ l, NInv l (nrmP l) := snoc_ind (P := fun l => NInv l (nrmP l)) ⟨by simp [nrmP], rfl, by simp [nrmP], fun k x h => by simp at h, fun x h => by simp [nrmP] at h⟩ fun l x ih => by
  rw [nrmP_snoc]
  unfold nrmS
  cases hx : ixF (nrmP l).1 x 0 with
  | some i =>
    obtain ⟨_, hi⟩ := ixF_some hx
    simp only [Nat.sub_zero] at hi
    refine ⟨ih.nodup, by simp [ih.len], by have := ih.flen; simp; omega, fun k y hk => ?_, fun y hy => List.mem_append_left _ (ih.mem y hy)⟩
    by_cases hkl : k < l.length
    · rw [List.getElem?_append_left hkl] at hk
      obtain ⟨j, h1, h2⟩ := ih.at_ k y hk
      exact ⟨j, by rw [List.getElem?_append_left (by rw [ih.len]; exact hkl)]; exact h1, h2⟩
    · have hk1 : k = l.length := by have := (List.getElem?_eq_some_iff.1 hk).1; simp at this; omega
      subst hk1
      simp at hk
      subst hk
      exact ⟨i, by rw [← ih.len]; simp, hi⟩
  | none =>
    have hnot := ixF_none hx
    refine ⟨?_, by simp [ih.len], by have := ih.flen; simp; omega, fun k y hk => ?_, fun y hy => ?_⟩
    · rw [List.nodup_append]
      exact ⟨ih.nodup, by simp, fun a ha b hb => by simp at hb; subst hb; exact fun e => hnot (e ▸ ha)⟩
    · by_cases hkl : k < l.length
      · rw [List.getElem?_append_left hkl] at hk
        obtain ⟨j, h1, h2⟩ := ih.at_ k y hk
        have hj := (List.getElem?_eq_some_iff.1 h2).1
        exact ⟨j, by rw [List.getElem?_append_left (by rw [ih.len]; exact hkl)]; exact h1, by rw [List.getElem?_append_left hj]; exact h2⟩
      · have hk1 : k = l.length := by have := (List.getElem?_eq_some_iff.1 hk).1; simp at this; omega
        subst hk1
        simp at hk
        subst hk
        exact ⟨(nrmP l).1.length, by rw [← ih.len]; simp, by simp⟩
    · rcases List.mem_append.1 hy with h | h
      · exact List.mem_append_left _ (ih.mem y h)
      · exact List.mem_append_right _ h
/-- The first k nodes: the number of the next one, as the specification finds it. -/
theorem nrm_seen {l : List Int} {k : Nat} {x : Int} (hx : l[k]? = some x) {j : Nat} (hj : (nrmP l).2[k]? = some j) : ixI (nrmP l).1 x = (j : Int) := by
  obtain ⟨j', h1, h2⟩ := (nrm_inv l).at_ k x hx
  rw [hj] at h1; injection h1 with h1; subst h1
  unfold ixI
  rw [ixF_at (nrm_inv l).nodup h2]
  simp
theorem nrm_unseen {l : List Int} {x : Int} (hx : x ∉ l) : ixI (nrmP l).1 x = -1 := by
  unfold ixI
  cases h : ixF (nrmP l).1 x 0 with
  | none => rfl
  | some j => exact absurd ((nrm_inv l).mem x (List.mem_of_getElem? (ixF_some h).2)) hx

/-- Numbers that come in order, from 0 on. -/
def scnS (o : Option Nat) (x : Int) : Option Nat := match o with
  | none => none
  | some m => if x < 0 ∨ (m : Int) < x then none else if x = m then some (m + 1) else some m
def scn (l : List Int) : Option Nat := l.foldl scnS (some 0)
theorem scn_snoc (l : List Int) (x : Int) : scn (l ++ [x]) = scnS (scn l) x := by unfold scn; rw [List.foldl_append]; rfl
theorem scn_step (l : List Int) (k : Nat) (hk : k < l.length) : scn (l.take (k + 1)) = scnS (scn (l.take k)) l[k] := by
  rw [← List.take_append_getElem hk, scn_snoc]
theorem scn_stop (l : List Int) : l.foldl scnS none = none := by
  induction l with
  | nil => rfl
  | cons x l ih => exact ih
theorem scn_take {l : List Int} {k : Nat} (h : scn (l.take k) = none) : scn l = none := by
  have := List.take_append_drop k l
  rw [← this]
  unfold scn at h ⊢
  rw [List.foldl_append, h]
  exact scn_stop _
theorem range_get (m i : Nat) : (intN (List.range m))[i]? = if i < m then some (i : Int) else none := by
  unfold intN
  by_cases h : i < m
  · simp [h]
  · simp [h]
theorem range_nodup (m : Nat) : (intN (List.range m)).Nodup := by
  unfold intN
  rw [List.nodup_iff_pairwise_ne, List.pairwise_map]
  exact List.Pairwise.imp (fun h e => h (by omega)) (List.nodup_iff_pairwise_ne.1 List.nodup_range)
theorem ixF_range {m : Nat} {x : Int} : (0 ≤ x ∧ x < m → ixF (intN (List.range m)) x 0 = some x.toNat) ∧ (¬ (0 ≤ x ∧ x < m) → ixF (intN (List.range m)) x 0 = none) := by
  constructor
  · rintro ⟨h1, h2⟩
    have := ixF_at (i := 0) (range_nodup m) (j := x.toNat) (x := x) (by rw [range_get, if_pos (by omega)]; congr 1; omega)
    simpa using this
  · intro h
    cases hx : ixF (intN (List.range m)) x 0 with
    | none => rfl
    | some j =>
      obtain ⟨_, h2⟩ := ixF_some hx
      rw [Nat.sub_zero, range_get] at h2
      split at h2
      · injection h2 with h2; exact absurd ⟨by omega, by omega⟩ h
      · cases h2
theorem scn_nrm : ∀ l m, scn l = some m → (nrmP l).1 = intN (List.range m) ∧ intN (nrmP l).2 = l := snoc_ind (P := fun l => ∀ m, scn l = some m → (nrmP l).1 = intN (List.range m) ∧ intN (nrmP l).2 = l) (fun m h => by
    have h : some 0 = some m := h
    injection h with h; subst h; exact ⟨rfl, rfl⟩) fun l x ih m h => by
  rw [scn_snoc] at h
  cases hl : scn l with
  | none => rw [hl] at h; cases h
  | some n =>
    obtain ⟨h1, h2⟩ := ih n hl
    rw [hl] at h
    simp only [scnS] at h
    rw [nrmP_snoc]
    unfold nrmS
    rw [h1]
    split at h
    · cases h
    · rename_i hb
      split at h
      · rename_i e
        injection h with h; subst h
        rw [ixF_range.2 (by omega)]
        simp only
        refine ⟨?_, ?_⟩
        · rw [e]; unfold intN; rw [List.range_succ, List.map_append]; rfl
        · rw [intN_snoc, h2, e, intN_len, List.length_range]
      · rename_i e
        injection h with h; subst h
        rw [ixF_range.1 (by omega)]
        simp only
        refine ⟨trivial, ?_⟩
        rw [intN_snoc, h2]
        congr 2
        omega
theorem scn_bad : ∀ l, scn l = none → intN (nrmP l).2 ≠ l := snoc_ind (P := fun l => scn l = none → intN (nrmP l).2 ≠ l) (fun h => by cases h) fun l x ih h e => by
  rw [scn_snoc] at h
  have key : ∀ j : Nat, (nrmP (l ++ [x])).2 = (nrmP l).2 ++ [j] → intN (nrmP l).2 = l ∧ (j : Int) = x := fun j hj => by
    rw [hj, intN_snoc] at e
    have := List.append_inj' e rfl
    exact ⟨this.1, by simpa using this.2⟩
  have hex : ∃ j, (nrmP (l ++ [x])).2 = (nrmP l).2 ++ [j] := by
    rw [nrmP_snoc]; unfold nrmS; split <;> exact ⟨_, rfl⟩
  obtain ⟨j, hj⟩ := hex
  obtain ⟨k1, k2⟩ := key j hj
  cases hl : scn l with
  | none => exact ih hl k1
  | some m =>
    obtain ⟨h1, _⟩ := scn_nrm l m hl
    rw [hl] at h
    simp only [scnS] at h
    split at h
    · rename_i hb
      rw [nrmP_snoc] at hj
      unfold nrmS at hj
      rw [h1, ixF_range.2 (by omega)] at hj
      simp only at hj
      have := List.append_inj' hj rfl
      have h3 := this.2
      simp [intN] at h3
      omega
    · split at h <;> cases h
theorem scn_iff (l : List Int) : (scn l).isSome = decide (intN (nrmP l).2 = l) := by
  cases h : scn l with
  | none => simp [scn_bad l h]
  | some m => simp [(scn_nrm l m h).2]
def manyL (l : List Int) : Int := l.foldl (fun n x => max n (x + 1)) 0
theorem manyL_step (l : List Int) (k : Nat) (hk : k < l.length) : manyL (l.take (k + 1)) = max (manyL (l.take k)) (l[k] + 1) := by
  rw [← List.take_append_getElem hk]; unfold manyL; rw [List.foldl_append]; rfl
theorem scn_many : ∀ l m, scn l = some m → manyL l = m := snoc_ind (P := fun l => ∀ m, scn l = some m → manyL l = m) (fun m h => by
    have h : some 0 = some m := h
    injection h with h; subst h; rfl) fun l x ih m h => by
  have e : manyL (l ++ [x]) = max (manyL l) (x + 1) := by unfold manyL; rw [List.foldl_append]; rfl
  rw [scn_snoc] at h
  cases hl : scn l with
  | none => rw [hl] at h; cases h
  | some n =>
    rw [hl] at h
    simp only [scnS] at h
    rw [e, ih n hl]
    split at h
    · cases h
    · split at h <;> (injection h with h; subst h; omega)
theorem scn_mem : ∀ l m, scn l = some m → ∀ p, p ∈ l ↔ 0 ≤ p ∧ p < (m : Int) := snoc_ind (P := fun l => ∀ m, scn l = some m → ∀ p, p ∈ l ↔ 0 ≤ p ∧ p < (m : Int)) (fun m h p => by
    have h : some 0 = some m := h
    injection h with h; subst h; simp) fun l x ih m h p => by
  rw [scn_snoc] at h
  cases hl : scn l with
  | none => rw [hl] at h; cases h
  | some n =>
    have hi := ih n hl p
    rw [hl] at h
    simp only [scnS] at h
    rw [List.mem_append, List.mem_singleton, hi]
    split at h
    · cases h
    · split at h <;> (injection h with h; subst h; omega)
theorem scn_low : ∀ l m, scn l = some m → m ≤ l.length := snoc_ind (P := fun l => ∀ m, scn l = some m → m ≤ l.length) (fun m h => by
    have h : some 0 = some m := h
    injection h with h; subst h; simp) fun l x ih m h => by
  rw [scn_snoc] at h
  cases hl : scn l with
  | none => rw [hl] at h; cases h
  | some n =>
    have hi := ih n hl
    rw [hl] at h
    simp only [scnS] at h
    rw [List.length_append, List.length_singleton]
    split at h
    · cases h
    · split at h <;> (injection h with h; subst h; omega)
def maxL : List Int → Int
  | [] => 0
  | x :: l => l.foldl max x
theorem maxL_many {l : List Int} (h0 : l ≠ []) (h : ∀ x ∈ l, 0 ≤ x) : maxL l + 1 = manyL l := by
  cases l with
  | nil => exact absurd rfl h0
  | cons x l =>
    have hx := h x (by simp)
    have key : ∀ (l : List Int) (a : Int), l.foldl (fun n x => max n (x + 1)) (a + 1) = l.foldl max a + 1 := fun l => by
      induction l with
      | nil => intro a; rfl
      | cons y l ih =>
        intro a
        simp only [List.foldl_cons]
        rw [show max (a + 1) (y + 1) = max a y + 1 by omega]
        exact ih _
    have e : manyL (x :: l) = l.foldl (fun n x => max n (x + 1)) (x + 1) := by
      unfold manyL
      rw [List.foldl_cons, show max 0 (x + 1) = x + 1 by omega]
    rw [e, key]
    rfl
/-- The nodes of a person among the first k. -/
def perT (l : List Int) (p : Int) (k : Nat) : List Nat := (List.range k).filter fun n => decide (l[n]? = some p)
theorem perT_yes {l : List Int} {p : Int} {k : Nat} (h : l[k]? = some p) : perT l p (k + 1) = perT l p k ++ [k] := by
  unfold perT; rw [List.range_succ, List.filter_append]; simp [h]
theorem perT_no {l : List Int} {p : Int} {k : Nat} (h : l[k]? ≠ some p) : perT l p (k + 1) = perT l p k := by
  unfold perT; rw [List.range_succ, List.filter_append]; simp [h]
theorem perT_len (l : List Int) (p : Int) (k : Nat) : (perT l p k).length ≤ k := by
  unfold perT
  have := List.length_filter_le (fun n => decide (l[n]? = some p)) (List.range k)
  simpa using this
theorem perT_nil {l : List Int} {p : Int} : perT l p l.length = [] ↔ p ∉ l := by
  unfold perT
  rw [List.filter_eq_nil_iff]
  constructor
  · intro h hp
    obtain ⟨i, hi⟩ := List.getElem?_of_mem hp
    have hlt := (List.getElem?_eq_some_iff.1 hi).1
    exact h i (List.mem_range.2 hlt) (by simp [hi])
  · intro h i hi hd
    simp at hd
    exact h (List.mem_of_getElem? hd)
end Go.Proofs.YtlllmoafhfjbbaaGreat
