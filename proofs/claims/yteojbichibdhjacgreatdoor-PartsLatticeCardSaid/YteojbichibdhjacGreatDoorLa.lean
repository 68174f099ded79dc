/- The lattice of partitions: plain mathematics. -/
import Derived.Test.YteojbichibdhjacGreatDoorUm
namespace Go.Proofs.YteojbichibdhjacGreatDoor
set_option linter.unusedSimpArgs false
set_option linter.unusedVariables false

theorem ixF_in {l : List Int} {x : Int} (hx : x ∈ l) : ∃ j, ixF l x 0 = some j ∧ l[j]? = some x := by
  cases h : ixF l x 0 with
  | none => exact absurd hx (ixF_none h)
  | some j => exact ⟨j, rfl, by have := (ixF_some h).2; simpa using this⟩
/-- Lists with one pattern have one normal form. -/
theorem nrm_same : ∀ (l l' : List Int), l.length = l'.length → (∀ (i k : Nat) (x y x' y' : Int), l[i]? = some x → l[k]? = some y → l'[i]? = some x' → l'[k]? = some y' → (x = y ↔ x' = y')) →
    (nrmP l).2 = (nrmP l').2 ∧ (nrmP l).1.length = (nrmP l').1.length :=
  snoc_ind (P := fun l => ∀ l', l.length = l'.length → (∀ (i k : Nat) (x y x' y' : Int), l[i]? = some x → l[k]? = some y → l'[i]? = some x' → l'[k]? = some y' → (x = y ↔ x' = y')) → (nrmP l).2 = (nrmP l').2 ∧ (nrmP l).1.length = (nrmP l').1.length)
    (fun l' h _ => by have : l' = [] := List.length_eq_zero_iff.1 h.symm; subst this; exact ⟨rfl, rfl⟩) fun l x ih l2 hl hp => by
    rcases List.eq_nil_or_concat l2 with rfl | ⟨l', x', rfl⟩
    · simp at hl
    · rw [List.concat_eq_append] at hl hp ⊢
      have hll : l.length = l'.length := by simpa using hl
      have up : ∀ {i : Nat} {y : Int}, l[i]? = some y → (l ++ [x])[i]? = some y := fun {i y} h => by rw [List.getElem?_append_left (List.getElem?_eq_some_iff.1 h).1]; exact h
      have up' : ∀ {i : Nat} {y : Int}, l'[i]? = some y → (l' ++ [x'])[i]? = some y := fun {i y} h => by rw [List.getElem?_append_left (List.getElem?_eq_some_iff.1 h).1]; exact h
      have lst : (l ++ [x])[l.length]? = some x := by simp
      have lst' : (l' ++ [x'])[l.length]? = some x' := by rw [hll]; simp
      obtain ⟨e2, e1⟩ := ih l' hll fun i k p q p' q' h1 h2 h3 h4 => hp i k p q p' q' (up h1) (up h2) (up' h3) (up' h4)
      have I := nrm_inv l
      have I' := nrm_inv l'
      rw [nrmP_snoc, nrmP_snoc]
      unfold nrmS
      by_cases hx : x ∈ l
      · obtain ⟨k, hk⟩ := List.getElem?_of_mem hx
        have hkl : k < l'.length := by rw [← hll]; exact (List.getElem?_eq_some_iff.1 hk).1
        have hk' : l'[k]? = some x' := by
          rw [List.getElem?_eq_getElem hkl]
          congr 1
          exact (hp k l.length x x l'[k] x' (up hk) lst (up' (List.getElem?_eq_getElem hkl)) lst').1 rfl
        obtain ⟨j, h1, h2⟩ := I.at_ k x hk
        obtain ⟨j', h3, h4⟩ := I'.at_ k x' hk'
        rw [e2, h3] at h1
        injection h1 with h1
        subst h1
        rw [ixF_at I.nodup h2, ixF_at I'.nodup h4]
        simp only [e2, e1, Nat.zero_add, and_self]
      · have hx' : x' ∉ l' := fun h => by
          obtain ⟨k, hk⟩ := List.getElem?_of_mem h
          have hkl : k < l.length := by rw [hll]; exact (List.getElem?_eq_some_iff.1 hk).1
          have := (hp k l.length l[k] x x' x' (up (List.getElem?_eq_getElem hkl)) lst (up' hk) lst').2 rfl
          exact hx (this ▸ List.getElem_mem hkl)
        have n1 : ixF (nrmP l).1 x 0 = none := by
          cases h : ixF (nrmP l).1 x 0 with
          | none => rfl
          | some j => exact absurd (I.mem x (List.mem_of_getElem? (ixF_some h).2)) hx
        have n2 : ixF (nrmP l').1 x' 0 = none := by
          cases h : ixF (nrmP l').1 x' 0 with
          | none => rfl
          | some j => exact absurd (I'.mem x' (List.mem_of_getElem? (ixF_some h).2)) hx'
        rw [n1, n2]
        simp only [e2, e1, List.length_append, List.length_singleton, and_self]
/-! ### Pairs, as codes -/
def codeL (a b : List Int) : List Int := List.zipWith (fun x y => 33 * x + y) a b
theorem codeL_len {a b : List Int} (h : a.length = b.length) : (codeL a b).length = a.length := by unfold codeL; rw [List.length_zipWith]; omega
theorem codeL_get {a b : List Int} {i : Nat} {x y : Int} (hx : a[i]? = some x) (hy : b[i]? = some y) : (codeL a b)[i]? = some (33 * x + y) := by
  unfold codeL
  rw [List.getElem?_zipWith, hx, hy]
def smallL (l : List Int) : Prop := ∀ (i : Nat) (x : Int), l[i]? = some x → 0 ≤ x ∧ x < 32
theorem code_inj {x y x' y' : Int} (hy : 0 ≤ y ∧ y < 32) (hy' : 0 ≤ y' ∧ y' < 32) : 33 * x + y = 33 * x' + y' ↔ x = x' ∧ y = y' := by omega
def finB (a b : List Int) : Bool := decide (intN (nrmP (codeL a b)).2 = a)
theorem get_of {l : List Int} {n i : Nat} (h : l.length = n) (hi : i < n) : ∃ x, l[i]? = some x := ⟨_, List.getElem?_eq_getElem (by omega)⟩
theorem finB_yes {a b : List Int} (hl : a.length = b.length) (hb : smallL b) (hn : intN (nrmP a).2 = a) (h : ∀ (i k : Nat) (x y z : Int), k < i → a[i]? = some x → a[k]? = some x → b[i]? = some y → b[k]? = some z → y = z) : finB a b = true := by
  unfold finB
  rw [decide_eq_true_eq]
  have hs := nrm_same (codeL a b) a (codeL_len hl) fun i k x y x' y' h1 h2 h3 h4 => by
    have hi := (List.getElem?_eq_some_iff.1 h3).1
    have hk := (List.getElem?_eq_some_iff.1 h4).1
    obtain ⟨u, hu⟩ := get_of hl.symm hi
    obtain ⟨v, hv⟩ := get_of hl.symm hk
    rw [codeL_get h3 hu] at h1
    rw [codeL_get h4 hv] at h2
    injection h1 with h1
    injection h2 with h2
    rw [← h1, ← h2, code_inj (hb i u hu) (hb k v hv)]
    refine ⟨fun h => h.1, fun he => ⟨he, ?_⟩⟩
    subst he
    rcases Nat.lt_trichotomy i k with hik | hik | hik
    · exact (h k i x' v u hik h4 h3 hv hu).symm
    · subst hik; rw [hu] at hv; injection hv
    · exact h i k x' u v hik h3 h4 hu hv
  rw [hs.1, hn]
theorem finB_no {a b : List Int} (hl : a.length = b.length) (hb : smallL b) {i k : Nat} {x y z : Int} (h1 : a[i]? = some x) (h2 : a[k]? = some x) (h3 : b[i]? = some y) (h4 : b[k]? = some z) (hne : y ≠ z) : finB a b = false := by
  unfold finB
  rw [decide_eq_false_iff_not]
  intro he
  obtain ⟨j, q1, q2⟩ := (nrm_inv (codeL a b)).at_ i _ (codeL_get h1 h3)
  obtain ⟨j', q3, q4⟩ := (nrm_inv (codeL a b)).at_ k _ (codeL_get h2 h4)
  have e1 : (intN (nrmP (codeL a b)).2)[i]? = some (j : Int) := by unfold intN; rw [List.getElem?_map, q1]; rfl
  have e2 : (intN (nrmP (codeL a b)).2)[k]? = some (j' : Int) := by unfold intN; rw [List.getElem?_map, q3]; rfl
  rw [he, h1] at e1
  rw [he, h2] at e2
  rw [e1] at e2
  injection e2 with e2
  have e3 : j = j' := by omega
  subst e3
  rw [q2] at q4
  injection q4 with q4
  exact hne ((code_inj (hb i y h3) (hb k z h4)).1 q4).2
/-! ### The ties of a partition -/
def jT1 (l : List Int) (n : Nat) : List TieD := match l[n]? with
  | some x => if ixI l x < n then [⟨ixI l x, n, 2, 1, 0⟩] else []
  | none => []
def jT (l : List Int) : Nat → List TieD
  | 0 => []
  | k + 1 => jT l k ++ jT1 l k
theorem jT1_len (l : List Int) (n : Nat) : (jT1 l n).length ≤ 1 := by
  unfold jT1
  split
  · split <;> simp
  · simp
theorem jT_len (l : List Int) : ∀ k, (jT l k).length ≤ k
  | 0 => Nat.le_refl _
  | k + 1 => by have := jT_len l k; have := jT1_len l k; unfold jT; rw [List.length_append]; omega
theorem ixI_in {l : List Int} {x : Int} (hx : x ∈ l) : ∃ f : Nat, ixI l x = f ∧ l[f]? = some x := by
  obtain ⟨j, h1, h2⟩ := ixF_in hx
  exact ⟨j, by unfold ixI; rw [h1], h2⟩
theorem jT_mem {l : List Int} {t : TieD} : ∀ {k : Nat}, t ∈ jT l k → ∃ (f n : Nat) (x : Int), n < k ∧ f < n ∧ l[f]? = some x ∧ l[n]? = some x ∧ t = ⟨f, n, 2, 1, 0⟩
  | 0, h => by cases h
  | k + 1, h => by
    unfold jT at h
    rcases List.mem_append.1 h with h | h
    · obtain ⟨f, n, x, h1, h2, h3, h4, h5⟩ := jT_mem h
      exact ⟨f, n, x, by omega, h2, h3, h4, h5⟩
    · unfold jT1 at h
      split at h
      · rename_i x hx
        split at h
        · rename_i hlt
          obtain ⟨f, e, hf⟩ := ixI_in (List.mem_of_getElem? hx)
          rw [e] at hlt h
          rw [List.mem_singleton] at h
          exact ⟨f, k, x, by omega, by omega, hf, hx, h⟩
        · cases h
      · cases h
theorem jT_has {l : List Int} {x : Int} {f n : Nat} : ∀ {k : Nat}, n < k → ixI l x = f → f < n → l[n]? = some x → (⟨f, n, 2, 1, 0⟩ : TieD) ∈ jT l k
  | 0, h, _, _, _ => by omega
  | k + 1, h, he, hf, hx => by
    unfold jT
    rw [List.mem_append]
    by_cases hk : n = k
    · subst hk
      refine .inr ?_
      unfold jT1
      rw [hx]
      simp only
      rw [he, if_pos (by omega)]
      simp
    · exact .inl (jT_has (by omega) he hf hx)
theorem jT_ok {l : List Int} {k n : Nat} (hk : k ≤ n) : ∀ t ∈ jT l k, tieB t n = true := fun t h => by
  obtain ⟨f, m, x, h1, h2, _, _, rfl⟩ := jT_mem h
  unfold tieB ftB
  simp only [Bool.and_eq_true, decide_eq_true_eq, Bool.not_eq_true', beq_eq_false_iff_ne, Bool.or_eq_true, beq_iff_eq]
  exact ⟨⟨⟨⟨⟨⟨by omega, by omega⟩, by omega, by omega⟩, by omega⟩, by simp⟩, by omega, by omega⟩, by omega, by omega⟩
/-- Together in a or in b. -/
def JR (n : Nat) (a b : List Int) (i k : Nat) : Prop := i < n ∧ k < n ∧ (a[i]? = a[k]? ∨ b[i]? = b[k]?)
theorem joinsT_app (s t : List TieD) : joinsT (s ++ t) = joinsT s ++ joinsT t := by unfold joinsT; rw [List.filter_append, List.map_append]
theorem joinsT_mem {ts : List TieD} {f n : Nat} (h : (⟨f, n, 2, 1, 0⟩ : TieD) ∈ ts) : (f, n) ∈ joinsT ts := by
  unfold joinsT
  rw [List.mem_map]
  exact ⟨_, List.mem_filter.2 ⟨h, rfl⟩, by simp⟩
theorem half {n : Nat} {l : List Int} (hl : l.length = n) {T : List (Nat × Nat)} (hT : ∀ x ∈ joinsT (jT l n), x ∈ T) {i k : Nat} (hi : i < n) (hk : k < n) (h : l[i]? = l[k]?) : Eqv (TieR T) i k := by
  obtain ⟨x, hx⟩ := get_of hl hi
  have hy := hx
  rw [h] at hy
  obtain ⟨f, e, hf⟩ := ixI_in (List.mem_of_getElem? hx)
  have key : ∀ {j : Nat}, j < n → l[j]? = some x → Eqv (TieR T) f j := fun {j} hj hjx => by
    have hfj : f ≤ j := by
      rcases Nat.lt_or_ge j f with hlt | hge
      · exfalso
        -- the first place
        have hno : ∀ (m : List Int) (c : Nat) (q : Nat), ixF m x c = some q → ∀ p, m[p]? = some x → q ≤ c + p := fun m => by
          induction m with
          | nil => intro c q h; simp [ixF] at h
          | cons y m ih =>
            intro c q h p hp
            unfold ixF at h
            split at h
            · injection h with h; omega
            · rename_i hne
              cases p with
              | zero => simp at hp; exact absurd hp.symm hne
              | succ p => have := ih (c + 1) q h p (by simpa using hp); omega
        obtain ⟨q, hq, _⟩ := ixF_in (List.mem_of_getElem? hx)
        have h2 := hno l 0 q hq j hjx
        unfold ixI at e
        rw [hq] at e
        have e' : (q : Int) = f := by simpa using e
        omega
      · exact hge
    rcases Nat.lt_or_ge f j with hlt | hge
    · exact .base (hT _ (joinsT_mem (jT_has hj e hlt hjx)))
    · have : f = j := by omega
      subst this; exact .refl _
  exact (key hi hx).symm.trans (key hk hy)
theorem join_eqv {n : Nat} {a b : List Int} (ha : a.length = n) (hb : b.length = n) (i k : Nat) : Eqv (TieR (joinsT (jT a n ++ jT b n))) i k ↔ Eqv (JR n a b) i k := by
  constructor
  · refine fun e => e.mono fun i k hr => .base ?_
    unfold TieR joinsT at hr
    obtain ⟨t, ht, he⟩ := List.mem_map.1 hr
    have ht := (List.mem_filter.1 ht).1
    injection he with h1 h2
    rcases List.mem_append.1 ht with ht | ht
    · obtain ⟨f, m, x, g1, g2, g3, g4, rfl⟩ := jT_mem ht
      simp at h1 h2
      subst h1; subst h2
      exact ⟨by omega, g1, .inl (by rw [g3, g4])⟩
    · obtain ⟨f, m, x, g1, g2, g3, g4, rfl⟩ := jT_mem ht
      simp at h1 h2
      subst h1; subst h2
      exact ⟨by omega, g1, .inr (by rw [g3, g4])⟩
  · refine fun e => e.mono fun i k hr => ?_
    obtain ⟨hi, hk, h | h⟩ := hr
    · exact half ha (fun x hx => by rw [joinsT_app]; exact List.mem_append_left _ hx) hi hk h
    · exact half hb (fun x hx => by rw [joinsT_app]; exact List.mem_append_right _ hx) hi hk h
theorem join_least {n : Nat} {a b : List Int} (ha : a.length = n) (hb : b.length = n) : Least n (Eqv (JR n a b)) (grpL n (jT a n ++ jT b n)) :=
  Least.iff (join_eqv ha hb) (grp_least n _ fun t ht => by
    rcases List.mem_append.1 ht with h | h
    · exact jT_ok (Nat.le_refl _) t h
    · exact jT_ok (Nat.le_refl _) t h)
/-! ### A round, a part of it done -/
structure RoundK (n : Nat) (R : Nat → Nat → Prop) (l0 l1 : List Int) (i k : Nat) : Prop where
  way : Way n (Eqv R) l1
  less : ∀ (j : Nat) (x y : Int), l0[j]? = some x → l1[j]? = some y → y ≤ x
  took : ∀ (p q : Nat) (x y : Int), R p q → (p < i ∨ p = i ∧ q < k) → l0[q]? = some x → l1[p]? = some y → y ≤ x
theorem RoundK.start {n : Nat} {R : Nat → Nat → Prop} {l : List Int} (h : Way n (Eqv R) l) : RoundK n R l l 0 0 :=
  ⟨h, fun j x y h1 h2 => by rw [h1] at h2; injection h2 with h2; omega, fun p q x y _ h => by omega⟩
theorem RoundK.skip {n : Nat} {R : Nat → Nat → Prop} {l0 l1 : List Int} {i k : Nat} (h : RoundK n R l0 l1 i k) (hr : ¬ R i k) : RoundK n R l0 l1 i (k + 1) :=
  ⟨h.way, h.less, fun p q x y hpq hlt h1 h2 => by
    by_cases he : p = i ∧ q = k
    · obtain ⟨rfl, rfl⟩ := he; exact absurd hpq hr
    · exact h.took p q x y hpq (by omega) h1 h2⟩
theorem RoundK.put {n : Nat} {R : Nat → Nat → Prop} {l0 l1 : List Int} {i k : Nat} {x y : Int} (h : RoundK n R l0 l1 i k) (h0 : l0.length = n) (hr : R i k) (hx : l1[i]? = some x) (hy : l1[k]? = some y) : RoundK n R l0 (l1.set i (min x y)) i (k + 1) := by
  have hil : i < l1.length := (List.getElem?_eq_some_iff.1 hx).1
  have get : ∀ {j : Nat} {v : Int}, (l1.set i (min x y))[j]? = some v → (j = i ∧ v = min x y) ∨ (j ≠ i ∧ l1[j]? = some v) := fun {j v} hv => by
    rw [List.getElem?_set] at hv
    split at hv
    · rename_i e
      have hv' : some (min x y) = some v := by simpa [hil] using hv
      injection hv' with hv'
      exact .inl ⟨e.symm, hv'.symm⟩
    · rename_i e
      exact .inr ⟨fun h => e h.symm, hv⟩
  refine ⟨h.way.put hx hy hr, fun j u v h1 h2 => ?_, fun p q u v hpq hlt h1 h2 => ?_⟩
  · rcases get h2 with ⟨rfl, rfl⟩ | ⟨_, h3⟩
    · have := h.less _ u x h1 hx; omega
    · exact h.less j u v h1 h3
  · rcases get h2 with ⟨rfl, rfl⟩ | ⟨hne, h3⟩
    · by_cases hq : q = k
      · subst hq
        have := h.less q u y h1 hy
        omega
      · have := h.took p q u x hpq (by omega) h1 hx
        omega
    · exact h.took p q u v hpq (by omega) h1 h3
theorem RoundK.next {n : Nat} {R : Nat → Nat → Prop} {l0 l1 : List Int} {i : Nat} (hin : ∀ i k, R i k → i < n ∧ k < n) (h : RoundK n R l0 l1 i n) : RoundK n R l0 l1 (i + 1) 0 :=
  ⟨h.way, h.less, fun p q x y hpq hlt h1 h2 => h.took p q x y hpq (by have := hin p q hpq; omega) h1 h2⟩
theorem RoundK.done {n : Nat} {R : Nat → Nat → Prop} {l0 l1 : List Int} (hin : ∀ i k, R i k → i < n ∧ k < n) (h0 : Way n (Eqv R) l0) (h : RoundK n R l0 l1 n 0) : Round n R l0 l1 :=
  ⟨h0, h.way, h.less, fun p q x y hpq h1 h2 => h.took p q x y hpq (by have := hin p q hpq; omega) h1 h2⟩
/-- So many rounds are done. -/
def RoundsN (n : Nat) (R : Nat → Nat → Prop) (r : Nat) (l : List Int) : Prop := Way n (Eqv R) l ∧ ((∀ i, i < n → Fin n (Eqv R) l i) ∨ r ≤ cntF n (Eqv R) l)
theorem RoundsN.start (n : Nat) (R : Nat → Nat → Prop) : RoundsN n R 0 (intN (List.range n)) := ⟨Way.start, .inr (Nat.zero_le _)⟩
theorem JR_in {n : Nat} {a b : List Int} (i k : Nat) (h : JR n a b i k) : i < n ∧ k < n := ⟨h.1, h.2.1⟩
theorem JR_symm {n : Nat} {a b : List Int} (i k : Nat) (h : JR n a b i k) : JR n a b k i := ⟨h.2.1, h.1, h.2.2.imp Eq.symm Eq.symm⟩
theorem RoundsN.step {n r : Nat} {a b : List Int} {l0 l1 : List Int} (h : RoundsN n (JR n a b) r l0) (h1 : RoundK n (JR n a b) l0 l1 n 0) : RoundsN n (JR n a b) (r + 1) l1 :=
  ⟨h1.way, (h1.done JR_in h.1).count JR_in JR_symm h.2⟩
theorem RoundsN.fin {n : Nat} {a b : List Int} {l : List Int} (ha : a.length = n) (hb : b.length = n) (h : RoundsN n (JR n a b) n l) : l = grpL n (jT a n ++ jT b n) :=
  (h.1.least JR_in (all_of_count h.2)).uniq (join_least ha hb)
end Go.Proofs.YteojbichibdhjacGreatDoor
