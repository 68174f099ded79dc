/- The interpreter of closed runs, a part of it. -/
import Derived.Test.YteojbichibdhjabGreatVX
namespace Go.Clo
set_option linter.unusedSimpArgs false
set_option linter.unusedVariables false
set_option linter.unnecessarySimpa false
open Go Go.RowKit

variable {P : Program} {W0 : World}

section
variable {H : Hook} {ih : Run} {ops : Array Oper} {b : List Nat} {base : Nat}

theorem drawnS_ex : ∀ {l : List Oper} {i : Nat} {x : Sn} {z : List (V × Sn)}, drawnS P H ih ops b base i l x = .ok z →
    ∃ (X : Nat → Sn) (U : Nat → V), X i = x ∧ (∀ k o, l[k]? = some o → stepD P H ih ops b base (i + k) o (X (i + k)) = .ok (U (i + k), X (i + k + 1))) ∧ z = (List.range' i l.length).map fun k => (U k, X (k + 1))
  | [], i, x, z, h => by
    have h : M.ok [] = M.ok z := h
    injection h with h; subst h
    exact ⟨fun _ => x, fun _ => undefV, rfl, fun k o h => by simp at h, rfl⟩
  | o :: l, i, x, z, h => by
    have h : ((stepD P H ih ops b base i o x).bind fun r => (drawnS P H ih ops b base (i + 1) l r.2).bind fun z => .ok (r :: z)) = .ok z := h
    obtain ⟨r, h1, h⟩ := M.bind_ok h
    obtain ⟨z', h2, h⟩ := M.bind_ok h
    injection h with h; subst h
    obtain ⟨X, U, e1, e2, e3⟩ := drawnS_ex h2
    refine ⟨fun k => if k = i then x else X k, fun k => if k = i then r.1 else U k, by simp, fun k o' hk => ?_, ?_⟩
    · cases k with
      | zero =>
        simp at hk; subst hk
        simp only [Nat.add_zero, if_true, show i + 1 ≠ i by omega, if_false, e1]
        exact h1
      | succ k =>
        have := e2 k o' (by simpa using hk)
        simp only [show i + (k + 1) ≠ i by omega, if_false, show i + (k + 1) + 1 ≠ i by omega]
        rw [show i + (k + 1) = i + 1 + k by omega]
        exact this
    · rw [List.length_cons, List.range'_succ, List.map_cons, e3]
      congr 1
      · simp [e1]
      · refine List.map_congr_left fun k hk => ?_
        have : i + 1 ≤ k := by have := List.mem_range'_1.1 hk; omega
        simp [show k ≠ i by omega, show k + 1 ≠ i by omega]

variable {X : Nat → Sn} {U : Nat → V}
theorem effD_ok {j : Nat} {o : Oper} (ho : ops[j]? = some o) : effD P ops o (X j) = true ↔ EffAt P ops X j := by
  unfold effD
  constructor
  · intro h
    cases hw : wantedV (X j).t (guardOf ops o) with
    | false => rw [hw] at h; cases h
    | true =>
      rw [hw] at h
      refine ⟨o, ho, hw, ?_⟩
      cases hF : opF P o with
      | eff f => exact Or.inl ⟨f, rfl⟩
      | call f l => exact Or.inr ⟨f, l, rfl⟩
      | _ => rw [hF] at h; cases h
  · rintro ⟨o', h1, h2, h3⟩
    rw [ho] at h1; injection h1 with h1; subst h1
    rw [h2]
    rcases h3 with ⟨f, h3⟩ | ⟨f, l, h3⟩ <;> rw [h3]
def zs (X : Nat → Sn) (U : Nat → V) (i n : Nat) : List (V × Sn) := (List.range' i n).map fun k => (U k, X (k + 1))
theorem zs_succ (i n : Nat) : zs X U i (n + 1) = (U i, X (i + 1)) :: zs X U (i + 1) n := by unfold zs; rw [List.range'_succ]; rfl
theorem effs_spec {n : Nat} (hn : n = ops.size) : ∀ {l : List Oper} {i : Nat}, (∀ k, l[k]? = ops[i + k]?) → i + l.length = n →
    (∀ j sj, (j, sj) ∈ effsD P ops i l (X i) (zs X U i l.length) → sj = (X j).s ∧ (j = n ∨ EffAt P ops X j)) ∧
    (∀ j, i ≤ j → (j = n ∨ EffAt P ops X j) → (j, (X j).s) ∈ effsD P ops i l (X i) (zs X U i l.length)) ∧
    (orderD b n (effsD P ops i l (X i) (zs X U i l.length)) = true → ∀ j k, i ≤ j → EffAt P ops X j → EffAt P ops X k → j < k → before b j k = true)
  | [], i, hl, hin => by
    have hin : i = n := by simpa using hin
    have e : effsD P ops i [] (X i) (zs X U i 0) = [(i, (X i).s)] := rfl
    simp only [List.length_nil]
    rw [e]
    refine ⟨fun j sj hj => ?_, fun j hj hjn => ?_, fun _ j k h1 h2 => ?_⟩
    · simp at hj; obtain ⟨rfl, rfl⟩ := hj; exact ⟨rfl, Or.inl hin⟩
    · have : j = i := by
        rcases hjn with h | h
        · omega
        · have := h.lt; omega
      subst this; simp
    · have := h2.lt; omega
  | o :: l, i, hl, hin => by
    have ho : ops[i]? = some o := by have := hl 0; simpa using this.symm
    have hin' : i + 1 + l.length = n := by rw [← hin, List.length_cons]; omega
    obtain ⟨k1, k2, k3⟩ := effs_spec hn (l := l) (i := i + 1) (fun k => by have := hl (k + 1); rw [show i + 1 + k = i + (k + 1) by omega, ← this]; rfl) hin'
    simp only [List.length_cons]
    rw [zs_succ]
    cases he : effD P ops o (X i) with
    | true =>
      have e : effsD P ops i (o :: l) (X i) ((U i, X (i + 1)) :: zs X U (i + 1) l.length) = (i, (X i).s) :: effsD P ops (i + 1) l (X (i + 1)) (zs X U (i + 1) l.length) := by
        show (match effD P ops o (X i) with | true => _ | false => _) = _
        rw [he]
      rw [e]
      have hei := (effD_ok ho).1 he
      refine ⟨fun j sj hj => ?_, fun j hj hjn => ?_, fun hord j k h1 h2 h3 h4 => ?_⟩
      · rcases List.mem_cons.1 hj with h | h
        · injection h with h1 h2; subst h1; exact ⟨h2, Or.inr hei⟩
        · exact k1 j sj h
      · by_cases e : j = i
        · subst e; exact List.mem_cons_self
        · exact List.mem_cons_of_mem _ (k2 j (by omega) hjn)
      · unfold orderD at hord
        rw [Bool.and_eq_true] at hord
        by_cases e : j = i
        · subst e
          have hm := k2 k (by omega) (Or.inr h3)
          have : ∀ {m : List (Nat × St)}, orderD1 b n j m = true → (k, (X k).s) ∈ m → k = n ∨ before b j k = true := by
            intro m
            induction m with
            | nil => intro _ h; cases h
            | cons p m ihm =>
              intro h hm
              unfold orderD1 at h
              rw [Bool.and_eq_true, Bool.or_eq_true] at h
              rcases List.mem_cons.1 hm with h' | h'
              · subst h'; exact h.1.imp Nat.eq_of_beq_eq_true id
              · exact ihm h.2 h'
          rcases this hord.1 hm with h | h
          · have := h3.lt; omega
          · exact h
        · exact k3 hord.2 j k (by omega) h2 h3 h4
    | false =>
      have e : effsD P ops i (o :: l) (X i) ((U i, X (i + 1)) :: zs X U (i + 1) l.length) = effsD P ops (i + 1) l (X (i + 1)) (zs X U (i + 1) l.length) := by
        show (match effD P ops o (X i) with | true => _ | false => _) = _
        rw [he]
      rw [e]
      have hei : ¬ EffAt P ops X i := fun h => by rw [(effD_ok ho).2 h] at he; cases he
      have hne : ∀ {j}, (j = n ∨ EffAt P ops X j) → j ≠ i := fun {j} h e => by
        subst e
        rcases h with h | h
        · have := size_of ho; omega
        · exact hei h
      exact ⟨k1, fun j hj hjn => k2 j (by have := hne hjn; omega) hjn, fun hord j k h1 h2 => k3 hord j k (by have := hne (Or.inr h2); omega) h2⟩
theorem barred_spec {i j : Nat} : ∀ {l : List (Nat × St)}, barred b i j l = true → ∃ k sk, (k, sk) ∈ l ∧ ((j ≤ k ∧ before b k i = true) ∨ (k < j ∧ before b i k = true))
  | [], h => by cases h
  | (k, sk) :: l, h => by
    have h : ((match Nat.ble j k with | true => before b k i | false => before b i k) || barred b i j l) = true := h
    rw [Bool.or_eq_true] at h
    rcases h with h | h
    · refine ⟨k, sk, List.mem_cons_self, ?_⟩
      cases hb : Nat.ble j k with
      | true => rw [hb] at h; exact Or.inl ⟨Nat.le_of_ble_eq_true hb, h⟩
      | false =>
        rw [hb] at h
        refine Or.inr ⟨?_, h⟩
        rcases Nat.lt_or_ge k j with h' | h'
        · exact h'
        · rw [Nat.ble_eq_true_of_le h'] at hb; cases hb
    · obtain ⟨k', sk', h1, h2⟩ := barred_spec h
      exact ⟨k', sk', List.mem_cons_of_mem _ h1, h2⟩
theorem steadyD_spec {effs : List (Nat × St)} {f : St → M V} {own : Pend} {i : Nat} {v : V} : ∀ {l : List (Nat × St)}, steadyD b effs f own i v l = true → ∀ j sj, (j, sj) ∈ l → barred b i j effs = true ∨ f (addPend sj own) = .ok v
  | [], _, _, _, h => by cases h
  | (k, sk) :: l, h, j, sj, hm => by
    have h : ((match barred b i k effs with | true => true | false => match f (addPend sk own) with | .ok v' => v.beq v' | .err _ => false) && steadyD b effs f own i v l) = true := h
    rw [Bool.and_eq_true] at h
    rcases List.mem_cons.1 hm with h' | h'
    · injection h' with h1 h2; subst h1; subst h2
      cases hb : barred b i j effs with
      | true => exact Or.inl rfl
      | false =>
        have h := h.1
        rw [hb] at h
        right
        cases hf : f (addPend sj own) with
        | ok v' => rw [hf] at h; rw [V.beq_eq h]
        | err e => rw [hf] at h; cases h
    · exact steadyD_spec h.2 j sj h'
theorem reads_spec {effs : List (Nat × St)} : ∀ {l : List Oper} {i : Nat}, (∀ k, l[k]? = ops[i + k]?) → readsD P ops b effs i l (X i) (zs X U i l.length) = true →
    ∀ j o f, i ≤ j → ops[j]? = some o → wantedV (X j).t (guardOf ops o) = true → opF P o = .read f → steadyD b effs (f (restrF (X j).t o)) (ownOf b j (X j).q) j (U j) effs = true
  | [], i, hl, _, j, o, f, hj, ho, _, _ => by
    have := hl (j - i)
    rw [show i + (j - i) = j by omega, ho] at this
    simp at this
  | o' :: l, i, hl, h, j, o, f, hj, ho, hw, hF => by
    simp only [List.length_cons] at h
    rw [zs_succ] at h
    have h : ((match wantedV (X i).t (guardOf ops o') with | false => true | true => match opF P o' with | .read f => steadyD b effs (f (restrF (X i).t o')) (ownOf b i (X i).q) i (U i) effs | _ => true) && readsD P ops b effs (i + 1) l (X (i + 1)) (zs X U (i + 1) l.length)) = true := h
    rw [Bool.and_eq_true] at h
    by_cases e : j = i
    · subst e
      have ho' : ops[j]? = some o' := by have := hl 0; simpa using this.symm
      rw [ho] at ho'; injection ho' with ho'; subst ho'
      have h := h.1
      rw [hw, hF] at h
      exact h
    · exact reads_spec (l := l) (i := i + 1) (fun k => by have := hl (k + 1); rw [show i + 1 + k = i + (k + 1) by omega, ← this]; rfl) h.2 j o f (by omega) ho hw hF
theorem dstIs_ok {o : Oper} {d : Nat} : dstIs o d = true ↔ o.dst = some d := by
  unfold dstIs
  cases o.dst with
  | none => simp
  | some e => simp
theorem namesD_ok {o : Oper} {d : Nat} (h : o.dst = some d ∨ d ∈ tmpsOf o.op.operands.toList) : namesD o d = true := by
  unfold namesD
  rw [Bool.or_eq_true]
  rcases h with h | h
  · exact Or.inl (dstIs_ok.2 h)
  · exact Or.inr (List.any_eq_true.2 ⟨d, h, by simp⟩)
theorem tempD1_spec {i d : Nat} : ∀ {l : List Oper} {j : Nat}, tempD1 b i d j l = true → ∀ k o, l[k]? = some o → i ≠ j + k → namesD o d = true → (i < j + k → before b i (j + k) = true) ∧ (j + k < i → before b (j + k) i = true)
  | [], j, _, k, o, h, _, _ => by simp at h
  | o' :: l, j, h, k, o, hk, hne, hnm => by
    have h : ((Nat.beq i j || !namesD o' d || (match Nat.blt i j with | true => before b i j | false => before b j i)) && tempD1 b i d (j + 1) l) = true := h
    rw [Bool.and_eq_true] at h
    cases k with
    | zero =>
      simp at hk; subst hk
      rw [Nat.add_zero] at hne ⊢
      have h := h.1
      rw [hnm, Bool.not_true, Bool.or_false, Bool.or_eq_true] at h
      rcases h with h | h
      · exact absurd (Nat.eq_of_beq_eq_true h) hne
      · cases hb : Nat.blt i j with
        | true =>
          rw [hb] at h
          have : i < j := Nat.le_of_ble_eq_true hb
          exact ⟨fun _ => h, fun h' => by omega⟩
        | false =>
          rw [hb] at h
          exact ⟨fun h' => (by rw [show Nat.blt i j = true from Nat.ble_eq_true_of_le h'] at hb; cases hb), fun _ => h⟩
    | succ k =>
      have := tempD1_spec h.2 k o (by simpa using hk) (by omega) hnm
      rw [show j + (k + 1) = j + 1 + k by omega]
      exact this
theorem tempD_spec {all : List Oper} : ∀ {l : List Oper} {i : Nat}, tempD b all i l = true → ∀ k o d, l[k]? = some o → o.dst = some d → tempD1 b (i + k) d 0 all = true
  | [], i, _, k, o, d, h, _ => by simp at h
  | o' :: l, i, h, k, o, d, hk, hd => by
    have h : ((match o'.dst with | some d => tempD1 b i d 0 all | none => true) && tempD b all (i + 1) l) = true := h
    rw [Bool.and_eq_true] at h
    cases k with
    | zero =>
      simp at hk; subst hk
      have h := h.1
      rw [hd] at h
      exact h
    | succ k =>
      have := tempD_spec h.2 k o d (by simpa using hk) hd
      rw [show i + (k + 1) = i + 1 + k by omega]
      exact this
theorem soleD_spec {d j : Nat} : ∀ {l : List Oper} {i : Nat}, soleD d j i l = true → ∀ k o, l[k]? = some o → i + k ≠ j → o.dst ≠ some d
  | [], i, _, k, o, h, _ => by simp at h
  | o' :: l, i, h, k, o, hk, hne => by
    have h : ((Nat.beq i j || !dstIs o' d) && soleD d j (i + 1) l) = true := h
    rw [Bool.and_eq_true] at h
    cases k with
    | zero =>
      simp at hk; subst hk
      intro hd
      have h := h.1
      rw [dstIs_ok.2 hd, Bool.not_true, Bool.or_false] at h
      exact hne (Nat.eq_of_beq_eq_true h)
    | succ k => exact soleD_spec h.2 k o (by simpa using hk) (by omega)
theorem topoD_spec : ∀ {l : List Oper} {i : Nat}, topoD i l = true → ∀ k o, l[k]? = some o → ∀ e ∈ o.after, Region.binds .any e = true → e.on < i + k
  | [], i, _, k, o, h, _, _, _ => by simp at h
  | o' :: l, i, h, k, o, hk, e, he, hb => by
    have h : (edgesD i o' && topoD (i + 1) l) = true := h
    rw [Bool.and_eq_true] at h
    cases k with
    | zero =>
      simp at hk; subst hk
      have := List.all_eq_true.1 h.1 e (by simpa using he)
      rw [hb, Bool.not_true, Bool.false_or] at this
      exact Nat.le_of_ble_eq_true this
    | succ k =>
      have := topoD_spec h.2 k o (by simpa using hk) e he hb
      omega
theorem guardD_spec {o : Oper} {j : Nat} {want : Bool} (h : guardD ops o = true) (hg : o.guard = some (j, want)) : (∃ e ∈ o.after, e.on = j ∧ Region.binds .any e = true) ∧ ∀ p d, ops[j]? = some p → p.dst = some d → soleD d j 0 ops.toList = true := by
  unfold guardD at h
  rw [hg] at h
  simp only at h
  rw [Bool.and_eq_true] at h
  obtain ⟨e, he, hb⟩ := List.any_eq_true.1 h.1
  rw [Bool.and_eq_true] at hb
  refine ⟨⟨e, by simpa using he, Nat.eq_of_beq_eq_true hb.1, hb.2⟩, fun p d hp hd => ?_⟩
  have h := h.2
  rw [hp] at h
  simp only [hd] at h
  exact h
theorem drawnOk_spec (h : drawnOk ops = some b) : b = (Region.before ops).toList ∧ tempD b ops.toList 0 ops.toList = true ∧ topoD 0 ops.toList = true ∧ (∀ o ∈ ops, guardD ops o = true) ∧ Region.noSelect ops = true := by
  unfold drawnOk at h
  simp only at h
  split at h
  · rename_i hb
    injection h with h; subst h
    simp only [Bool.and_eq_true, List.all_eq_true] at hb
    exact ⟨rfl, hb.1.1.1, hb.1.1.2, fun o ho => hb.1.2 o (by simpa using ho), hb.2⟩
  · cases h
theorem cn_of {x0 : Sn} (hp : x0.p = []) (hq : x0.q = []) (hd : drawnOk ops = some b) (hX : X 0 = x0) (hst : ∀ k o, ops[k]? = some o → stepD P H ih ops b base k o (X k) = .ok (U k, X (k + 1)))
    (hord : orderD b ops.size (effsD P ops 0 ops.toList x0 (zs X U 0 ops.size)) = true) (hred : readsD P ops b (effsD P ops 0 ops.toList x0 (zs X U 0 ops.size)) 0 ops.toList x0 (zs X U 0 ops.size) = true) : Cn P H ih ops b base X U := by
  obtain ⟨hb, h1, h2, h3, h4⟩ := drawnOk_spec hd
  subst hX
  have hl : ∀ k, ops.toList[k]? = ops[0 + k]? := fun k => by simp
  obtain ⟨s1, s2, s3⟩ := effs_spec (P := P) (X := X) (U := U) (b := b) (n := ops.size) rfl (l := ops.toList) (i := 0) hl (by simp)
  have hlen : ops.toList.length = ops.size := by simp
  rw [hlen] at s1 s2 s3
  refine ⟨hst, hp, hq, ?_, ?_, ?_, ?_, ?_, ?_, ?_, ?_⟩
  · intro i j h; rw [hb] at h; obtain ⟨o, ho, _⟩ := before_inv h; exact size_of ho
  · intro i j o ho h
    rw [hb] at h ⊢
    obtain ⟨o', ho', h⟩ := before_inv h
    rw [ho] at ho'; injection ho' with ho'; subst ho'
    exact h
  · intro i o ho e he hbi
    have := topoD_spec h2 i o (by simpa using ho) e he hbi
    omega
  · intro i o d ho hdd j o' ho' hne hnm
    have := tempD1_spec (tempD_spec h1 i o d (by simpa using ho) hdd) j o' (by simpa using ho') (by omega) (namesD_ok hnm)
    simpa using this
  · intro i o j want ho hg
    obtain ⟨k1, k2⟩ := guardD_spec (h3 o (Array.mem_of_getElem? ho)) hg
    exact ⟨k1, fun p d hp hd k ok hk hne => soleD_spec (k2 p d hp hd) k ok (by simpa using hk) (by omega)⟩
  · exact fun j k h1 h2 h3 => s3 hord j k (Nat.zero_le _) h1 h2 h3
  · intro i o f ho hw hF c hc
    have hs := reads_spec (X := X) (U := U) hl (by rw [hlen]; exact hred) i o f (Nat.zero_le _) ho hw hF
    rcases steadyD_spec hs c _ (s2 c (Nat.zero_le _) hc) with h | h
    · obtain ⟨k, sk, hk, h⟩ := barred_spec h
      exact Or.inl ⟨k, (s1 k sk hk).2, h⟩
    · exact Or.inr h
  · intro i o cs d ho
    exact Region.noSelect_spec h4 i o cs d ho
end
end Go.Clo
