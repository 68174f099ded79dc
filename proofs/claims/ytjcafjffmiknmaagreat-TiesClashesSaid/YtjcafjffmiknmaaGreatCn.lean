/- Layer 4: what Clash finds is accepted: plain mathematics. -/
import Derived.Test.YtjcafjffmiknmaaGreatC2
import Derived.Test.YtjcafjffmiknmaaGreatCm
namespace Go.Proofs.YtjcafjffmiknmaaGreat
set_option linter.unusedSimpArgs false
set_option linter.unusedVariables false
open Go Go.RowKit

theorem nodup_le : ∀ (n : Nat) (l : List Nat), l.Nodup → (∀ x ∈ l, x < n) → l.length ≤ n
  | 0, l, _, h => by
    cases l with
    | nil => exact Nat.le_refl _
    | cons x l => exact absurd (h x List.mem_cons_self) (by omega)
  | n + 1, l, hd, h => by
    have h1 := nodup_le n (l.erase n) (hd.erase n) fun x hx => by
      have h2 := h x (List.mem_of_mem_erase hx)
      have h3 : x ≠ n := fun e => by subst e; exact (List.Nodup.not_mem_erase hd) hx
      omega
    have h2 : l.length ≤ (l.erase n).length + 1 := by
      by_cases hm : n ∈ l
      · rw [List.length_erase_of_mem hm]; omega
      · rw [List.erase_of_not_mem hm]; omega
    omega
theorem way_short {ts : List TieD} {n cuts : Nat} (hn : n ≤ 32) (hc : cuts ≤ 1) (hv : ∀ t ∈ ts, tieB t n = true) {x y : Int} (hx : x.toNat < n) (hy : y.toNat < n) {l : List Int} (h : WayL ts cuts x y l) : ∀ l' : List Int, leadF ts l' (x, 0) = some (y, (cuts : Int)) → l.length ≤ l'.length := by
  obtain ⟨a, b, c, rfl, rfl, h1, h2⟩ := h
  intro l' hl
  have := h1.short hn hc hv (by simpa using hx) (by simpa using hy) (Nat.le_refl _) h2 l' hl
  simpa using this
section
variable {ts : List TieD} {n : Nat} {x y : Int} {l : List Int}
theorem pre_lead (h : leadF ts l (x, 0) = some (y, 0)) (p : Nat) : ∃ v, leadF ts (l.take p) (x, 0) = some (v, 0) ∧ leadF ts (l.drop p) (v, 0) = some (y, 0) := by
  have h1 : leadF ts (l.take p ++ l.drop p) (x, 0) = some (y, 0) := by rw [List.take_append_drop]; exact h
  rw [lead_app] at h1
  cases h2 : leadF ts (l.take p) (x, 0) with
  | none => rw [h2] at h1; cases h1
  | some z =>
    obtain ⟨v, c⟩ := z
    rw [h2] at h1
    have h1 : leadF ts (l.drop p) (v, c) = some (y, 0) := h1
    have h3 := lead_cuts h2
    have h4 := lead_cuts h1
    obtain rfl : c = 0 := by omega
    exact ⟨v, rfl, h1⟩
/-- A shortest walk comes to no node twice. -/
theorem no_twice (h : leadF ts l (x, 0) = some (y, 0)) (hs : ∀ l' : List Int, leadF ts l' (x, 0) = some (y, 0) → l.length ≤ l'.length) {p q : Nat} (hp : p ≤ l.length) (hq : q ≤ l.length) {v : Int} (h1 : leadF ts (l.take p) (x, 0) = some (v, 0)) (h2 : leadF ts (l.take q) (x, 0) = some (v, 0)) : p = q := by
  have key : ∀ {p q : Nat}, p ≤ l.length → q ≤ l.length → leadF ts (l.take p) (x, 0) = some (v, 0) → leadF ts (l.take q) (x, 0) = some (v, 0) → ¬ p < q := by
    intro p q hp hq h1 h2 hlt
    obtain ⟨z, h3, h4⟩ := pre_lead h q
    rw [h2] at h3
    injection h3 with h3; injection h3 with h3 _
    subst h3
    have h5 := hs (l.take p ++ l.drop q) (by rw [lead_app, h1]; exact h4)
    rw [List.length_append, List.length_take, List.length_drop] at h5
    omega
  have a := key hp hq h1 h2
  have b := key hq hp h2 h1
  omega
theorem edge_at (h : leadF ts l (x, 0) = some (y, 0)) {p : Nat} (hp : p < l.length) : ∃ (t : TieD) (u v : Int), 0 ≤ l[p] ∧ ts[l[p].toNat]? = some t ∧ cutI t = 0 ∧ leadF ts (l.take p) (x, 0) = some (u, 0) ∧ leadF ts (l.take (p + 1)) (x, 0) = some (v, 0) ∧ ((t.a = u ∧ t.b = v) ∨ (t.a = v ∧ t.b = u)) := by
  obtain ⟨u, h1, h2⟩ := pre_lead h p
  obtain ⟨v, h3, h4⟩ := pre_lead h (p + 1)
  have h5 := leadF_step (ts := ts) (p := (x, 0)) hp
  rw [h3, h1] at h5
  obtain ⟨h6, t, h7, h8, h9⟩ := step_iff.1 h5.symm
  refine ⟨t, u, v, h6, h7, by omega, h1, h3, ?_⟩
  rcases h9 with ⟨rfl, rfl⟩ | ⟨_, rfl, rfl⟩
  · exact .inl ⟨rfl, rfl⟩
  · exact .inr ⟨rfl, rfl⟩
theorem lead_in (hv : ∀ t ∈ ts, tieB t n = true) : ∀ {l : List Int} {x c y d : Int}, (0 ≤ x ∧ x < n) → leadF ts l (x, c) = some (y, d) → 0 ≤ y ∧ y < n
  | [], x, c, y, d, hx, h => by
    have h : some (x, c) = some (y, d) := h
    injection h with h; injection h with h1 h2
    omega
  | i :: l, x, c, y, d, hx, h => by
    obtain ⟨⟨z, f⟩, h1, h2⟩ := lead_cons_some h
    obtain ⟨h0, t, ht, _, hab⟩ := step_iff.1 h1
    obtain ⟨ga, ga', gb, gb', _, _⟩ := tieB_in (hv t (List.mem_of_getElem? ht))
    refine lead_in hv ?_ h2
    rcases hab with ⟨_, rfl⟩ | ⟨_, _, rfl⟩ <;> exact ⟨by assumption, by assumption⟩
theorem chn_len (hv : ∀ t ∈ ts, tieB t n = true) (hx : 0 ≤ x ∧ x < n) (h : leadF ts l (x, 0) = some (y, 0)) (hs : ∀ l' : List Int, leadF ts l' (x, 0) = some (y, 0) → l.length ≤ l'.length) : l.length + 1 ≤ n := by
  have hf : ∀ p, ∃ v : Nat, leadF ts (l.take p) (x, 0) = some ((v : Int), 0) ∧ v < n := fun p => by
    obtain ⟨v, h1, _⟩ := pre_lead h p
    have h2 := lead_in hv hx h1
    obtain ⟨u, rfl⟩ := Int.eq_ofNat_of_zero_le h2.1
    exact ⟨u, h1, by omega⟩
  have h1 := nodup_le n ((List.range (l.length + 1)).map fun p => Classical.choose (hf p)) ?_ ?_
  · simpa using h1
  · refine List.pairwise_map.2 ?_
    refine (List.pairwise_lt_range (n := l.length + 1)).imp_of_mem fun {p q} hp hq hpq e => ?_
    have hp := List.mem_range.1 hp
    have hq := List.mem_range.1 hq
    have e1 := (Classical.choose_spec (hf p)).1
    have e2 := (Classical.choose_spec (hf q)).1
    rw [e] at e1
    have := no_twice h hs (by omega) (by omega) e1 e2
    omega
  · intro v hv'
    obtain ⟨p, _, rfl⟩ := List.mem_map.1 hv'
    exact (Classical.choose_spec (hf p)).2
end
theorem incF_sorted {m : Nat} : ∀ (l : List Int) (x : Int), (∀ i ∈ l, x < i ∧ i < m) → l.Pairwise (· < ·) → (l.foldlM (incS m) x).isSome = true
  | [], _, _, _ => rfl
  | i :: l, x, h, hp => by
    have h1 := h i List.mem_cons_self
    have hs : incS m x i = some i := by
      unfold incS ftB
      rw [if_pos (by simp only [Bool.and_eq_true, decide_eq_true_eq]; omega)]
    rw [List.foldlM_cons, hs]
    exact incF_sorted l i (fun k hk => ⟨List.rel_of_pairwise_cons hp hk, (h k (List.mem_cons_of_mem _ hk)).2⟩) hp.of_cons
set_option maxHeartbeats 1000000 in
/-- What Clash finds is accepted. -/
theorem clash_ok {ts : List TieD} {n j : Nat} {t : TieD} {l : List Int} (hn : n ≤ 32) (hv : ∀ t ∈ ts, tieB t n = true) (hj : ts[j]? = some t) (hw : wrB (grpL n ts) t = true) (hc : ChL ts t.a t.b l) :
    clashF n ts ((l ++ [(j : Int)]).mergeSort fun x y => decide (x ≤ y)) = true ∧ l.length + 1 ≤ n := by
  have htm := List.mem_of_getElem? hj
  obtain ⟨ga, gan, gb, gbn, ga', gb'⟩ := tieB_in (hv t htm)
  unfold wrB at hw
  simp only [Bool.and_eq_true, beq_iff_eq] at hw
  obtain ⟨hk1, hgrp⟩ := hw
  have hsl : ∃ l', leadF ts l' (t.a, 0) = some (t.b, 0) := by
    obtain ⟨p, hp⟩ := Int.eq_ofNat_of_zero_le ga
    obtain ⟨q, hq⟩ := Int.eq_ofNat_of_zero_le gb
    rw [hp, hq] at hgrp
    obtain ⟨l', hl'⟩ := same_lead hv (by omega) (by omega) hgrp
    exact ⟨l', by rw [hp, hq]; exact hl' 0⟩
  obtain ⟨h, hs⟩ : leadF ts l (t.a, 0) = some (t.b, 0) ∧ ∀ l' : List Int, leadF ts l' (t.a, 0) = some (t.b, 0) → l.length ≤ l'.length := by
    rcases hc with ⟨h1, h2⟩ | ⟨_, h2⟩
    · exact ⟨h2, way_short hn (Nat.zero_le 1) hv ga' gb' h1⟩
    · obtain ⟨l', hl'⟩ := hsl
      exact absurd hl' (h2 l')
  refine ⟨?_, chn_len hv ⟨ga, gan⟩ h hs⟩
  have hjm : j < ts.length := (List.getElem?_eq_some_iff.1 hj).1
  -- the ties of the chain
  have hel : ∀ i ∈ l, 0 ≤ i ∧ i < ts.length ∧ i ≠ (j : Int) := by
    intro i hi
    obtain ⟨p, hp, rfl⟩ := List.mem_iff_getElem.1 hi
    obtain ⟨t', u, v, h0, ht', hc0, _⟩ := edge_at h hp
    have := (List.getElem?_eq_some_iff.1 ht').1
    refine ⟨h0, by omega, fun e => ?_⟩
    rw [e, Int.toNat_natCast, hj] at ht'
    injection ht' with ht'
    subst ht'
    unfold cutI at hc0
    rw [hk1] at hc0
    simp at hc0
  have hnd : (l ++ [(j : Int)]).Nodup := by
    refine List.nodup_append.2 ⟨List.pairwise_iff_getElem.2 fun p q hp hq hpq e => ?_, by simp, fun i hi k hk => by
      rw [List.mem_singleton] at hk; subst hk; exact (hel i hi).2.2⟩
    obtain ⟨t1, u1, v1, _, ht1, _, hu1, hv1, hab1⟩ := edge_at h hp
    obtain ⟨t2, u2, v2, _, ht2, _, hu2, hv2, hab2⟩ := edge_at h hq
    rw [e, ht2] at ht1
    injection ht1 with ht1
    subst ht1
    have : v2 = u1 ∨ v2 = v1 := by
      rcases hab1 with ⟨h1, h2⟩ | ⟨h1, h2⟩ <;> rcases hab2 with ⟨h3, h4⟩ | ⟨h3, h4⟩ <;> omega
    rcases this with rfl | rfl
    · have := no_twice h hs (by omega) (by omega) hu1 hv2; omega
    · have := no_twice h hs (by omega) (by omega) hv1 hv2; omega
  generalize hL : (l ++ [(j : Int)]).mergeSort (fun x y => decide (x ≤ y)) = L
  have hperm : L.Perm (l ++ [(j : Int)]) := by rw [← hL]; exact List.mergeSort_perm _ _
  have hmem : ∀ i, i ∈ L ↔ i ∈ l ∨ i = (j : Int) := fun i => by rw [hperm.mem_iff, List.mem_append, List.mem_singleton]
  have hndL : L.Nodup := hperm.nodup_iff.2 hnd
  have hle : L.Pairwise (fun x y => decide (x ≤ y) = true) := by
    rw [← hL]
    exact List.pairwise_mergeSort (fun a b c h1 h2 => by simp only [decide_eq_true_eq] at *; omega) (fun a b => by simp only [Bool.or_eq_true, decide_eq_true_eq]; omega) _
  have hlt : L.Pairwise (· < ·) := (hle.and hndL).imp fun {a b} hab => by
    have h1 := hab.1; have h2 := hab.2
    simp only [decide_eq_true_eq] at h1
    omega
  have hin : ∀ i ∈ L, 0 ≤ i ∧ i < ts.length := fun i hi => by
    rcases (hmem i).1 hi with h1 | rfl
    · exact ⟨(hel i h1).1, (hel i h1).2.1⟩
    · omega
  have hinc : (incF ts.length L).isSome = true := incF_sorted L (-1) (fun i hi => ⟨by have := (hin i hi).1; omega, (hin i hi).2⟩) hlt
  -- the ties themselves
  have hsubm : ∀ us : List TieD, us = subF ts L → (∀ i ∈ L, ∀ t', ts[i.toNat]? = some t' → t' ∈ us) := fun us hus i hi t' ht' => by
    rw [hus]; unfold subF
    exact List.mem_filterMap.2 ⟨i, hi, ht'⟩
  have hget : ∀ (k : Nat) (t' : TieD), (subF ts L)[k]? = some t' → ∃ i : Int, L[k]? = some i ∧ ts[i.toNat]? = some t' := by
    have e : subF ts L = L.map (fun i : Int => (ts[i.toNat]?).getD t) := by
      unfold subF
      have gen : ∀ M : List Int, (∀ i ∈ M, 0 ≤ i ∧ i < ts.length) → M.filterMap (fun i : Int => ts[i.toNat]?) = M.map (fun i : Int => (ts[i.toNat]?).getD t) := by
        intro M
        induction M with
        | nil => intro _; rfl
        | cons i M ih =>
          intro hM
          have h1 := hM i List.mem_cons_self
          have h2 := List.getElem?_eq_getElem (l := ts) (i := i.toNat) (by omega)
          rw [List.filterMap_cons, h2, List.map_cons, h2, ih fun k hk => hM k (List.mem_cons_of_mem _ hk)]; rfl
      exact gen L hin
    intro k t' hk
    rw [e, List.getElem?_map] at hk
    cases hLk : L[k]? with
    | none => rw [hLk] at hk; cases hk
    | some i =>
      rw [hLk] at hk
      have := hin i (List.mem_of_getElem? hLk)
      refine ⟨i, rfl, ?_⟩
      have hk : some ((ts[i.toNat]?).getD t) = some t' := hk
      rw [List.getElem?_eq_getElem (by omega : i.toNat < ts.length)] at hk ⊢
      exact hk
  have hvs : ∀ t' ∈ subF ts L, tieB t' n = true := fun t' h' => hv t' (subF_mem h')
  have hcon : conF n (subF ts L) = true := by
    unfold conF
    refine List.any_eq_true.2 ⟨t, hsubm _ rfl j ((hmem _).2 (.inr rfl)) t (by rw [Int.toNat_natCast]; exact hj), ?_⟩
    unfold wrB
    simp only [Bool.and_eq_true, beq_iff_eq]
    refine ⟨hk1, (atI_iff (by rw [grpL_len]; exact ga') (by rw [grpL_len]; exact gb')).2 ((grp_eqv hvs ga' gb').2 ?_)⟩
    exact lead_us hv (fun i hi => hsubm _ rfl i ((hmem i).2 (.inl hi))) h
  have hmin : ∀ i, i < (subF ts L).length → conF n ((subF ts L).eraseIdx i) = false := by
    intro i hi
    obtain ⟨s, hs1, hs2⟩ := hget i _ (List.getElem?_eq_getElem hi)
    have hve : ∀ t' ∈ (subF ts L).eraseIdx i, tieB t' n = true := fun t' h' => hvs t' (List.mem_of_mem_eraseIdx h')
    have hrest : ∀ t' ∈ (subF ts L).eraseIdx i, ∃ s' : Int, s' ∈ L ∧ s' ≠ s ∧ ts[s'.toNat]? = some t' := fun t' h' => by
      obtain ⟨k, hki, hk⟩ := List.mem_eraseIdx_iff_getElem?.1 h'
      obtain ⟨s', h1, h2⟩ := hget k t' hk
      refine ⟨s', List.mem_of_getElem? h1, fun e => ?_, h2⟩
      subst e
      obtain ⟨a1, a2⟩ := List.getElem?_eq_some_iff.1 h1
      obtain ⟨b1, b2⟩ := List.getElem?_eq_some_iff.1 hs1
      have hp := List.pairwise_iff_getElem.1 hndL
      rcases Nat.lt_trichotomy k i with h9 | h9 | h9
      · exact hp k i a1 b1 h9 (a2.trans b2.symm)
      · exact hki h9
      · exact hp i k b1 a1 h9 (b2.trans a2.symm)
    have fin : ∀ P : List Int, P.length = n → (∀ t' ∈ (subF ts L).eraseIdx i, agB P t' = true) → conF n ((subF ts L).eraseIdx i) = false := fun P hP h' => by
      unfold conF
      exact agr_wrong hve hP (List.all_eq_true.2 h')
    have hchain : ∀ s' : Int, s' ∈ l → ∀ t', ts[s'.toNat]? = some t' → t'.kind = 2 := fun s' h1 t' h2 => by
      obtain ⟨p, hp, rfl⟩ := List.mem_iff_getElem.1 h1
      obtain ⟨t1, u1, v1, _, ht1, hc0, _⟩ := edge_at h hp
      rw [ht1] at h2
      injection h2 with h2
      subst h2
      rcases tie_kind (hv t1 (List.mem_of_getElem? ht1)) with h3 | h3
      · exact h3
      · unfold cutI at hc0; rw [h3] at hc0; simp at hc0
    rcases (hmem s).1 (List.mem_of_getElem? hs1) with hsl' | rfl
    · obtain ⟨p, hp, rfl⟩ := List.mem_iff_getElem.1 hsl'
      let Q : Int → Prop := fun v => ∃ q, q ≤ p ∧ leadF ts (l.take q) (t.a, 0) = some (v, 0)
      have hQ : ∀ q v, q ≤ l.length → leadF ts (l.take q) (t.a, 0) = some (v, 0) → (Q v ↔ q ≤ p) := fun q v hq hqv =>
        ⟨fun ⟨q', h1, h2⟩ => by have := no_twice h hs (by omega) hq h2 hqv; omega, fun h1 => ⟨q, h1, hqv⟩⟩
      have hd : ∀ v, Decidable (Q v) := fun v => Classical.propDecidable _
      let P : List Int := (List.range n).map fun (v : Nat) => if Q (v : Int) then 1 else 0
      have hP : P.length = n := by simp [P]
      have hPa : ∀ v : Int, 0 ≤ v → v < n → atI P v = if Q v then 1 else 0 := fun v h1 h2 => by
        obtain ⟨u, rfl⟩ := Int.eq_ofNat_of_zero_le h1
        have hu : u < n := by omega
        unfold atI
        simp [P, hu]
      refine fin P hP fun t' ht' => ?_
      obtain ⟨s', h1, h2, h3⟩ := hrest t' ht'
      obtain ⟨xa, xan, xb, xbn, _, _⟩ := tieB_in (hv t' (List.mem_of_getElem? h3))
      unfold agB
      rw [hPa _ xa xan, hPa _ xb xbn, beq_iff_eq]
      refine decide_eq_decide.2 ?_
      rcases (hmem s').1 h1 with h4 | rfl
      · have hk := hchain s' h4 t' h3
        refine ⟨fun _ => hk, fun _ => ?_⟩
        obtain ⟨p', hp', rfl⟩ := List.mem_iff_getElem.1 h4
        have hpp : p' ≠ p := fun e => h2 (by subst e; rfl)
        obtain ⟨t1, u1, v1, _, ht1, _, hu1, hv1, hab⟩ := edge_at h hp'
        rw [ht1] at h3
        injection h3 with h3
        subst h3
        have e1 := hQ p' u1 (by omega) hu1
        have e2 := hQ (p' + 1) v1 (by omega) hv1
        have e3 : Q u1 ↔ Q v1 := by rw [e1, e2]; omega
        rcases hab with ⟨r1, r2⟩ | ⟨r1, r2⟩
        · rw [r1, r2]; simp only [e3]
        · rw [r1, r2]; simp only [e3]
      · rw [Int.toNat_natCast, hj] at h3
        injection h3 with h3
        subst h3
        have e1 : Q t.a := ⟨0, by omega, rfl⟩
        have e2 : ¬ Q t.b := fun hq => by
          have := (hQ l.length t.b (Nat.le_refl _) (by rw [List.take_of_length_le (Nat.le_refl _)]; exact h)).1 hq
          omega
        rw [if_pos e1, if_neg e2]
        constructor
        · intro e; omega
        · intro e; omega
    · refine fin (List.replicate n 0) (by simp) fun t' ht' => ?_
      obtain ⟨s', h1, h2, h3⟩ := hrest t' ht'
      have h4 : s' ∈ l := by
        rcases (hmem s').1 h1 with h4 | h4
        · exact h4
        · exact absurd h4 h2
      have hk := hchain s' h4 t' h3
      have hz : ∀ v : Int, atI (List.replicate n 0) v = 0 := fun v => by
        unfold atI
        rw [List.getElem?_replicate]
        split <;> rfl
      unfold agB
      rw [hz, hz, hk]; rfl
  unfold clashF
  rw [hinc, hcon]
  simp only [Bool.true_and]
  exact List.all_eq_true.2 fun i hi => by rw [hmin i (List.mem_range.1 hi)]; rfl
end Go.Proofs.YtjcafjffmiknmaaGreat
