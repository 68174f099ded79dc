/- A region that draws its order, in two stages: a head, one operation with an effect, a second head, a tail. -/
import Derived.Test.YthjeiaildabadaaGreatIx
namespace Go.Proofs.YthjeiaildabadaaGreat
set_option linter.unusedSimpArgs false
set_option linter.unusedVariables false
open Go Go.RowKit
variable {P : Program} {ops : Array Oper} {C : Cl} {md : Region.Mode}

/-- As depsOk; t0 need not write a slot. -/
def depsOk2 (md : Region.Mode) (ops : Array Oper) (n m t0 : Nat) : Bool :=
  (List.range n).all fun i => match ops[i]? with
    | some o => (match o.dst with | some d => decide (d < m) | none => i == t0) && o.after.all (fun e => !Region.binds md e || decide (e.on < i)) &&
        (o.looksAt ops).all (fun d => (List.range n).all fun j => match ops[j]? with
          | some p => p.dst != some d || o.after.any (fun e => Region.binds md e && e.on == j)
          | none => true) &&
        (List.range n).all (fun j => j == i || match ops[j]? with
          | some p => p.dst != o.dst
          | none => true)
    | none => false
theorem depsOk2_spec {n m t0 : Nat} (h : depsOk2 md ops n m t0 = true) {i : Nat} (hi : i < n) : ∃ o, ops[i]? = some o ∧ (∀ d, o.dst = some d → d < m) ∧ (i ≠ t0 → ∃ d, o.dst = some d) ∧ (∀ e ∈ o.after, Region.binds md e = true → e.on < i) ∧
    (∀ d ∈ o.looksAt ops, ∀ j p, j < n → ops[j]? = some p → p.dst = some d → ∃ e ∈ o.after, Region.binds md e = true ∧ e.on = j) ∧
    (∀ j p, j < n → j ≠ i → ops[j]? = some p → p.dst ≠ o.dst) := by
  have h1 := List.all_eq_true.1 h i (List.mem_range.2 hi)
  cases ho : ops[i]? with
  | none => rw [ho] at h1; cases h1
  | some o =>
    rw [ho] at h1
    simp only [Bool.and_eq_true] at h1
    obtain ⟨⟨⟨hd, ha⟩, hl⟩, hs⟩ := h1
    refine ⟨o, rfl, fun d hdd => ?_, fun hit => ?_, fun e he hb => ?_, fun x hx j p hj hp hpd => ?_, fun j p hj hji hp => ?_⟩
    · rw [hdd] at hd; exact of_decide_eq_true hd
    · cases hdd : o.dst with
      | none => rw [hdd] at hd; exact absurd (by simpa using hd) hit
      | some d => exact ⟨d, rfl⟩
    · have := Array.all_eq_true_iff_forall_mem.1 ha e he
      simp only [Bool.or_eq_true, Bool.not_eq_true', decide_eq_true_eq] at this
      exact this.resolve_left (by simp [hb])
    · have := List.all_eq_true.1 (List.all_eq_true.1 hl x hx) j (List.mem_range.2 hj)
      rw [hp] at this
      simp only [Bool.or_eq_true, bne_iff_ne, ne_eq] at this
      rcases this with h' | h'
      · exact absurd hpd h'
      · obtain ⟨e, he, hb⟩ := Array.any_eq_true'.1 h'
        simp only [Bool.and_eq_true, beq_iff_eq] at hb
        exact ⟨e, he, hb.1, hb.2⟩
    · have := List.all_eq_true.1 hs j (List.mem_range.2 hj)
      rw [hp] at this
      simp only [Bool.or_eq_true, beq_iff_eq, bne_iff_ne, ne_eq] at this
      exact fun h => this.resolve_left hji (by rw [h])
/-- The operation t waits for i, by way of others or at once. -/
def reach (md : Region.Mode) (ops : Array Oper) : Nat → Nat → Nat → Bool
  | 0, _, _ => false
  | f + 1, t, i => Region.waitsFor md ops t i || (List.range t).any fun j => Region.waitsFor md ops t j && reach md ops f j i
theorem reach_listed {n : Nat} {listed : Array Bool} (hH : HeadInv md ops n listed) : ∀ (f t i : Nat), reach md ops f t i = true → (∃ ot, ops[t]? = some ot ∧ ∀ e ∈ ot.after, Region.binds md e = true → listed.getD e.on false = true) → listed.getD i false = true
  | 0, t, i, h, _ => by cases h
  | f + 1, t, i, h, ⟨ot, hot, hall⟩ => by
    have direct : ∀ j, Region.waitsFor md ops t j = true → listed.getD j false = true := fun j hj => by
      obtain ⟨o2, ho2, e, he, hb, hon⟩ := Region.waitsFor_spec hj
      obtain rfl : o2 = ot := Option.some.inj (ho2.symm.trans hot)
      rw [← hon]; exact hall e he hb
    simp only [reach, Bool.or_eq_true] at h
    rcases h with h | h
    · exact direct i h
    · obtain ⟨j, _, hj⟩ := List.any_eq_true.1 h
      simp only [Bool.and_eq_true] at hj
      have hl := direct j hj.1
      have hjs : j < listed.size := by
        rcases Nat.lt_or_ge j listed.size with h' | h'
        · exact h'
        · simp [Array.getElem?_eq_none h'] at hl
      have hjo : j < ops.size := by rw [← hH.size]; exact hjs
      exact reach_listed hH f j i hj.2 ⟨ops[j], Array.getElem?_eq_getElem hjo, fun e he hb => hH.closed j _ (Array.getElem?_eq_getElem hjo) hl e he hb⟩
/-- Nothing from n on comes up while something of the head is left. -/
def backB (md : Region.Mode) (ops : Array Oper) (n : Nat) : Bool :=
  (List.range ops.size).all fun t => decide (t < n) || (List.range n).all fun i => reach md ops ops.size t i
theorem backB_spec {n : Nat} (h : backB md ops n = true) : ∀ listed, HeadInv md ops n listed → ∀ i, i < n → listed.getD i true = false → ∀ j ∈ Region.ready md ops listed, j < n := by
  intro listed hH i hi hun j hj
  obtain ⟨_, oj, hoj, hall⟩ := mem_ready.1 hj
  have hjs : j < ops.size := (Array.getElem?_eq_some_iff.1 hoj).1
  have h1 := List.all_eq_true.1 h j (List.mem_range.2 hjs)
  simp only [Bool.or_eq_true, decide_eq_true_eq] at h1
  rcases h1 with h1 | h1
  · exact h1
  · have := reach_listed hH _ j i (List.all_eq_true.1 h1 i (List.mem_range.2 hi)) ⟨oj, hoj, hall⟩
    rw [getD_both hun] at this; cases this
/-- What t0 waits for: all of the head but the late ones. -/
def lateOk2 (md : Region.Mode) (ops : Array Oper) (n t0 : Nat) (late : List Nat) : Bool :=
  (List.range n).all fun i => i == t0 || (late.contains i && (match ops[i]? with | some o => !isAlloc o | none => true)) || reach md ops ops.size t0 i
theorem late2_spec {n t0 : Nat} {late : List Nat} {listed : Array Bool} (hB : lateOk2 md ops n t0 late = true) (hH : HeadInv md ops n listed) (hr : t0 ∈ Region.ready md ops listed) {i : Nat} (hi : i < n) (hit : i ≠ t0) (hil : i ∉ late ∨ ∃ o, ops[i]? = some o ∧ isAlloc o = true) : listed.getD i false = true := by
  have h1 := List.all_eq_true.1 hB i (List.mem_range.2 hi)
  simp only [Bool.or_eq_true, beq_iff_eq, Bool.and_eq_true, List.contains_eq_mem, decide_eq_true_eq] at h1
  obtain ⟨_, o, ho, hall⟩ := mem_ready.1 hr
  rcases h1 with (h1 | h1) | h1
  · exact absurd h1 hit
  · rcases hil with hil | ⟨p, hp, ha⟩
    · exact absurd h1.1 hil
    · have h2 := h1.2; rw [hp] at h2; simp [ha] at h2
  · exact reach_listed hH _ t0 i h1 ⟨o, ho, hall⟩
theorem wpAny_invS2 {S : Nat → Prop} {t0 : Nat} {E : Env} {L : List Value} {n m g : Nat} {ds : List Deferred} {Q' : Exit → Act → World → Prop} (hn : n ≤ ops.size) (hT : ∀ listed, HeadInv md ops n listed → ∀ i, i < n → listed.getD i true = false → ∀ j ∈ Region.ready md ops listed, j < n) (hdep : depsOk2 md ops n m t0 = true) (hS0 : ∀ i, S i → i ≠ t0)
    (hE : ∀ d x, lk E d = some x → entOk C x) (hEo : ∀ d, (∀ i o, i < n → ops[i]? = some o → o.dst ≠ some d) → lk E d = none)
    (hobl : ∀ i o d, i < n → S i → ops[i]? = some o → o.dst = some d → obl P ops C o E L (known E L d)) (hstep : ∀ w w', C.C w → C.R w w' → C.C w')
    (hend : ∀ listed a w, HeadInv md ops n listed → (∀ j, j < n → listed.getD j true = true) → Inv ops C E L n m ds listed a w → wpAny P md ops Q' g listed a w) :
    ∀ (f : Nat) (listed : Array Bool) (a : Act) (w : World), todo listed n = f → HeadInv md ops n listed → (∀ i, i < n → listed.getD i true = false → S i) → Inv ops C E L n m ds listed a w → wpAny P md ops Q' (f + g) listed a w
  | 0, listed, a, w, hf, hH, hS, hI => by rw [Nat.zero_add]; exact hend listed a w hH (todo_zero hf) hI
  | f + 1, listed, a, w, hf, hH, hS, hI => by
    obtain ⟨i0, hi0, hun0, hlow⟩ := todo_pos (listed := listed) (n := n) (by omega)
    have hr0 : i0 ∈ Region.ready md ops listed := by
      obtain ⟨o, ho, _, _, hbe, _⟩ := depsOk2_spec hdep hi0
      exact mem_ready.2 ⟨hun0, o, ho, fun e he hb => getD_or (hlow e.on (hbe e he hb)) (by rw [hH.size]; have := hbe e he hb; omega)⟩
    rw [show f + 1 + g = (f + g) + 1 by omega]
    refine ⟨fun h0 => (by rw [h0] at hr0; cases hr0), fun i hi => ?_⟩
    have hin : i < n := hT listed hH i0 hi0 hun0 i hi
    obtain ⟨hun, o, ho, hall⟩ := mem_ready.1 hi
    have hit : i ≠ t0 := hS0 i (hS i hin hun)
    obtain ⟨o', ho', hdm0, hd0, _, hlooks, hdst⟩ := depsOk2_spec hdep hin
    obtain rfl : o = o' := Option.some.inj (ho.symm.trans ho')
    obtain ⟨d, hd⟩ := hd0 hit
    have hdm := hdm0 d hd
    have hk : ∀ e ∈ o.looksAt ops, known E L e (a.tmps.getD e undef) w := fun e he => by
      by_cases hw : ∃ j p, j < n ∧ ops[j]? = some p ∧ p.dst = some e
      · obtain ⟨j, p, hj, hp, hpe⟩ := hw
        obtain ⟨x, hx, hb, hxj⟩ := hlooks e he j p hj hp hpe
        exact hI.come j p e hj hp hpe (by rw [← hxj]; exact hall x hx hb)
      · have hno : ∀ j p, j < n → ops[j]? = some p → p.dst ≠ some e := fun j p hj hp hpe => hw ⟨j, p, hj, hp, hpe⟩
        unfold known; rw [hEo e hno]; exact hI.other e hno
    have hst := hobl i o d hin (hS i hin hun) ho hd a w hI.cl hk
    have hS' : ∀ k, k < n → (listed.setIfInBounds i true).getD k true = false → S k := fun k hk1 hk2 => hS k hk1 (unset hk2)
    have next : ∀ u w', C.C w' → (∀ v e, known E L e v w → known E L e v w') → known E L d u w' → Inv ops C E L n m ds (listed.setIfInBounds i true) (a.put o.dst u) w' := fun u w' hc hkeep hu => by
      refine ⟨hc, by rw [tmps_put_size]; exact hI.size, by rw [hd]; exact hI.defers, fun j p e hj hp hpe hl => ?_, fun e he => ?_⟩
      · by_cases hij : i = j
        · subst hij
          obtain rfl : o = p := Option.some.inj (ho.symm.trans hp)
          rw [hd] at hpe ⊢
          obtain rfl := Option.some.inj hpe
          rw [tmps_put_same _ _ _ (by rw [hI.size]; exact hdm)]; exact hu
        · rw [getD_set_ne false hij] at hl
          rw [tmps_put_ne _ _ _ _ (fun h => hdst j p hj (Ne.symm hij) hp (hpe.trans h.symm))]
          exact hkeep _ _ (hI.come j p e hj hp hpe hl)
      · rw [tmps_put_ne _ _ _ _ (fun h => he i o hin ho h)]; exact hI.other e he
    unfold wpOp
    simp only [ho]
    unfold stepAt at hst
    have hcnt : todo (listed.setIfInBounds i true) n = f := by have := (todo_set hun n).2 hin; omega
    by_cases hw : Region.wanted o (yielded ops a.tmps) = true
    · rw [if_pos hw] at hst
      rw [if_pos hw]
      refine .inl ?_
      unfold Oper.wp
      refine upon_of_step hst fun u w' hR hV => wpAny_invS2 hn hT hdep hS0 hE hEo hobl hstep hend f _ _ w' hcnt (hH.set hi hin) hS' (next u w' (hstep _ _ hI.cl hR) (fun v e hv => ?_) hV)
      unfold known at hv ⊢
      cases hx : lk E e with
      | none => rw [hx] at hv; exact hv
      | some y =>
        rw [hx] at hv
        cases y with
        | ex v' => exact hv
        | re q => exact hE e _ hx v w w' hI.cl hR hv
    · rw [if_neg hw] at hst
      rw [if_neg hw]
      exact wpAny_invS2 hn hT hdep hS0 hE hEo hobl hstep hend f _ _ w hcnt (hH.set hi hin) hS' (next undef w hI.cl (fun _ _ h => h) hst)

/-- Before the operation t0: any of the others, in whatever order; where t0 is ready it may come up. -/
theorem wpAny_late2 {E : Env} {L : List Value} {Z : TypeId → Value} {n m g B t0 : Nat} {ds : List Deferred} {Q' : Exit → Act → World → Prop} (hn : n ≤ ops.size) (ht0 : t0 < n) (hT : ∀ listed, HeadInv md ops n listed → ∀ i, i < n → listed.getD i true = false → ∀ j ∈ Region.ready md ops listed, j < n) (hdep : depsOk2 md ops n m t0 = true)
    (hE : ∀ d x, lk E d = some x → entOk C x) (hEo : ∀ d, (∀ i o, i < n → i ≠ t0 → ops[i]? = some o → o.dst ≠ some d) → lk E d = none)
    (hobl : ∀ i o d, i < n → i ≠ t0 → ops[i]? = some o → o.dst = some d → obl P ops C o E L (known E L d)) (hstep : ∀ w w', C.C w → C.R w w' → C.C w') (hs : newSlots ops n m = true)
    (hZ : ∀ (i : Nat) (o : Oper) (e : TypeId), ops[i]? = some o → o.op = .alloc e → ∀ w, (zeroValue e).run P w = .ok (Z e) w) (hrb : ∀ w w', C.R w w' → Below w.heap.size w w') (hcb : ∀ w, C.C w → B ≤ w.heap.size)
    (happ : ∀ f listed a w, todoX t0 listed n = f → HeadInv md ops n listed → listed.getD t0 true = false → t0 ∈ Region.ready md ops listed → Inv ops C E L n m ds listed a w → newOk ops Z B n listed a w → wpOp P ops Q' t0 (wpAny P md ops Q' (f + g) (listed.setIfInBounds t0 true)) a w) :
    ∀ (f : Nat) (listed : Array Bool) (a : Act) (w : World), todoX t0 listed n = f → HeadInv md ops n listed → listed.getD t0 true = false → Inv ops C E L n m ds listed a w → newOk ops Z B n listed a w → wpAny P md ops Q' (f + 1 + g) listed a w
  | f, listed, a, w, hf, hH, h0, hI, hN => by
    obtain ⟨i0, hi0, hun0, hlow⟩ := todo_pos (listed := listed) (n := n) (fun h => by rw [todo_zero h t0 ht0] at h0; cases h0)
    have hr0 : i0 ∈ Region.ready md ops listed := by
      obtain ⟨o, ho, _, _, hbe, _⟩ := depsOk2_spec hdep hi0
      exact mem_ready.2 ⟨hun0, o, ho, fun e he hb => getD_or (hlow e.on (hbe e he hb)) (by rw [hH.size]; have := hbe e he hb; omega)⟩
    rw [show f + 1 + g = (f + g) + 1 by omega]
    refine ⟨fun h0 => (by rw [h0] at hr0; cases hr0), fun i hi => ?_⟩
    have hin : i < n := hT listed hH i0 hi0 hun0 i hi
    by_cases hit : i = t0
    · subst hit; exact happ f listed a w hf hH h0 hi hI hN
    obtain ⟨hun, o, ho, hall⟩ := mem_ready.1 hi
    obtain ⟨o', ho', hdm0, hd0, _, hlooks, hdst⟩ := depsOk2_spec hdep hin
    obtain rfl : o = o' := Option.some.inj (ho.symm.trans ho')
    obtain ⟨d, hd⟩ := hd0 hit
    have hdm := hdm0 d hd
    have hk : ∀ e ∈ o.looksAt ops, known E L e (a.tmps.getD e undef) w := fun e he => by
      by_cases hw : ∃ j p, j < n ∧ ops[j]? = some p ∧ p.dst = some e
      · obtain ⟨j, p, hj, hp, hpe⟩ := hw
        obtain ⟨x, hx, hb, hxj⟩ := hlooks e he j p hj hp hpe
        exact hI.come j p e hj hp hpe (by rw [← hxj]; exact hall x hx hb)
      · have hno : ∀ j p, j < n → ops[j]? = some p → p.dst ≠ some e := fun j p hj hp hpe => hw ⟨j, p, hj, hp, hpe⟩
        unfold known; rw [hEo e fun j p hj _ hp => hno j p hj hp]; exact hI.other e hno
    have hst := hobl i o d hin hit ho hd a w hI.cl hk
    have h0' : (listed.setIfInBounds i true).getD t0 true = false := by rw [getD_set_ne true hit]; exact h0
    have next : ∀ u w', C.C w' → (∀ v e, known E L e v w → known E L e v w') → known E L d u w' → Inv ops C E L n m ds (listed.setIfInBounds i true) (a.put o.dst u) w' := fun u w' hc hkeep hu => by
      refine ⟨hc, by rw [tmps_put_size]; exact hI.size, by rw [hd]; exact hI.defers, fun j p e hj hp hpe hl => ?_, fun e he => ?_⟩
      · by_cases hij : i = j
        · subst hij
          obtain rfl : o = p := Option.some.inj (ho.symm.trans hp)
          rw [hd] at hpe ⊢
          obtain rfl := Option.some.inj hpe
          rw [tmps_put_same _ _ _ (by rw [hI.size]; exact hdm)]; exact hu
        · rw [getD_set_ne false hij] at hl
          rw [tmps_put_ne _ _ _ _ (fun h => hdst j p hj (Ne.symm hij) hp (hpe.trans h.symm))]
          exact hkeep _ _ (hI.come j p e hj hp hpe hl)
      · rw [tmps_put_ne _ _ _ _ (fun h => he i o hin ho h)]; exact hI.other e he
    unfold wpOp
    simp only [ho]
    unfold stepAt at hst
    obtain ⟨f, rfl⟩ : ∃ f', f = f' + 1 := ⟨f - 1, by have := todoX_set (t0 := t0) hun hit hin; omega⟩
    have hcnt : todoX t0 (listed.setIfInBounds i true) n = f := by have := todoX_set (t0 := t0) hun hit hin; omega
    by_cases hw : Region.wanted o (yielded ops a.tmps) = true
    · rw [if_pos hw] at hst
      rw [if_pos hw]
      refine .inl ?_
      unfold Oper.wp
      have keep : ∀ w', C.R w w' → ∀ v e, known E L e v w → known E L e v w' := fun w' hR v e hv => by
        unfold known at hv ⊢
        cases hx : lk E e with
        | none => rw [hx] at hv; exact hv
        | some y =>
          rw [hx] at hv
          cases y with
          | ex v' => exact hv
          | re q => exact hE e _ hx v w w' hI.cl hR hv
      by_cases ha : isAlloc o = true
      · obtain ⟨e, he⟩ : ∃ e, o.op = .alloc e := by
          unfold isAlloc at ha
          split at ha
          · rename_i e he; exact ⟨e, he⟩
          · cases ha
        have hr : (execOp a.eval o).run P w = .ok (.value (.pointer (some ⟨w.heap.size, 0, none⟩))) (w.alloc (.cells (Z e).cells e)) := by
          have hz := hZ i o e ho he w
          simp [execOp, he, hz, go_sem]
        rw [hr] at hst ⊢
        obtain ⟨hR, hV⟩ := hst
        simp only [Oper.upon]
        exact wpAny_late2 hn ht0 hT hdep hE hEo hobl hstep hs hZ hrb hcb happ f _ _ _ hcnt (hH.set hi hin) h0' (next _ _ (hstep _ _ hI.cl hR) (keep _ hR) hV) (newOk_alloc (by rw [hI.size]; exact hs) hin ho he (hcb w hI.cl) hN)
      · exact upon_of_step hst fun u w' hR hV => wpAny_late2 hn ht0 hT hdep hE hEo hobl hstep hs hZ hrb hcb happ f _ _ w' hcnt (hH.set hi hin) h0' (next u w' (hstep _ _ hI.cl hR) (keep w' hR) hV) (newOk_step hs hin ho (by simpa using ha) (hrb _ _ hR) hN)
    · rw [if_neg hw] at hst
      rw [if_neg hw]
      have hna : isAlloc o = false := by
        cases ha : isAlloc o with
        | false => rfl
        | true =>
          unfold isAlloc at ha
          split at ha
          · rename_i e he
            have := (newSlots_spec hs hin ho he).1
            rw [Region.wanted, this] at hw
            exact absurd rfl hw
          · cases ha
      exact wpAny_late2 hn ht0 hT hdep hE hEo hobl hstep hs hZ hrb hcb happ f _ _ w hcnt (hH.set hi hin) h0' (next undef w hI.cl (fun _ _ h => h) hst) (newOk_step hs hin ho hna (Below.refl _ _) hN)
  termination_by f => f

/-- What is known behind t0. -/
def envB (dst : Option Tmp) (u : Value) (ks : List (Nat × Value)) (E : Env) : Env :=
  (match dst with | some d => [(d, .ex u)] | none => []) ++ (ks.map fun p => (p.1, .ex p.2)) ++ weak E
theorem lk_append (E : Env) (d : Nat) : ∀ K : Env, lk (K ++ E) d = match lk K d with | some x => some x | none => lk E d
  | [] => rfl
  | (e, x) :: K => by
    show lk ((e, x) :: (K ++ E)) d = _
    rw [lk_cons, lk_cons, lk_append E d K]
    split <;> rfl
theorem lk_ks (d : Nat) : ∀ ks : List (Nat × Value), (∃ v, lk (ks.map fun p => (p.1, Ent.ex p.2)) d = some (.ex v) ∧ (d, v) ∈ ks) ∨ (lk (ks.map fun p => (p.1, Ent.ex p.2)) d = none ∧ ∀ v, (d, v) ∉ ks)
  | [] => .inr ⟨rfl, fun v h => by cases h⟩
  | (e, v) :: ks => by
    show (∃ v', lk ((e, Ent.ex v) :: _) d = _ ∧ _) ∨ (lk ((e, Ent.ex v) :: _) d = _ ∧ _)
    rw [lk_cons]
    by_cases h : d = e
    · subst h; rw [if_pos rfl]; exact .inl ⟨v, rfl, List.mem_cons_self⟩
    · rw [if_neg h]
      rcases lk_ks d ks with ⟨v', h1, h2⟩ | ⟨h1, h2⟩
      · exact .inl ⟨v', h1, List.mem_cons_of_mem _ h2⟩
      · refine .inr ⟨h1, fun v' hm => ?_⟩
        rcases List.mem_cons.1 hm with hm | hm
        · injection hm with h3; exact h h3
        · exact h2 v' hm
theorem envB_lk (dst : Option Tmp) (u : Value) (ks : List (Nat × Value)) (E : Env) (d : Nat) :
    (dst = some d ∧ lk (envB dst u ks E) d = some (.ex u)) ∨ (dst ≠ some d ∧ ((∃ v, (d, v) ∈ ks ∧ lk (envB dst u ks E) d = some (.ex v)) ∨ ((∀ v, (d, v) ∉ ks) ∧ lk (envB dst u ks E) d = (lk E d).map weak1))) := by
  have h2 : lk ((ks.map fun p => (p.1, Ent.ex p.2)) ++ weak E) d = match lk (ks.map fun p => (p.1, Ent.ex p.2)) d with | some x => some x | none => (lk E d).map weak1 := by rw [lk_append, lk_weak]
  have key : (∃ v, (d, v) ∈ ks ∧ lk ((ks.map fun p => (p.1, Ent.ex p.2)) ++ weak E) d = some (.ex v)) ∨ ((∀ v, (d, v) ∉ ks) ∧ lk ((ks.map fun p => (p.1, Ent.ex p.2)) ++ weak E) d = (lk E d).map weak1) := by
    rcases lk_ks d ks with ⟨v, h3, h4⟩ | ⟨h3, h4⟩
    · exact .inl ⟨v, h4, by rw [h2, h3]⟩
    · exact .inr ⟨h4, by rw [h2, h3]⟩
  cases dst with
  | none =>
    refine .inr ⟨by simp, ?_⟩
    simpa only [envB, List.nil_append] using key
  | some e =>
    by_cases h : d = e
    · subst h
      refine .inl ⟨rfl, ?_⟩
      show lk ((d, Ent.ex u) :: _) d = _
      rw [lk_cons, if_pos rfl]
    · refine .inr ⟨fun h' => h (by injection h' with h'; exact h'.symm), ?_⟩
      have e1 : lk (envB (some e) u ks E) d = lk ((ks.map fun p => (p.1, Ent.ex p.2)) ++ weak E) d := by
        show lk ((e, Ent.ex u) :: _) d = _
        rw [lk_cons, if_neg h]; rfl
      rw [e1]; exact key
theorem todo_more {listed : Array Bool} {n : Nat} : ∀ k, (∀ t, n ≤ t → t < n + k → listed.getD t true = false) → todo listed (n + k) = todo listed n + k
  | 0, _ => rfl
  | k + 1, h => by
    rw [← Nat.add_assoc, todo_succ, todo_more k fun t h1 h2 => h t h1 (by omega), h (n + k) (by omega) (by omega)]
    simp; omega
/-- What is asked behind t0. -/
def stage2 (P : Program) (l : List Oper) (L : List Value) (m : Nat) (ds : List Deferred) (Q : Exit → Act → World → Prop) (n n2 : Nat) (late : List Nat) (E : Env) (o : Oper) (a : Act) (a' : Act) (w' : World) : Prop :=
  ∃ (u : Value) (C2 : Cl) (ks : List (Nat × Value)), a' = a.put o.dst u ∧ C2.C w' ∧ (∀ v v', C2.C v → C2.R v v' → C2.C v') ∧ (∀ p ∈ ks, a.tmps.getD p.1 undef = p.2 ∧ o.dst ≠ some p.1 ∧ (lk E p.1).isSome = true) ∧
    chain P l.toArray C2 L ((l.take n2).drop n) (envB o.dst u ks E) (fun F => (∀ i ∈ late, ∀ p e, l[i]? = some p → p.dst = some e → obl P l.toArray C2 p F L (known F L e)) ∧
      chain P l.toArray C2 L [] F (fun F => ∀ a'' w'', C2.C w'' → a''.defers = ds → a''.tmps.size = m → (∀ d, known F L d (a''.tmps.getD d undef) w'') → wpList P l.toArray Q (l.drop n2) a'' w''))
def twoB (l : List Oper) (n m t0 n2 : Nat) (late : List Nat) : Bool :=
  Region.noSelect l.toArray && decide (n ≤ n2) && decide (n2 ≤ l.length) && decide (t0 < n) && (match l[t0]? with | some o => !isAlloc o | none => true) && !late.contains t0 && late.all (fun i => decide (i < n)) && backB .any l.toArray n && backB .any l.toArray n2 && depsOk2 .any l.toArray n m t0 && depsOk2 .any l.toArray n2 m t0 && chainOk l.toArray ((l.take n).eraseIdx t0) && chainOk l.toArray ((l.take n2).drop n) && lateOk2 .any l.toArray n t0 late &&
    Region.seqB .any l.toArray (l.length - n2) n2 (Array.replicate n2 true ++ Array.replicate (l.length - n2) false)

theorem wp_region_two {Z : TypeId → Value} {id : Nat} {Q : Exit → Act → World → Prop} {ds : List Deferred} {L : List Value} {w : World} {l : List Oper} (n m t0 n2 : Nat) (late : List Nat) (T : List TypeId) (hm : P.follows .mixedOrders = true) (hB : twoB l n m t0 n2 late = true) (hs : newSlots l.toArray n m = true) (hT0 : allocTypes l.toArray = T) (hZ : ∀ e, e ∈ T → ∀ w, (zeroValue e).run P w = .ok (Z e) w) (hLm : L.length = m)
    (h : chain P l.toArray (clOld w.drew) L ((l.take n).eraseIdx t0) [] (fun E => ∃ o, l[t0]? = some o ∧ wantB l.toArray o E L = true ∧ ∀ a w1, (clOld w.drew).C w1 → (∀ d ∈ o.looksAt l.toArray, known E L d (a.tmps.getD d undef) w1) →
      newOk l.toArray Z w.heap.size n (Array.replicate l.toArray.size true) a w1 → o.wp P a w1 (stage2 P l L m ds Q n n2 late E o a) Q)) :
    (Code.region id l.toArray true).wp P Q ⟨L.toArray, ds⟩ w := by
  simp only [twoB, Bool.and_eq_true, decide_eq_true_eq] at hB
  obtain ⟨⟨⟨⟨⟨⟨⟨⟨⟨⟨⟨⟨⟨⟨hsel, hnn2⟩, hn2⟩, ht0⟩, hna0⟩, hlt0⟩, hln⟩, hb1⟩, hb2⟩, hdep⟩, hdep2⟩, hch⟩, hch2⟩, hlate⟩, hseq⟩ := hB
  have hn : n ≤ l.length := Nat.le_trans hnn2 hn2
  obtain ⟨E, hK, hE, hEo, hobl⟩ := chain_sound (ops := l.toArray) ((l.take n).eraseIdx t0) [] hch (fun d x h => by cases h) h
  have hsz : l.toArray.size = l.length := by simp
  have memT : ∀ i o, i < n → i ≠ t0 → l.toArray[i]? = some o → o ∈ (l.take n).eraseIdx t0 := fun i o hi hit ho => by
    refine List.mem_eraseIdx_iff_getElem?.2 ⟨i, hit, ?_⟩
    rw [List.getElem?_take, if_pos hi]; simpa using ho
  have memT' : ∀ o ∈ (l.take n).eraseIdx t0, ∃ i, i < n ∧ i ≠ t0 ∧ l.toArray[i]? = some o := fun o ho => by
    obtain ⟨i, hit, hi⟩ := List.mem_eraseIdx_iff_getElem?.1 ho
    rw [List.getElem?_take] at hi
    split at hi
    · rename_i hin; exact ⟨i, hin, hit, by simpa using hi⟩
    · cases hi
  have hnone : ∀ d, (∀ i o, i < n → i ≠ t0 → l.toArray[i]? = some o → o.dst ≠ some d) → lk E d = none := fun d hd => by
    rw [hEo d fun o ho => ?_]; rfl
    obtain ⟨i, hin, hit, hi⟩ := memT' o ho
    exact hd i o hin hit hi
  obtain ⟨o, hlo, hwb, hafter⟩ := hK
  have ho : l.toArray[t0]? = some o := by simpa using hlo
  refine wp_region_any hm ?_
  have hnn : n - 1 + 1 + (l.length - n) = l.toArray.size := by rw [hsz]; omega
  have hrep : ∀ k, k ≤ n → todo ((Array.replicate l.toArray.size false).setIfInBounds t0 true) k = if t0 < k then k - 1 else k := fun k => by
    induction k with
    | zero => intro _; rfl
    | succ k ih =>
      intro hk
      rw [todo_succ, ih (by omega)]
      by_cases hkt : t0 = k
      · subst hkt
        simp [show t0 < l.length by omega]
      · rw [getD_set_ne true hkt]
        simp [show k < l.length by omega]
        split <;> split <;> omega
  have memTy : ∀ (i : Nat) (o : Oper) (e : TypeId), l.toArray[i]? = some o → o.op = .alloc e → e ∈ T := fun i o e ho he => hT0 ▸
    List.mem_filterMap.2 ⟨o, Array.mem_toList_iff.2 (Array.mem_of_getElem? ho), by simp [he]⟩
  suffices H : wpAny P .any l.toArray Q (n - 1 + 1 + (l.length - n)) (Array.replicate l.toArray.size false) ⟨L.toArray, ds⟩ w.drew by rw [hnn] at H; exact H
  refine wpAny_late2 (P := P) (Z := Z) (B := w.heap.size) (md := .any) (Q' := Q) (g := l.length - n) (ds := ds) (m := m) (n := n) (t0 := t0) (C := clOld w.drew) (E := E) (L := L) (by rw [hsz]; exact hn) ht0 (backB_spec hb1) hdep hE hnone (fun i p e hi hit hp he => hobl p (memT i p hi hit hp) e he) (fun _ _ h hb => Old.step h hb) hs (fun i o e ho he => hZ e (memTy i o e ho he)) (fun _ _ h => h) (fun w1 h => show w.drew.heap.size ≤ w1.heap.size from (show Below w.drew.heap.size w.drew w1 from h).size) ?_
    (n - 1) (Array.replicate l.toArray.size false) ⟨L.toArray, ds⟩ w.drew (by unfold todoX; rw [hrep n (Nat.le_refl _), if_pos ht0])
    ⟨by simp, fun j oj _ hl => (by rw [getD_replicate_false] at hl; cases hl), fun t _ ht => getD_in (by simpa using ht) (getD_replicate_false _ _)⟩ (getD_in (by simp; omega) (getD_replicate_false _ _))
    ⟨Below.refl _ _, by simpa using hLm, rfl, fun i o d _ _ _ hl => (by rw [getD_replicate_false] at hl; cases hl), fun d _ => (by rw [slotL_eq]; simp)⟩
    ⟨fun i o e d hi hl => (by rw [getD_replicate_false] at hl; cases hl), fun i k o p e e' d d' b _ _ _ hl => (by rw [getD_replicate_false] at hl; cases hl)⟩
  intro f listed a w1 hf hH ht hr hI hN
  obtain ⟨o', ho', hdm0, _, _, hlooks, hdst⟩ := depsOk2_spec hdep ht0
  obtain rfl : o = o' := Option.some.inj (ho.symm.trans ho')
  have hall : ∀ e ∈ o.after, Region.binds .any e = true → listed.getD e.on false = true := by
    obtain ⟨_, o2, ho2, hall⟩ := mem_ready.1 hr
    obtain rfl : o = o2 := Option.some.inj (ho.symm.trans ho2)
    exact hall
  have hk : ∀ e ∈ o.looksAt l.toArray, known E L e (a.tmps.getD e undef) w1 := fun e he => by
    by_cases hw : ∃ j p, j < n ∧ l.toArray[j]? = some p ∧ p.dst = some e
    · obtain ⟨j, p, hj, hp, hpe⟩ := hw
      obtain ⟨x, hx, hb, hxj⟩ := hlooks e he j p hj hp hpe
      exact hI.come j p e hj hp hpe (by rw [← hxj]; exact hall x hx hb)
    · have hno : ∀ j p, j < n → l.toArray[j]? = some p → p.dst ≠ some e := fun j p hj hp hpe => hw ⟨j, p, hj, hp, hpe⟩
      unfold known; rw [hnone e fun j p hj _ hp => hno j p hj hp]; exact hI.other e hno
  have hnl : ∀ i (q : Oper) (e : TypeId), i < n → l.toArray[i]? = some q → q.op = .alloc e → listed.getD i false = true := fun i q e hi hq he => by
    by_cases hit : i = t0
    · subst hit
      have h2 := hna0
      rw [show l[i]? = some q by simpa using hq] at h2
      simp [isAlloc, he] at h2
    · exact late2_spec hlate hH hr hi hit (.inr ⟨q, hq, by simp [isAlloc, he]⟩)
  have hN' : newOk l.toArray Z w.heap.size n (Array.replicate l.toArray.size true) a w1 :=
    ⟨fun i o e d hi _ ho he hg hd => hN.1 i o e d hi (hnl i o e hi ho he) ho he hg hd, fun i k o p e e' d d' b hi hk hne _ _ ho hp he he' hg hg' hd hd' hb => hN.2 i k o p e e' d d' b hi hk hne (hnl i o e hi ho he) (hnl k p e' hk hp he') ho hp he he' hg hg' hd hd' hb⟩
  have hwp := hafter a w1 hI.cl hk hN'
  unfold wpOp
  simp only [ho]
  rw [if_pos (wanted_of hwb hk)]
  refine .inl (Oper.wp_mono (fun a' w' hst => ?_) hwp)
  obtain ⟨u, C2, ks, rfl, hC2, hstep2, hks, hc2⟩ := hst
  have hEnv : ∀ e x, lk (envB o.dst u ks E) e = some x → entOk C2 x := fun e x hx => by
    rcases envB_lk o.dst u ks E e with ⟨_, h⟩ | ⟨_, ⟨v, _, h⟩ | ⟨_, h⟩⟩
    · rw [h] at hx; cases hx; trivial
    · rw [h] at hx; cases hx; trivial
    · rw [h] at hx
      cases hy : lk E e with
      | none => rw [hy] at hx; cases hx
      | some y =>
        rw [hy] at hx
        cases y with
        | ex v => cases hx; trivial
        | re q => cases hx; exact fun _ _ _ _ _ h => h
  obtain ⟨F, ⟨hlobl, hend⟩, hF, hsame, hobl2⟩ := chain_sound (ops := l.toArray) ((l.take n2).drop n) _ hch2 hEnv hc2
  have mem2 : ∀ i q, n ≤ i → i < n2 → l.toArray[i]? = some q → q ∈ (l.take n2).drop n := fun i q h1 h2 hq => by
    have : ((l.take n2).drop n)[i - n]? = some q := by
      rw [List.getElem?_drop, show n + (i - n) = i by omega, List.getElem?_take, if_pos h2]; simpa using hq
    exact List.mem_of_getElem? this
  have mem2' : ∀ q ∈ (l.take n2).drop n, ∃ i, n ≤ i ∧ i < n2 ∧ l.toArray[i]? = some q := fun q hq => by
    obtain ⟨k, hk⟩ := List.getElem?_of_mem hq
    rw [List.getElem?_drop, List.getElem?_take] at hk
    split at hk
    · rename_i h; exact ⟨n + k, by omega, h, by simpa using hk⟩
    · cases hk
  have hnone2 : ∀ e, (∀ i p, i < n2 → l.toArray[i]? = some p → p.dst ≠ some e) → lk F e = none := fun e he => by
    rw [hsame e fun q hq => by obtain ⟨i, _, h2, hi⟩ := mem2' q hq; exact he i q h2 hi]
    have h0 := hnone e fun i p hi _ hp => he i p (by omega) hp
    rcases envB_lk o.dst u ks E e with ⟨h, _⟩ | ⟨_, ⟨v, h, _⟩ | ⟨_, h⟩⟩
    · exact absurd h (he t0 o (by omega) ho)
    · have := (hks _ h).2.2
      rw [h0] at this; cases this
    · rw [h, h0]; rfl
  obtain ⟨o2, ho2, _, _, _, _, hdst2⟩ := depsOk2_spec hdep2 (i := t0) (by omega)
  obtain rfl : o = o2 := Option.some.inj (ho.symm.trans ho2)
  have hnew : ∀ j p e, j < n → l.toArray[j]? = some p → p.dst = some e → ∀ q ∈ (l.take n2).drop n, q.dst ≠ some e := fun j p e hj hp hpe q hq => by
    obtain ⟨i, h1, h2, hi⟩ := mem2' q hq
    obtain ⟨p2, hp2, _, _, _, _, hd2⟩ := depsOk2_spec hdep2 (i := j) (by omega)
    obtain rfl : p = p2 := Option.some.inj (hp.symm.trans hp2)
    have := hd2 i q h2 (by omega) hi
    rw [hpe] at this; exact this
  have kw : ∀ e, o.dst ≠ some e → (∀ q ∈ (l.take n2).drop n, q.dst ≠ some e) → known E L e (a.tmps.getD e undef) w1 → known F L e (a.tmps.getD e undef) w' := fun e hed hq hv => by
    unfold known at hv ⊢
    rw [hsame e hq]
    rcases envB_lk o.dst u ks E e with ⟨h, _⟩ | ⟨_, ⟨v, h, h'⟩ | ⟨_, h⟩⟩
    · exact absurd h hed
    · rw [h']; exact (hks _ h).1
    · rw [h]
      cases hy : lk E e with
      | none => rw [hy] at hv; exact hv
      | some y =>
        rw [hy] at hv
        cases y with
        | ex v => exact hv
        | re q => exact trivial
  have hI2 : Inv l.toArray C2 F L n2 m ds (listed.setIfInBounds t0 true) (a.put o.dst u) w' := by
    refine ⟨hC2, by rw [tmps_put_size]; exact hI.size, ?_, fun j p e hj hp hpe hl => ?_, fun e he => ?_⟩
    · have hd := hI.defers
      cases hdd : o.dst <;> exact hd
    · by_cases hij : t0 = j
      · subst hij
        obtain rfl : o = p := Option.some.inj (ho.symm.trans hp)
        rw [hpe, tmps_put_same _ _ _ (by rw [hI.size]; exact hdm0 e hpe)]
        unfold known
        rw [hsame e (hnew t0 o e ht0 ho hpe)]
        rcases envB_lk o.dst u ks E e with ⟨_, h⟩ | ⟨h, _⟩
        · rw [h]
        · exact absurd hpe h
      · rw [getD_set_ne false hij] at hl
        have hjn : j < n := by
          rcases Nat.lt_or_ge j n with h' | h'
          · exact h'
          · have h3 := hH.tail j h' (by rw [hsz]; omega)
            rw [getD_both h3] at hl; cases hl
        have hne := hdst j p hjn (Ne.symm hij) hp
        have hed : o.dst ≠ some e := fun h => hne (by rw [hpe, h])
        rw [tmps_put_ne _ _ _ _ hed]
        exact kw e hed (hnew j p e hjn hp hpe) (hI.come j p e hjn hp hpe hl)
    · rw [tmps_put_ne _ _ _ _ (fun h => he t0 o (by omega) ho h)]; exact hI.other e fun i p hi hp => he i p (by omega) hp
  have hH2 : HeadInv .any l.toArray n2 listed := ⟨hH.size, hH.closed, fun t h1 h2 => hH.tail t (by omega) h2⟩
  have hunl : ∀ t, n ≤ t → t < n + (n2 - n) → (listed.setIfInBounds t0 true).getD t true = false := fun t h1 h2 => by
    rw [getD_set_ne true (by omega)]; exact hH.tail t h1 (by rw [hsz]; omega)
  have hf2 : todo (listed.setIfInBounds t0 true) n2 = f + (n2 - n) := by
    have := todo_more (n2 - n) hunl
    rw [show n + (n2 - n) = n2 by omega] at this
    rw [this]; unfold todoX at hf; rw [hf]
  rw [show f + (l.length - n) = (f + (n2 - n)) + (l.length - n2) by omega]
  refine wpAny_invS2 (S := fun i => i ∈ late ∨ (n ≤ i ∧ i < n2)) (t0 := t0) (P := P) (md := .any) (Q' := Q) (g := l.length - n2) (ds := ds) (m := m) (n := n2) (C := C2) (E := F) (L := L) (by rw [hsz]; exact hn2) (backB_spec hb2) hdep2
    (fun i hS h => by
      subst h
      rcases hS with hS | hS
      · have : late.contains i = true := by simpa using hS
        rw [this] at hlt0; cases hlt0
      · omega) hF hnone2
    (fun i p e hi hS hp he => by
      rcases hS with hS | hS
      · exact hlobl i hS p e (by simpa using hp) he
      · exact hobl2 p (mem2 i p hS.1 hS.2 hp) e he) hstep2 ?_ _ _ _ w' hf2 (hH2.set hr (by omega)) (fun i hi hun => ?_) hI2
  · intro listed a w2 hH hall hI
    have hlist : listed = Array.replicate n2 true ++ Array.replicate (l.length - n2) false := by
      apply Array.ext_getElem?
      intro j
      have hs := hH.size
      rw [hsz] at hs
      by_cases hj : j < n2
      · have h1 := hall j hj
        have hjs : j < listed.size := by omega
        rw [Array.getElem?_append_left (by simpa using hj)]
        simp [hjs, hj] at h1 ⊢; exact h1
      · by_cases hj2 : j < l.length
        · have h1 := hH.tail j (by omega) (by rw [hsz]; exact hj2)
          have hjs : j < listed.size := by omega
          rw [Array.getElem?_append_right (by simpa using (by omega : n2 ≤ j))]
          simp [hjs] at h1 ⊢
          rw [Array.getElem?_replicate, if_pos (by omega), h1]
        · rw [Array.getElem?_eq_none (by omega), Array.getElem?_eq_none (by simp; omega)]
    have hdl : (l.drop n2).length = l.length - n2 := by simp
    have := wpAny_of_seq (md := .any) (P := P) (ops := l.toArray) (Q' := Q) (l.drop n2) n2 listed a w2 (fun j => by simp [List.getElem?_drop]) (by rw [hdl, hlist]; exact hseq) (hend a w2 hI.cl hI.defers hI.size (fun d => by
      by_cases hw : ∃ j p, j < n2 ∧ l.toArray[j]? = some p ∧ p.dst = some d
      · obtain ⟨j, p, hj, hp, hpe⟩ := hw
        exact hI.come j p d hj hp hpe (getD_or (hall j hj) (by have := hH.size; rw [hsz] at this; omega))
      · have hno : ∀ j p, j < n2 → l.toArray[j]? = some p → p.dst ≠ some d := fun j p hj hp hpe => hw ⟨j, p, hj, hp, hpe⟩
        unfold known; rw [hnone2 d hno]; exact hI.other d hno))
    rw [hdl] at this; exact this
  · by_cases hin : n ≤ i
    · exact .inr ⟨hin, hi⟩
    · have hun' := unset hun
      have hit : i ≠ t0 := fun h => by
        subst h
        have hlt : i < listed.size := by rw [hH.size, hsz]; omega
        simp [hlt] at hun
      by_cases hil : i ∈ late
      · exact .inl hil
      · have := late2_spec hlate hH hr (by omega) hit (.inl hil)
        rw [getD_both hun'] at this; cases this
theorem wp_of_skip {o : Oper} {a : Act} {w w' : World} {K : Act → World → Prop} {Q : Exit → Act → World → Prop} (h : (execOp a.eval o).run P w = .ok .skip w') (hK : K (a.put o.dst undef) w') : o.wp P a w K Q := by
  unfold Oper.wp; rw [h]; exact hK
theorem wp_of_value {o : Oper} {a : Act} {w w' : World} {u : Value} {K : Act → World → Prop} {Q : Exit → Act → World → Prop} (h : (execOp a.eval o).run P w = .ok (.value u) w') (hK : K (a.put o.dst u) w') : o.wp P a w K Q := by
  unfold Oper.wp; rw [h]; exact hK
theorem wp_of_enter {o : Oper} {a : Act} {w : World} {f : FuncId} {args : Array Value} {K : Act → World → Prop} {Q : Exit → Act → World → Prop} (h : (execOp a.eval o).run P w = .ok (.enter f args) w) (hc : Calls P f args w fun e w' => ∃ v, e = .returned v ∧ K (a.put o.dst v) w') : o.wp P a w K Q := by
  unfold Oper.wp; rw [h]
  exact hc.mono fun e w' ⟨v, he, hk⟩ => by subst he; exact hk
theorem eval_of1 {o : Oper} {E : Env} {L : List Value} {a : Act} {w : World} (k : Nat) (he : ∀ x, exB ops o ((k, .ex x) :: E) = true) (hk : ∀ d ∈ o.looksAt ops, known E L d (a.tmps.getD d undef) w) :
    ∀ x ∈ o.op.operands, a.eval x = evE ((k, .ex (a.tmps.getD k undef)) :: E) L x :=
  eval_of (w := w) (he _) fun e hx => by
    unfold known
    rw [lk_cons]
    by_cases h1 : e = k
    · subst h1; rw [if_pos rfl]
    · rw [if_neg h1]; exact hk e hx
/-- An operation that looks at its slots alone. -/
theorem obl_pure {o : Oper} {E : Env} {L : List Value} {d : Nat} (v : Value) (hr : ∀ w, C.C w → C.R w w) (hsel : ∀ cs b, o.op ≠ .select cs b) (hw : wantB ops o E L = true) (he : exB ops o E = true) (hl : lk E d = some (.ex v))
    (h : ∀ w, C.C w → (execOp (evE E L) o).run P w = .ok (.value v) w) : obl P ops C o E L (known E L d) :=
  obl_ex hsel hw he fun w hw' => by
    rw [h w hw']; exact ⟨hr w hw', by unfold known; rw [hl]⟩
end Go.Proofs.YthjeiaildabadaaGreat
