/- A region that draws its order and holds an append that does not wait for all the rest. -/
import Derived.Test.YthjeiaildabadaaGreatIw
namespace Go.Proofs.YthjeiaildabadaaGreat
set_option linter.unusedSimpArgs false
set_option linter.unusedVariables false
open Go Go.RowKit
variable {P : Program} {ops : Array Oper} {C : Cl} {md : Region.Mode}

theorem unset {listed : Array Bool} {i k : Nat} (h : (listed.setIfInBounds i true).getD k true = false) : listed.getD k true = false := by
  by_cases hik : i = k
  · subst hik
    by_cases hl : i < listed.size
    · simp [hl] at h
    · simp [Array.getElem?_eq_none (Nat.le_of_not_lt hl)] at h
  · rwa [getD_set_ne true hik] at h
/-- How many of the first n but t0 are still to come. -/
def todoX (t0 : Nat) (listed : Array Bool) (n : Nat) : Nat := todo (listed.setIfInBounds t0 true) n
theorem todoX_set {t0 : Nat} {listed : Array Bool} {i n : Nat} (hi : listed.getD i true = false) (hit : i ≠ t0) (hin : i < n) : todoX t0 (listed.setIfInBounds i true) n + 1 = todoX t0 listed n := by
  unfold todoX
  rw [Array.setIfInBounds_comm _ _ hit]
  exact (todo_set (by rw [getD_set_ne true (Ne.symm hit)]; exact hi) n).2 hin
theorem wpAny_invS {S : Nat → Prop} {E : Env} {L : List Value} {n m g : Nat} {ds : List Deferred} {Q' : Exit → Act → World → Prop} (hn : n ≤ ops.size) (hT : tailLast md ops n = true) (hdep : depsOk md ops n m = true)
    (hE : ∀ d x, lk E d = some x → entOk C x) (hEo : ∀ d, (∀ i o, i < n → ops[i]? = some o → o.dst ≠ some d) → lk E d = none)
    (hobl : ∀ i o d, i < n → S i → ops[i]? = some o → o.dst = some d → obl P ops C o E L (known E L d)) (hstep : ∀ w w', C.C w → C.R w w' → C.C w')
    (hend : ∀ listed a w, HeadInv md ops n listed → (∀ j, j < n → listed.getD j true = true) → Inv ops C E L n m ds listed a w → wpAny P md ops Q' g listed a w) :
    ∀ (f : Nat) (listed : Array Bool) (a : Act) (w : World), todo listed n = f → HeadInv md ops n listed → (∀ i, i < n → listed.getD i true = false → S i) → Inv ops C E L n m ds listed a w → wpAny P md ops Q' (f + g) listed a w
  | 0, listed, a, w, hf, hH, hS, hI => by rw [Nat.zero_add]; exact hend listed a w hH (todo_zero hf) hI
  | f + 1, listed, a, w, hf, hH, hS, hI => by
    obtain ⟨i0, hi0, hun0, hlow⟩ := todo_pos (listed := listed) (n := n) (by omega)
    have hr0 : i0 ∈ Region.ready md ops listed := by
      obtain ⟨o, d, ho, _, _, hbe, _⟩ := depsOk_spec hdep hi0
      exact mem_ready.2 ⟨hun0, o, ho, fun e he hb => getD_or (hlow e.on (hbe e he hb)) (by rw [hH.size]; have := hbe e he hb; omega)⟩
    rw [show f + 1 + g = (f + g) + 1 by omega]
    refine ⟨fun h0 => (by rw [h0] at hr0; cases hr0), fun i hi => ?_⟩
    have hin : i < n := ready_head hT hH i0 hi0 hun0 i hi
    obtain ⟨hun, o, ho, hall⟩ := mem_ready.1 hi
    obtain ⟨o', d, ho', hd, hdm, _, hlooks, hdst⟩ := depsOk_spec hdep hin
    obtain rfl : o = o' := Option.some.inj (ho.symm.trans ho')
    have hk : ∀ e ∈ o.looksAt ops, known E L e (a.tmps.getD e undef) w := fun e he => by
      by_cases hw : ∃ j p, j < n ∧ ops[j]? = some p ∧ p.dst = some e
      · obtain ⟨j, p, hj, hp, hpe⟩ := hw
        obtain ⟨x, hx, hb, hxj⟩ := hlooks e he j p hj hp hpe
        exact hI.come j p e hj hp hpe (by rw [← hxj]; exact hall x hx hb)
      · have hno : ∀ j p, j < n → ops[j]? = some p → p.dst ≠ some e := fun j p hj hp hpe => hw ⟨j, p, hj, hp, hpe⟩
        unfold known; rw [hEo e hno]; exact hI.other e hno
    have hst := hobl i o d hin (hS i hin hun) ho hd a w hI.cl hk
    have hS' : ∀ k, k < n → (listed.setIfInBounds i true).getD k true = false → S k := fun k hk1 hk2 => hS k hk1 (unset hk2)
    have next : ∀ u w', C.C w' → (∀ v e, known E L e v w → known E L e v w') → known E L d u w' → Inv ops C E L n m ds (listed.setIfInBounds i true) (a.put o.dst u) w' := fun u w' hc hkeep hu => by
      refine ⟨hc, by rw [tmps_put_size]; exact hI.size, by rw [hd]; exact hI.defers, fun j p e hj hp hpe hl => ?_, fun e he => ?_⟩
      · by_cases hij : i = j
        · subst hij
          obtain rfl : o = p := Option.some.inj (ho.symm.trans hp)
          rw [hd] at hpe ⊢
          obtain rfl := Option.some.inj hpe
          rw [tmps_put_same _ _ _ (by rw [hI.size]; exact hdm)]; exact hu
        · rw [getD_set_ne false hij] at hl
          rw [tmps_put_ne _ _ _ _ (fun h => hdst j p hj (Ne.symm hij) hp (hpe.trans h.symm))]
          exact hkeep _ _ (hI.come j p e hj hp hpe hl)
      · rw [tmps_put_ne _ _ _ _ (fun h => he i o hin ho h)]; exact hI.other e he
    unfold wpOp
    simp only [ho]
    unfold stepAt at hst
    have hcnt : todo (listed.setIfInBounds i true) n = f := by have := (todo_set hun n).2 hin; omega
    by_cases hw : Region.wanted o (yielded ops a.tmps) = true
    · rw [if_pos hw] at hst
      rw [if_pos hw]
      refine .inl ?_
      unfold Oper.wp
      refine upon_of_step hst fun u w' hR hV => wpAny_invS hn hT hdep hE hEo hobl hstep hend f _ _ w' hcnt (hH.set hi hin) hS' (next u w' (hstep _ _ hI.cl hR) (fun v e hv => ?_) hV)
      unfold known at hv ⊢
      cases hx : lk E e with
      | none => rw [hx] at hv; exact hv
      | some y =>
        rw [hx] at hv
        cases y with
        | ex v' => exact hv
        | re q => exact hE e _ hx v w w' hI.cl hR hv
    · rw [if_neg hw] at hst
      rw [if_neg hw]
      exact wpAny_invS hn hT hdep hE hEo hobl hstep hend f _ _ w hcnt (hH.set hi hin) hS' (next undef w hI.cl (fun _ _ h => h) hst)

/-- Before the operation t0: any of the others, in whatever order; where t0 is ready it may come up. -/
theorem wpAny_late {E : Env} {L : List Value} {n m g t0 : Nat} {ds : List Deferred} {Q' : Exit → Act → World → Prop} (hn : n ≤ ops.size) (ht0 : t0 < n) (hT : tailLast md ops n = true) (hdep : depsOk md ops n m = true)
    (hE : ∀ d x, lk E d = some x → entOk C x) (hEo : ∀ d, (∀ i o, i < n → i ≠ t0 → ops[i]? = some o → o.dst ≠ some d) → lk E d = none)
    (hobl : ∀ i o d, i < n → i ≠ t0 → ops[i]? = some o → o.dst = some d → obl P ops C o E L (known E L d)) (hstep : ∀ w w', C.C w → C.R w w' → C.C w')
    (happ : ∀ f listed a w, todoX t0 listed n = f → HeadInv md ops n listed → listed.getD t0 true = false → t0 ∈ Region.ready md ops listed → Inv ops C E L n m ds listed a w → wpOp P ops Q' t0 (wpAny P md ops Q' (f + g) (listed.setIfInBounds t0 true)) a w) :
    ∀ (f : Nat) (listed : Array Bool) (a : Act) (w : World), todoX t0 listed n = f → HeadInv md ops n listed → listed.getD t0 true = false → Inv ops C E L n m ds listed a w → wpAny P md ops Q' (f + 1 + g) listed a w
  | f, listed, a, w, hf, hH, h0, hI => by
    obtain ⟨i0, hi0, hun0, hlow⟩ := todo_pos (listed := listed) (n := n) (fun h => by rw [todo_zero h t0 ht0] at h0; cases h0)
    have hr0 : i0 ∈ Region.ready md ops listed := by
      obtain ⟨o, d, ho, _, _, hbe, _⟩ := depsOk_spec hdep hi0
      exact mem_ready.2 ⟨hun0, o, ho, fun e he hb => getD_or (hlow e.on (hbe e he hb)) (by rw [hH.size]; have := hbe e he hb; omega)⟩
    rw [show f + 1 + g = (f + g) + 1 by omega]
    refine ⟨fun h0 => (by rw [h0] at hr0; cases hr0), fun i hi => ?_⟩
    have hin : i < n := ready_head hT hH i0 hi0 hun0 i hi
    by_cases hit : i = t0
    · subst hit; exact happ f listed a w hf hH h0 hi hI
    obtain ⟨hun, o, ho, hall⟩ := mem_ready.1 hi
    obtain ⟨o', d, ho', hd, hdm, _, hlooks, hdst⟩ := depsOk_spec hdep hin
    obtain rfl : o = o' := Option.some.inj (ho.symm.trans ho')
    have hk : ∀ e ∈ o.looksAt ops, known E L e (a.tmps.getD e undef) w := fun e he => by
      by_cases hw : ∃ j p, j < n ∧ ops[j]? = some p ∧ p.dst = some e
      · obtain ⟨j, p, hj, hp, hpe⟩ := hw
        obtain ⟨x, hx, hb, hxj⟩ := hlooks e he j p hj hp hpe
        exact hI.come j p e hj hp hpe (by rw [← hxj]; exact hall x hx hb)
      · have hno : ∀ j p, j < n → ops[j]? = some p → p.dst ≠ some e := fun j p hj hp hpe => hw ⟨j, p, hj, hp, hpe⟩
        unfold known; rw [hEo e fun j p hj _ hp => hno j p hj hp]; exact hI.other e hno
    have hst := hobl i o d hin hit ho hd a w hI.cl hk
    have h0' : (listed.setIfInBounds i true).getD t0 true = false := by rw [getD_set_ne true hit]; exact h0
    have next : ∀ u w', C.C w' → (∀ v e, known E L e v w → known E L e v w') → known E L d u w' → Inv ops C E L n m ds (listed.setIfInBounds i true) (a.put o.dst u) w' := fun u w' hc hkeep hu => by
      refine ⟨hc, by rw [tmps_put_size]; exact hI.size, by rw [hd]; exact hI.defers, fun j p e hj hp hpe hl => ?_, fun e he => ?_⟩
      · by_cases hij : i = j
        · subst hij
          obtain rfl : o = p := Option.some.inj (ho.symm.trans hp)
          rw [hd] at hpe ⊢
          obtain rfl := Option.some.inj hpe
          rw [tmps_put_same _ _ _ (by rw [hI.size]; exact hdm)]; exact hu
        · rw [getD_set_ne false hij] at hl
          rw [tmps_put_ne _ _ _ _ (fun h => hdst j p hj (Ne.symm hij) hp (hpe.trans h.symm))]
          exact hkeep _ _ (hI.come j p e hj hp hpe hl)
      · rw [tmps_put_ne _ _ _ _ (fun h => he i o hin ho h)]; exact hI.other e he
    unfold wpOp
    simp only [ho]
    unfold stepAt at hst
    obtain ⟨f, rfl⟩ : ∃ f', f = f' + 1 := ⟨f - 1, by have := todoX_set (t0 := t0) hun hit hin; omega⟩
    have hcnt : todoX t0 (listed.setIfInBounds i true) n = f := by have := todoX_set (t0 := t0) hun hit hin; omega
    by_cases hw : Region.wanted o (yielded ops a.tmps) = true
    · rw [if_pos hw] at hst
      rw [if_pos hw]
      refine .inl ?_
      unfold Oper.wp
      refine upon_of_step hst fun u w' hR hV => wpAny_late hn ht0 hT hdep hE hEo hobl hstep happ f _ _ w' hcnt (hH.set hi hin) h0' (next u w' (hstep _ _ hI.cl hR) (fun v e hv => ?_) hV)
      unfold known at hv ⊢
      cases hx : lk E e with
      | none => rw [hx] at hv; exact hv
      | some y =>
        rw [hx] at hv
        cases y with
        | ex v' => exact hv
        | re q => exact hE e _ hx v w w' hI.cl hR hv
    · rw [if_neg hw] at hst
      rw [if_neg hw]
      exact wpAny_late hn ht0 hT hdep hE hEo hobl hstep happ f _ _ w hcnt (hH.set hi hin) h0' (next undef w hI.cl (fun _ _ h => h) hst)

  termination_by f => f

def weak1 : Ent → Ent
  | .ex v => .ex v
  | .re _ => .re fun _ _ => True
/-- The words forgotten. -/
def weak : Env → Env
  | [] => []
  | (e, x) :: l => (e, weak1 x) :: weak l
theorem lk_weak (d : Nat) : ∀ E : Env, lk (weak E) d = (lk E d).map weak1
  | [] => rfl
  | (e, x) :: l => by
    show lk ((e, weak1 x) :: weak l) d = _
    rw [lk_cons, lk_cons, lk_weak d l]
    split <;> rfl
/-- This world and no other. -/
def clAt (w : World) : Cl := ⟨fun v => v = w, fun a b => a = b⟩
/-- What t0 has not waited for. -/
def lateOk (md : Region.Mode) (ops : Array Oper) (n t0 : Nat) (late : List Nat) : Bool :=
  (List.range n).all fun i => i == t0 || late.contains i || (List.range n).any fun j => decide (i < j) && !late.contains j && decide (j ≤ t0) && Region.waitsFor md ops j i
theorem late_spec {n t0 : Nat} {late : List Nat} {listed : Array Bool} (hB : lateOk md ops n t0 late = true) (hH : HeadInv md ops n listed) (hr : t0 ∈ Region.ready md ops listed) :
    ∀ (k i : Nat), n - i = k → i < n → i ≠ t0 → i ∉ late → listed.getD i false = true := by
  intro k
  induction k using Nat.strongRecOn with
  | _ k ih =>
    intro i hk hi hit hil
    have h1 := List.all_eq_true.1 hB i (List.mem_range.2 hi)
    simp only [Bool.or_eq_true, beq_iff_eq, List.contains_eq_mem, decide_eq_true_eq] at h1
    rcases h1 with (h1 | h1) | h1
    · exact absurd h1 hit
    · exact absurd h1 hil
    · obtain ⟨j, hj, hj2⟩ := List.any_eq_true.1 h1
      simp only [Bool.and_eq_true, decide_eq_true_eq, Bool.not_eq_true', decide_eq_false_iff_not] at hj2
      obtain ⟨⟨⟨hij, hjl⟩, hjt⟩, hw⟩ := hj2
      obtain ⟨oj, hoj, e, he, hb, hon⟩ := Region.waitsFor_spec hw
      have hjn : j < n := List.mem_range.1 hj
      have hjl' : j ∉ late := by simpa using hjl
      by_cases hjt0 : j = t0
      · subst hjt0
        obtain ⟨_, o, ho, hall⟩ := mem_ready.1 hr
        obtain rfl : oj = o := Option.some.inj (hoj.symm.trans ho)
        rw [← hon]; exact hall e he hb
      · rw [← hon]; exact hH.closed j oj hoj (ih (n - j) (by omega) j rfl hjn hjt0 hjl') e he hb

/-- What is asked of t0 and of what comes behind it. -/
def afterOk (P : Program) (l : List Oper) (L : List Value) (m : Nat) (ds : List Deferred) (Q : Exit → Act → World → Prop) (n t0 : Nat) (late : List Nat) (C : Cl) (E : Env) : Prop :=
  ∃ o d, l[t0]? = some o ∧ o.dst = some d ∧ o.guard = none ∧ ∀ (a : Act) (w : World), C.C w → (∀ d ∈ o.looksAt l.toArray, known E L d (a.tmps.getD d undef) w) →
    ∃ u w', (execOp a.eval o).run P w = .ok (.value u) w' ∧
      (∀ i ∈ late, ∀ p e, l[i]? = some p → p.dst = some e → obl P l.toArray (clAt w') p ((d, .ex u) :: weak E) L (known ((d, .ex u) :: weak E) L e)) ∧
      chain P l.toArray (clAt w') L [] ((d, .ex u) :: weak E) (fun E => ∀ a' w'', (clAt w').C w'' → a'.defers = ds → a'.tmps.size = m → (∀ d, known E L d (a'.tmps.getD d undef) w'') → wpList P l.toArray Q (l.drop n) a' w'')

/-- The closed check. -/
def lateB (l : List Oper) (n m t0 : Nat) (late : List Nat) : Bool :=
  Region.noSelect l.toArray && decide (n ≤ l.length) && decide (t0 < n) && tailLast .any l.toArray n && depsOk .any l.toArray n m && chainOk l.toArray ((l.take n).eraseIdx t0) && lateOk .any l.toArray n t0 late &&
    Region.seqB .any l.toArray (l.length - n) n (Array.replicate n true ++ Array.replicate (l.length - n) false)

theorem wp_region_late {C : Cl} {id : Nat} {Q : Exit → Act → World → Prop} {ds : List Deferred} {L : List Value} {w : World} {l : List Oper} (n m t0 : Nat) (late : List Nat) (hm : P.follows .mixedOrders = true) (hB : lateB l n m t0 late = true) (hLm : L.length = m)
    (hstep : ∀ w w', C.C w → C.R w w' → C.C w') (h0 : C.C w.drew)
    (h : chain P l.toArray C L ((l.take n).eraseIdx t0) [] (afterOk P l L m ds Q n t0 late C)) :
    (Code.region id l.toArray true).wp P Q ⟨L.toArray, ds⟩ w := by
  simp only [lateB, Bool.and_eq_true, decide_eq_true_eq] at hB
  obtain ⟨⟨⟨⟨⟨⟨⟨hsel, hn⟩, ht0⟩, hT⟩, hdep⟩, hch⟩, hlate⟩, hseq⟩ := hB
  obtain ⟨E, hK, hE, hEo, hobl⟩ := chain_sound (ops := l.toArray) ((l.take n).eraseIdx t0) [] hch (fun d x h => by cases h) h
  have hsz : l.toArray.size = l.length := by simp
  have memT : ∀ i o, i < n → i ≠ t0 → l.toArray[i]? = some o → o ∈ (l.take n).eraseIdx t0 := fun i o hi hit ho => by
    refine List.mem_eraseIdx_iff_getElem?.2 ⟨i, hit, ?_⟩
    rw [List.getElem?_take, if_pos hi]; simpa using ho
  have memT' : ∀ o ∈ (l.take n).eraseIdx t0, ∃ i, i < n ∧ i ≠ t0 ∧ l.toArray[i]? = some o := fun o ho => by
    obtain ⟨i, hit, hi⟩ := List.mem_eraseIdx_iff_getElem?.1 ho
    rw [List.getElem?_take] at hi
    split at hi
    · rename_i hin; exact ⟨i, hin, hit, by simpa using hi⟩
    · cases hi
  have hnone : ∀ d, (∀ i o, i < n → i ≠ t0 → l.toArray[i]? = some o → o.dst ≠ some d) → lk E d = none := fun d hd => by
    rw [hEo d fun o ho => ?_]; rfl
    obtain ⟨i, hin, hit, hi⟩ := memT' o ho
    exact hd i o hin hit hi
  obtain ⟨o, d, hlo, hd, hgu, hafter⟩ := hK
  have ho : l.toArray[t0]? = some o := by simpa using hlo
  refine wp_region_any hm ?_
  have hnn : n - 1 + 1 + (l.length - n) = l.toArray.size := by rw [hsz]; omega
  have hrep : ∀ k, k ≤ n → todo ((Array.replicate l.toArray.size false).setIfInBounds t0 true) k = if t0 < k then k - 1 else k := fun k => by
    induction k with
    | zero => intro _; rfl
    | succ k ih =>
      intro hk
      rw [todo_succ, ih (by omega)]
      by_cases hkt : t0 = k
      · subst hkt
        simp [show t0 < l.length by omega]
      · rw [getD_set_ne true hkt]
        simp [show k < l.length by omega]
        split <;> split <;> omega
  suffices H : wpAny P .any l.toArray Q (n - 1 + 1 + (l.length - n)) (Array.replicate l.toArray.size false) ⟨L.toArray, ds⟩ w.drew by rw [hnn] at H; exact H
  refine wpAny_late (P := P) (md := .any) (Q' := Q) (g := l.length - n) (ds := ds) (m := m) (n := n) (t0 := t0) (C := C) (E := E) (L := L) (by rw [hsz]; exact hn) ht0 hT hdep hE hnone (fun i p e hi hit hp he => hobl p (memT i p hi hit hp) e he) hstep ?_
    (n - 1) (Array.replicate l.toArray.size false) ⟨L.toArray, ds⟩ w.drew (by unfold todoX; rw [hrep n (Nat.le_refl _), if_pos ht0])
    ⟨by simp, fun j oj _ hl => (by rw [getD_replicate_false] at hl; cases hl), fun t _ ht => getD_in (by simpa using ht) (getD_replicate_false _ _)⟩ (getD_in (by simp; omega) (getD_replicate_false _ _))
    ⟨h0, by simpa using hLm, rfl, fun i o d _ _ _ hl => (by rw [getD_replicate_false] at hl; cases hl), fun d _ => (by rw [slotL_eq]; simp)⟩
  intro f listed a w1 hf hH ht hr hI
  obtain ⟨o', d', ho', hd', hdm, _, hlooks, hdst⟩ := depsOk_spec hdep ht0
  obtain rfl : o = o' := Option.some.inj (ho.symm.trans ho')
  obtain rfl : d = d' := Option.some.inj (hd.symm.trans hd')
  have hall : ∀ e ∈ o.after, Region.binds .any e = true → listed.getD e.on false = true := by
    obtain ⟨_, o2, ho2, hall⟩ := mem_ready.1 hr
    obtain rfl : o = o2 := Option.some.inj (ho.symm.trans ho2)
    exact hall
  have hk : ∀ e ∈ o.looksAt l.toArray, known E L e (a.tmps.getD e undef) w1 := fun e he => by
    by_cases hw : ∃ j p, j < n ∧ l.toArray[j]? = some p ∧ p.dst = some e
    · obtain ⟨j, p, hj, hp, hpe⟩ := hw
      obtain ⟨x, hx, hb, hxj⟩ := hlooks e he j p hj hp hpe
      exact hI.come j p e hj hp hpe (by rw [← hxj]; exact hall x hx hb)
    · have hno : ∀ j p, j < n → l.toArray[j]? = some p → p.dst ≠ some e := fun j p hj hp hpe => hw ⟨j, p, hj, hp, hpe⟩
      unfold known; rw [hnone e fun j p hj _ hp => hno j p hj hp]; exact hI.other e hno
  obtain ⟨u, w', hrun, hobl2, hend⟩ := hafter a w1 hI.cl hk
  unfold wpOp
  simp only [ho]
  have hwant : Region.wanted o (yielded l.toArray a.tmps) = true := by unfold Region.wanted; rw [hgu]
  rw [if_pos hwant]
  refine .inl ?_
  unfold Oper.wp
  rw [hrun]
  show wpAny P .any l.toArray Q (f + (l.length - n)) (listed.setIfInBounds t0 true) (a.put o.dst u) w'
  have hE2 : ∀ e x, lk ((d, .ex u) :: weak E) e = some x → entOk (clAt w') x := fun e x hx => by
    rw [lk_cons] at hx
    split at hx
    · cases hx; trivial
    · rw [lk_weak] at hx
      cases hy : lk E e with
      | none => rw [hy] at hx; cases hx
      | some y =>
        rw [hy] at hx
        cases y with
        | ex v => cases hx; trivial
        | re q => cases hx; exact fun _ _ _ _ _ h => h
  have hEo2 : ∀ e, (∀ i p, i < n → l.toArray[i]? = some p → p.dst ≠ some e) → lk ((d, .ex u) :: weak E) e = none := fun e he => by
    rw [lk_cons, if_neg (fun h => he t0 o ht0 ho (by rw [hd, h])), lk_weak, hnone e fun i p hi _ hp => he i p hi hp]; rfl
  have kw : ∀ e v, known E L e v w1 → e ≠ d → known ((d, .ex u) :: weak E) L e v w' := fun e v hv hed => by
    unfold known at hv ⊢
    rw [lk_cons, if_neg hed, lk_weak]
    cases hy : lk E e with
    | none => rw [hy] at hv; exact hv
    | some y =>
      rw [hy] at hv
      cases y with
      | ex v => exact hv
      | re q => exact trivial
  have hI2 : Inv l.toArray (clAt w') ((d, .ex u) :: weak E) L n m ds (listed.setIfInBounds t0 true) (a.put o.dst u) w' := by
    refine ⟨rfl, by rw [tmps_put_size]; exact hI.size, by rw [hd]; exact hI.defers, fun j p e hj hp hpe hl => ?_, fun e he => ?_⟩
    · by_cases hij : t0 = j
      · subst hij
        obtain rfl : o = p := Option.some.inj (ho.symm.trans hp)
        obtain rfl : d = e := Option.some.inj (hd.symm.trans hpe)
        rw [hd, tmps_put_same _ _ _ (by rw [hI.size]; exact hdm)]
        unfold known; rw [lk_cons, if_pos rfl]
      · rw [getD_set_ne false hij] at hl
        have hne := hdst j p hj (Ne.symm hij) hp
        rw [tmps_put_ne _ _ _ _ (fun h => hne (hpe.trans h.symm))]
        exact kw _ _ (hI.come j p e hj hp hpe hl) (fun h => hne (by rw [hpe, hd, h]))
    · rw [tmps_put_ne _ _ _ _ (fun h => he t0 o ht0 ho h)]; exact hI.other e he
  refine wpAny_invS (S := fun i => i ∈ late) (P := P) (md := .any) (Q' := Q) (g := l.length - n) (ds := ds) (m := m) (n := n) (C := clAt w') (E := (d, .ex u) :: weak E) (L := L) (by rw [hsz]; exact hn) hT hdep hE2 hEo2
    (fun i p e hi hS hp he => hobl2 i hS p e (by simpa using hp) he) (fun a b h1 h2 => by cases h1; cases h2; rfl) ?_ f _ _ w' hf (hH.set hr ht0) (fun i hi hun => ?_) hI2
  · intro listed a w2 hH hall hI
    have hlist : listed = Array.replicate n true ++ Array.replicate (l.length - n) false := by
      apply Array.ext_getElem?
      intro j
      have hs := hH.size
      rw [hsz] at hs
      by_cases hj : j < n
      · have h1 := hall j hj
        have hjs : j < listed.size := by omega
        rw [Array.getElem?_append_left (by simpa using hj)]
        simp [hjs, hj] at h1 ⊢; exact h1
      · by_cases hj2 : j < l.length
        · have h1 := hH.tail j (by omega) (by rw [hsz]; exact hj2)
          have hjs : j < listed.size := by omega
          rw [Array.getElem?_append_right (by simpa using (by omega : n ≤ j))]
          simp [hjs] at h1 ⊢
          rw [Array.getElem?_replicate, if_pos (by omega), h1]
        · rw [Array.getElem?_eq_none (by omega), Array.getElem?_eq_none (by simp; omega)]
    have hdl : (l.drop n).length = l.length - n := by simp
    have := wpAny_of_seq (md := .any) (P := P) (ops := l.toArray) (Q' := Q) (l.drop n) n listed a w2 (fun j => by simp [List.getElem?_drop]) (by rw [hdl, hlist]; exact hseq) (hend a w2 hI.cl hI.defers hI.size (fun d => by
      by_cases hw : ∃ j p, j < n ∧ l.toArray[j]? = some p ∧ p.dst = some d
      · obtain ⟨j, p, hj, hp, hpe⟩ := hw
        exact hI.come j p d hj hp hpe (getD_or (hall j hj) (by have := hH.size; rw [hsz] at this; omega))
      · have hno : ∀ j p, j < n → l.toArray[j]? = some p → p.dst ≠ some d := fun j p hj hp hpe => hw ⟨j, p, hj, hp, hpe⟩
        unfold known; rw [hEo2 d hno]; exact hI.other d hno))
    rw [hdl] at this; exact this
  · have hun' := unset hun
    have hit : i ≠ t0 := fun h => by
      subst h
      have hlt : i < listed.size := by rw [hH.size, hsz]; omega
      simp [hlt] at hun
    by_cases hil : i ∈ late
    · exact hil
    · have := late_spec hlate hH hr (n - i) i rfl hi hit hil
      rw [getD_both hun'] at this; cases this

/-- Two slots are known by a word alone. -/
theorem eval_of2 {o : Oper} {E : Env} {L : List Value} {a : Act} {w : World} (k1 k2 : Nat) (he : ∀ x y, exB ops o ((k1, .ex x) :: (k2, .ex y) :: E) = true) (hk : ∀ d ∈ o.looksAt ops, known E L d (a.tmps.getD d undef) w) :
    ∀ x ∈ o.op.operands, a.eval x = evE ((k1, .ex (a.tmps.getD k1 undef)) :: (k2, .ex (a.tmps.getD k2 undef)) :: E) L x :=
  eval_of (w := w) (he _ _) fun e hx => by
    unfold known
    rw [lk_cons, lk_cons]
    by_cases h1 : e = k1
    · subst h1; rw [if_pos rfl]
    · rw [if_neg h1]
      by_cases h2 : e = k2
      · subst h2; rw [if_pos rfl]
      · rw [if_neg h2]; exact hk e hx
theorem word_of {o : Oper} {E : Env} {L : List Value} {a : Act} {w : World} {k : Nat} {q : Word} (hk : ∀ d ∈ o.looksAt ops, known E L d (a.tmps.getD d undef) w) (hq : lk E k = some (.re q)) (hl : (o.looksAt ops).contains k = true) : q (a.tmps.getD k undef) w := by
  have := hk k (by simpa using hl)
  unfold known at this; rw [hq] at this; exact this
/-- An operation that looks at the world as it stands, behind the append. -/
theorem obl_at {w : World} {o : Oper} {E : Env} {L : List Value} {d : Nat} (v : Value) (hsel : ∀ cs b, o.op ≠ .select cs b) (hw : wantB ops o E L = true) (he : exB ops o E = true) (hl : lk E d = some (.ex v))
    (h : (execOp (evE E L) o).run P w = .ok (.value v) w) : obl P ops (clAt w) o E L (known E L d) :=
  obl_ex hsel hw he fun w' hw' => by
    obtain rfl : w' = w := hw'
    rw [h]; exact ⟨rfl, by unfold known; rw [hl]⟩
theorem exec_append {o : Oper} {ρ : Operand → Value} {s x : Operand} {t tn : TypeId} {w w' : World} {v : Value} (ho : o.op = .call { callee := .builtin .append, args := #[s, x], argTypes := #[t, tn] })
    (hr : (Builtin.append_ #[t, tn] o.type #[ρ s, ρ x]).run P w = .ok v w') : (execOp ρ o).run P w = .ok (.value v) w' := by
  unfold execOp
  simp only [ho, resolve, invoke, builtin, Sem.run_bind, Sem.run_pure, Result.andThen_ok, List.map_toArray, List.map_cons, List.map_nil, hr]
theorem after_app {l : List Oper} {L : List Value} {m : Nat} {ds : List Deferred} {Q : Exit → Act → World → Prop} {n t0 : Nat} {late : List Nat} {E : Env} {o : Oper} {d : Nat} (s k : Nat) {t tn : TypeId} (ho : l[t0]? = some o) (hd : o.dst = some d) (hg : o.guard = none)
    (hop : o.op = .call { callee := .builtin .append, args := #[.tmp s, .tmp k], argTypes := #[t, tn] }) (hls : (o.looksAt l.toArray).contains s = true) (hlk : (o.looksAt l.toArray).contains k = true)
    (h : ∀ x y w, C.C w → known E L s x w → known E L k y w → ∃ u w', (Builtin.append_ #[t, tn] o.type #[x, y]).run P w = .ok u w' ∧
      (∀ i ∈ late, ∀ p e, l[i]? = some p → p.dst = some e → obl P l.toArray (clAt w') p ((d, .ex u) :: weak E) L (known ((d, .ex u) :: weak E) L e)) ∧
      chain P l.toArray (clAt w') L [] ((d, .ex u) :: weak E) (fun E => ∀ a' w'', (clAt w').C w'' → a'.defers = ds → a'.tmps.size = m → (∀ d, known E L d (a'.tmps.getD d undef) w'') → wpList P l.toArray Q (l.drop n) a' w'')) :
    chain P l.toArray C L [] E (afterOk P l L m ds Q n t0 late C) :=
  ⟨o, d, ho, hd, hg, fun a w hC hk => by
    obtain ⟨u, w', h1, h2, h3⟩ := h (a.tmps.getD s undef) (a.tmps.getD k undef) w hC (hk s (by simpa using hls)) (hk k (by simpa using hlk))
    exact ⟨u, w', exec_append hop h1, h2, h3⟩⟩
theorem wp_region_late_old {id : Nat} {Q : Exit → Act → World → Prop} {ds : List Deferred} {L : List Value} {w : World} {l : List Oper} (n m t0 : Nat) (late : List Nat) (hm : P.follows .mixedOrders = true) (hB : lateB l n m t0 late = true) (hLm : L.length = m)
    (h : chain P l.toArray (clOld w.drew) L ((l.take n).eraseIdx t0) [] (afterOk P l L m ds Q n t0 late (clOld w.drew))) :
    (Code.region id l.toArray true).wp P Q ⟨L.toArray, ds⟩ w :=
  wp_region_late (C := clOld w.drew) n m t0 late hm hB hLm (fun _ _ h hb => Old.step h hb) (Below.refl _ _) h
end Go.Proofs.YthjeiaildabadaaGreat
