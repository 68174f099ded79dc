/- A region that draws its order, operation by operation: each yields a value that its own word allows, whatever came before it; so the order does not matter. -/
import Derived.Test.YtlllmoafhfjbbaaGreatReg
namespace Go.Proofs.YtlllmoafhfjbbaaGreat
set_option linter.unusedSimpArgs false
set_option linter.unusedVariables false
open Go Go.RowKit

abbrev Word := Value → World → Prop
/-- What is asked of an operation's run at w: it yields a value that V allows; R holds. -/
def stepUpon (P : Program) (R : World → World → Prop) (V : Word) (w : World) : Result Next → Prop
  | .ok (.value u) w' => R w w' ∧ V u w'
  | .ok .skip w' => R w w' ∧ V undef w'
  | .ok (.enter f args) w' => Calls P f args w' (fun e w'' => ∃ u, e = .returned u ∧ R w w'' ∧ V u w'')
  | .ok (.row row args) w' => Rows P row args w' (fun u w'' => R w w'' ∧ V u w'')
  | _ => False
theorem upon_of_step {P : Program} {o : Oper} {a : Act} {K : Act → World → Prop} {Q' : Exit → Act → World → Prop} {R : World → World → Prop} {w : World} {V : Word} {r : Result Next}
    (h : stepUpon P R V w r) (hK : ∀ u w', R w w' → V u w' → K (a.put o.dst u) w') : o.upon P a K Q' r := by
  cases r with
  | ok n w' =>
    cases n <;> simp only [stepUpon] at h <;> simp only [Oper.upon]
    case value u => exact hK _ _ h.1 h.2
    case skip => exact hK _ _ h.1 h.2
    case enter f args => exact h.mono fun e w'' ⟨u, he, hb, hv⟩ => by subst he; exact hK _ _ hb hv
    case row row args => exact h.mono fun u w'' ⟨hb, hv⟩ => hK _ _ hb hv
  | halt x w' => simp only [stepUpon] at h
theorem stepUpon_mono {P : Program} {R : World → World → Prop} {V V' : Word} {w : World} {r : Result Next} (hV : ∀ u w', R w w' → V u w' → V' u w') (h : stepUpon P R V w r) : stepUpon P R V' w r := by
  cases r with
  | ok n w' =>
    cases n <;> simp only [stepUpon] at h ⊢
    case value u => exact ⟨h.1, hV _ _ h.1 h.2⟩
    case skip => exact ⟨h.1, hV _ _ h.1 h.2⟩
    case enter f args => exact h.mono fun e w'' ⟨u, he, hb, hv⟩ => ⟨u, he, hb, hV _ _ hb hv⟩
    case row row args => exact h.mono fun u w'' ⟨hb, hv⟩ => ⟨hb, hV _ _ hb hv⟩
  | halt x w' => simp only [stepUpon] at h

/-- What is known of a slot: its value, or a word that it meets. -/
inductive Ent where
  | ex (v : Value)
  | re (q : Word)
abbrev Env := List (Nat × Ent)
def lk : Env → Nat → Option Ent
  | [], _ => none
  | (e, x) :: l, d => bif Nat.beq d e then some x else lk l d
theorem lk_cons (e : Nat) (x : Ent) (l : Env) (d : Nat) : lk ((e, x) :: l) d = if d = e then some x else lk l d := by
  show (bif Nat.beq d e then some x else lk l d) = _
  by_cases h : d = e
  · subst h; simp
  · rw [if_neg h]
    cases hb : Nat.beq d e with
    | true => exact absurd (Nat.eq_of_beq_eq_true hb) h
    | false => rfl
/-- The word of a slot. -/
def known (E : Env) (L : List Value) (d : Nat) : Word := fun v w =>
  match lk E d with
  | some (.ex u) => v = u
  | some (.re q) => q v w
  | none => v = slotL L d

variable {P : Program} {ops : Array Oper} {C : Cl} {md : Region.Mode}
/-- The step that an operation takes in a state. -/
def stepAt (P : Program) (ops : Array Oper) (C : Cl) (o : Oper) (V : Word) (a : Act) (w : World) : Prop :=
  if Region.wanted o (yielded ops a.tmps) = true then stepUpon P C.R V w ((execOp a.eval o).run P w) else V undef w
/-- In every state that is as known, the operation takes its step. -/
def obl (P : Program) (ops : Array Oper) (C : Cl) (o : Oper) (E : Env) (L : List Value) (V : Word) : Prop :=
  ∀ (a : Act) (w : World), C.C w → (∀ d ∈ o.looksAt ops, known E L d (a.tmps.getD d undef) w) → stepAt P ops C o V a w
/-- A word that lasts. -/
def lasts (C : Cl) (q : Word) : Prop := ∀ v w w', C.C w → C.R w w' → q v w → q v w'
def entWord : Ent → Word
  | .ex v => fun u _ => u = v
  | .re q => q
def entOk (C : Cl) : Ent → Prop
  | .ex _ => True
  | .re q => lasts C q
/-- The operations in the text's order, each with what is known of the slot that it writes. -/
def chain (P : Program) (ops : Array Oper) (C : Cl) (L : List Value) : List Oper → Env → (Env → Prop) → Prop
  | [], E, K => K E
  | o :: rest, E, K => ∃ d x, o.dst = some d ∧ entOk C x ∧ obl P ops C o E L (entWord x) ∧ chain P ops C L rest ((d, x) :: E) K
/-- No operation looks at a slot that it or a later one writes; none writes what a later one writes. -/
def chainOk (ops : Array Oper) : List Oper → Bool
  | [] => true
  | o :: rest => (o :: rest).all (fun p => match p.dst with | some e => !(o.looksAt ops).contains e | none => false) && rest.all (fun p => p.dst != o.dst) && chainOk ops rest

theorem known_ext {E E' : Env} {L : List Value} {d : Nat} {v : Value} {w : World} (h : lk E d = lk E' d) : known E L d v w ↔ known E' L d v w := by
  unfold known; rw [h]

theorem chain_sound {L : List Value} {K : Env → Prop} : ∀ (l : List Oper) (E : Env), chainOk ops l = true → (∀ d x, lk E d = some x → entOk C x) → chain P ops C L l E K →
    ∃ F, K F ∧ (∀ d x, lk F d = some x → entOk C x) ∧ (∀ d, (∀ o ∈ l, o.dst ≠ some d) → lk F d = lk E d) ∧
      (∀ o ∈ l, ∀ d, o.dst = some d → obl P ops C o F L (known F L d))
  | [], E, _, hE, h => ⟨E, h, hE, fun _ _ => rfl, fun _ h => by cases h⟩
  | o :: rest, E, hok, hE, ⟨d, x, hd, hx, ho, hr⟩ => by
    simp only [chainOk, Bool.and_eq_true] at hok
    obtain ⟨⟨hlook, hdst⟩, hrest⟩ := hok
    have hE' : ∀ e y, lk ((d, x) :: E) e = some y → entOk C y := fun e y he => by
      rw [lk_cons] at he
      split at he
      · cases he; exact hx
      · exact hE e y he
    obtain ⟨F, hK, hF, hsame, hobl⟩ := chain_sound rest _ hrest hE' hr
    have hno : ∀ p ∈ o :: rest, ∀ e ∈ o.looksAt ops, p.dst ≠ some e := fun p hp e he hpe => by
      have := List.all_eq_true.1 hlook p hp
      rw [hpe] at this
      simp only [Bool.not_eq_true', List.contains_eq_mem, decide_eq_false_iff_not] at this
      exact this he
    have hd2 : ∀ p ∈ rest, p.dst ≠ some d := fun p hp hpe => by
      have := List.all_eq_true.1 hdst p hp
      rw [hpe, hd] at this
      simp at this
    have hFd : lk F d = some x := by rw [hsame d hd2, lk_cons, if_pos rfl]
    refine ⟨F, hK, hF, fun e he => ?_, fun p hp e hpe => ?_⟩
    · rw [hsame e fun p hp => he p (List.mem_cons_of_mem _ hp), lk_cons, if_neg]
      rintro rfl; exact he o (List.mem_cons_self) hd
    · rcases List.mem_cons.1 hp with rfl | hp'
      · rw [hd] at hpe
        obtain rfl := Option.some.inj hpe
        intro a w hw hk
        have hk' : ∀ e ∈ p.looksAt ops, known E L e (a.tmps.getD e undef) w := fun e he => by
          refine (known_ext ?_).1 (hk e he)
          rw [hsame e fun p' hp' => hno p' (List.mem_cons_of_mem _ hp') e he, lk_cons, if_neg]
          rintro rfl; exact hno p List.mem_cons_self e he hd
        have h1 := ho a w hw hk'
        have hVV : ∀ u w', entWord x u w' → known F L d u w' := fun u w' hu => by
          unfold known; rw [hFd]
          cases x with
          | ex v => exact hu
          | re q => exact hu
        unfold stepAt at h1 ⊢
        split
        · rename_i hwd; rw [if_pos hwd] at h1; exact stepUpon_mono (fun u w' _ => hVV u w') h1
        · rename_i hwd; rw [if_neg hwd] at h1; exact hVV _ _ h1
      · exact hobl p hp' e hpe

/-! ### Whatever order -/
/-- How many of the first n are still to come. -/
def todo (listed : Array Bool) (n : Nat) : Nat := (List.range n).countP fun j => !listed.getD j true
theorem todo_succ (listed : Array Bool) (n : Nat) : todo listed (n + 1) = todo listed n + (if listed.getD n true = true then 0 else 1) := by
  unfold todo
  rw [List.range_succ, List.countP_append, List.countP_singleton]
  cases listed.getD n true <;> rfl
theorem todo_set {listed : Array Bool} {i : Nat} (hi : listed.getD i true = false) : ∀ n, (n ≤ i → todo (listed.setIfInBounds i true) n = todo listed n) ∧ (i < n → todo (listed.setIfInBounds i true) n + 1 = todo listed n)
  | 0 => ⟨fun _ => rfl, fun h => absurd h (by omega)⟩
  | n + 1 => by
    obtain ⟨h1, h2⟩ := todo_set hi n
    have hlt : i < listed.size := by
      rcases Nat.lt_or_ge i listed.size with h' | h'
      · exact h'
      · simp [Array.getElem?_eq_none h'] at hi
    rw [todo_succ, todo_succ]
    refine ⟨fun h => ?_, fun h => ?_⟩
    · rw [h1 (by omega), getD_set_ne true (by omega)]
    · by_cases hin : i < n
      · have := h2 hin
        rw [getD_set_ne true (by omega)]; omega
      · obtain rfl : i = n := by omega
        rw [h1 (Nat.le_refl _), hi]
        have : (listed.setIfInBounds i true).getD i true = true := by simp [hlt]
        rw [this]; simp
theorem todo_zero {listed : Array Bool} : ∀ {n : Nat}, todo listed n = 0 → ∀ j, j < n → listed.getD j true = true
  | 0, _, j, hj => absurd hj (by omega)
  | n + 1, h, j, hj => by
    rw [todo_succ] at h
    by_cases hjn : j < n
    · exact todo_zero (by omega) j hjn
    · obtain rfl : j = n := by omega
      cases hx : listed.getD j true with
      | true => rfl
      | false => rw [hx] at h; simp at h
theorem todo_pos {listed : Array Bool} : ∀ {n : Nat}, todo listed n ≠ 0 → ∃ i, i < n ∧ listed.getD i true = false ∧ ∀ j, j < i → listed.getD j true = true
  | 0, h => absurd rfl h
  | n + 1, h => by
    by_cases h0 : todo listed n = 0
    · rw [todo_succ, h0] at h
      cases hx : listed.getD n true with
      | true => rw [hx] at h; simp at h
      | false => exact ⟨n, by omega, hx, todo_zero h0⟩
    · obtain ⟨i, hi, h1, h2⟩ := todo_pos h0
      exact ⟨i, by omega, h1, h2⟩

/-- Each operation of the head waits only for earlier ones, and for all those that write what it looks at; it writes a slot. -/
def depsOk (md : Region.Mode) (ops : Array Oper) (n m : Nat) : Bool :=
  (List.range n).all fun i => match ops[i]? with
    | some o => (match o.dst with | some d => decide (d < m) | none => false) && o.after.all (fun e => !Region.binds md e || decide (e.on < i)) &&
        (o.looksAt ops).all (fun d => (List.range n).all fun j => match ops[j]? with
          | some p => p.dst != some d || o.after.any (fun e => Region.binds md e && e.on == j)
          | none => true) &&
        (List.range n).all (fun j => j == i || match ops[j]? with
          | some p => p.dst != o.dst
          | none => true)
    | none => false
theorem depsOk_spec {n m : Nat} (h : depsOk md ops n m = true) {i : Nat} (hi : i < n) : ∃ o d, ops[i]? = some o ∧ o.dst = some d ∧ d < m ∧ (∀ e ∈ o.after, Region.binds md e = true → e.on < i) ∧
    (∀ d ∈ o.looksAt ops, ∀ j p, j < n → ops[j]? = some p → p.dst = some d → ∃ e ∈ o.after, Region.binds md e = true ∧ e.on = j) ∧
    (∀ j p, j < n → j ≠ i → ops[j]? = some p → p.dst ≠ o.dst) := by
  have h1 := List.all_eq_true.1 h i (List.mem_range.2 hi)
  cases ho : ops[i]? with
  | none => rw [ho] at h1; cases h1
  | some o =>
    rw [ho] at h1
    simp only [Bool.and_eq_true] at h1
    obtain ⟨⟨⟨hd, ha⟩, hl⟩, hs⟩ := h1
    cases hdd : o.dst with
    | none => rw [hdd] at hd; cases hd
    | some d =>
      rw [hdd] at hd
      refine ⟨o, d, rfl, hdd, of_decide_eq_true hd, fun e he hb => ?_, fun x hx j p hj hp hpd => ?_, fun j p hj hji hp => ?_⟩
      · have := Array.all_eq_true_iff_forall_mem.1 ha e he
        simp only [Bool.or_eq_true, Bool.not_eq_true', decide_eq_true_eq] at this
        exact this.resolve_left (by simp [hb])
      · have := List.all_eq_true.1 (List.all_eq_true.1 hl x hx) j (List.mem_range.2 hj)
        rw [hp] at this
        simp only [Bool.or_eq_true, bne_iff_ne, ne_eq] at this
        rcases this with h' | h'
        · exact absurd hpd h'
        · obtain ⟨e, he, hb⟩ := Array.any_eq_true'.1 h'
          simp only [Bool.and_eq_true, beq_iff_eq] at hb
          exact ⟨e, he, hb.1, hb.2⟩
      · have := List.all_eq_true.1 hs j (List.mem_range.2 hj)
        rw [hp] at this
        simp only [Bool.or_eq_true, beq_iff_eq, bne_iff_ne, ne_eq] at this
        exact fun h => this.resolve_left hji (by rw [h])

/-- The state: what has come up is as known, the rest as it was. -/
structure Inv (ops : Array Oper) (C : Cl) (E : Env) (L : List Value) (n m : Nat) (ds : List Deferred) (listed : Array Bool) (a : Act) (w : World) : Prop where
  cl : C.C w
  size : a.tmps.size = m
  defers : a.defers = ds
  come : ∀ i o d, i < n → ops[i]? = some o → o.dst = some d → listed.getD i false = true → known E L d (a.tmps.getD d undef) w
  other : ∀ d, (∀ i o, i < n → ops[i]? = some o → o.dst ≠ some d) → a.tmps.getD d undef = slotL L d

theorem getD_or {listed : Array Bool} {j : Nat} (h : listed.getD j true = true) (hj : j < listed.size) : listed.getD j false = true := by
  simp [hj] at h ⊢; exact h

theorem wpAny_inv {E : Env} {L : List Value} {n m g : Nat} {ds : List Deferred} {Q' : Exit → Act → World → Prop} (hn : n ≤ ops.size) (hT : tailLast md ops n = true) (hdep : depsOk md ops n m = true)
    (hE : ∀ d x, lk E d = some x → entOk C x) (hEo : ∀ d, (∀ i o, i < n → ops[i]? = some o → o.dst ≠ some d) → lk E d = none)
    (hobl : ∀ i o d, i < n → ops[i]? = some o → o.dst = some d → obl P ops C o E L (known E L d)) (hstep : ∀ w w', C.C w → C.R w w' → C.C w')
    (hend : ∀ listed a w, HeadInv md ops n listed → (∀ j, j < n → listed.getD j true = true) → Inv ops C E L n m ds listed a w → wpAny P md ops Q' g listed a w) :
    ∀ (f : Nat) (listed : Array Bool) (a : Act) (w : World), todo listed n = f → HeadInv md ops n listed → Inv ops C E L n m ds listed a w → wpAny P md ops Q' (f + g) listed a w
  | 0, listed, a, w, hf, hH, hI => by rw [Nat.zero_add]; exact hend listed a w hH (todo_zero hf) hI
  | f + 1, listed, a, w, hf, hH, hI => by
    obtain ⟨i0, hi0, hun0, hlow⟩ := todo_pos (listed := listed) (n := n) (by omega)
    have hr0 : i0 ∈ Region.ready md ops listed := by
      obtain ⟨o, d, ho, _, _, hbe, _⟩ := depsOk_spec hdep hi0
      exact mem_ready.2 ⟨hun0, o, ho, fun e he hb => getD_or (hlow e.on (hbe e he hb)) (by rw [hH.size]; have := hbe e he hb; omega)⟩
    rw [show f + 1 + g = (f + g) + 1 by omega]
    refine ⟨fun h0 => (by rw [h0] at hr0; cases hr0), fun i hi => ?_⟩
    have hin : i < n := ready_head hT hH i0 hi0 hun0 i hi
    obtain ⟨hun, o, ho, hall⟩ := mem_ready.1 hi
    obtain ⟨o', d, ho', hd, hdm, _, hlooks, hdst⟩ := depsOk_spec hdep hin
    obtain rfl : o = o' := Option.some.inj (ho.symm.trans ho')
    have hk : ∀ e ∈ o.looksAt ops, known E L e (a.tmps.getD e undef) w := fun e he => by
      by_cases hw : ∃ j p, j < n ∧ ops[j]? = some p ∧ p.dst = some e
      · obtain ⟨j, p, hj, hp, hpe⟩ := hw
        obtain ⟨x, hx, hb, hxj⟩ := hlooks e he j p hj hp hpe
        exact hI.come j p e hj hp hpe (by rw [← hxj]; exact hall x hx hb)
      · have hno : ∀ j p, j < n → ops[j]? = some p → p.dst ≠ some e := fun j p hj hp hpe => hw ⟨j, p, hj, hp, hpe⟩
        unfold known; rw [hEo e hno]; exact hI.other e hno
    have hst := hobl i o d hin ho hd a w hI.cl hk
    have next : ∀ u w', C.C w' → (∀ v e, known E L e v w → known E L e v w') → known E L d u w' → Inv ops C E L n m ds (listed.setIfInBounds i true) (a.put o.dst u) w' := fun u w' hc hkeep hu => by
      refine ⟨hc, by rw [tmps_put_size]; exact hI.size, by rw [hd]; exact hI.defers, fun j p e hj hp hpe hl => ?_, fun e he => ?_⟩
      · by_cases hij : i = j
        · subst hij
          obtain rfl : o = p := Option.some.inj (ho.symm.trans hp)
          rw [hd] at hpe ⊢
          obtain rfl := Option.some.inj hpe
          rw [tmps_put_same _ _ _ (by rw [hI.size]; exact hdm)]; exact hu
        · rw [getD_set_ne false hij] at hl
          rw [tmps_put_ne _ _ _ _ (fun h => hdst j p hj (Ne.symm hij) hp (hpe.trans h.symm))]
          exact hkeep _ _ (hI.come j p e hj hp hpe hl)
      · rw [tmps_put_ne _ _ _ _ (fun h => he i o hin ho h)]; exact hI.other e he
    unfold wpOp
    simp only [ho]
    unfold stepAt at hst
    have hcnt : todo (listed.setIfInBounds i true) n = f := by have := (todo_set hun n).2 hin; omega
    by_cases hw : Region.wanted o (yielded ops a.tmps) = true
    · rw [if_pos hw] at hst
      rw [if_pos hw]
      refine .inl ?_
      unfold Oper.wp
      refine upon_of_step hst fun u w' hR hV => wpAny_inv hn hT hdep hE hEo hobl hstep hend f _ _ w' hcnt (hH.set hi hin) (next u w' (hstep _ _ hI.cl hR) (fun v e hv => ?_) hV)
      unfold known at hv ⊢
      cases hx : lk E e with
      | none => rw [hx] at hv; exact hv
      | some y =>
        rw [hx] at hv
        cases y with
        | ex v' => exact hv
        | re q => exact hE e _ hx v w w' hI.cl hR hv
    · rw [if_neg hw] at hst
      rw [if_neg hw]
      exact wpAny_inv hn hT hdep hE hEo hobl hstep hend f _ _ w hcnt (hH.set hi hin) (next undef w hI.cl (fun _ _ h => h) hst)

/-- The closed check of a region. -/
def invB (l : List Oper) (n m : Nat) : Bool :=
  Region.noSelect l.toArray && decide (n ≤ l.length) && tailLast .any l.toArray n && depsOk .any l.toArray n m && chainOk l.toArray (l.take n) &&
    Region.seqB .any l.toArray (l.length - n) n (Array.replicate n true ++ Array.replicate (l.length - n) false)

theorem wp_region_inv {C : Cl} {id : Nat} {Q : Exit → Act → World → Prop} {ds : List Deferred} {L : List Value} {w : World} {l : List Oper} (n m : Nat) (hm : P.follows .mixedOrders = true) (hB : invB l n m = true) (hLm : L.length = m)
    (hstep : ∀ w w', C.C w → C.R w w' → C.C w') (h0 : C.C w.drew)
    (h : chain P l.toArray C L (l.take n) [] (fun E => ∀ a' w', C.C w' → a'.defers = ds → a'.tmps.size = m → (∀ d, known E L d (a'.tmps.getD d undef) w') → wpList P l.toArray Q (l.drop n) a' w')) :
    (Code.region id l.toArray true).wp P Q ⟨L.toArray, ds⟩ w := by
  simp only [invB, Bool.and_eq_true, decide_eq_true_eq] at hB
  obtain ⟨⟨⟨⟨⟨hsel, hn⟩, hT⟩, hdep⟩, hch⟩, hseq⟩ := hB
  obtain ⟨E, hK, hE, hEo, hobl⟩ := chain_sound (ops := l.toArray) (l.take n) [] hch (fun d x h => by cases h) h
  have hsz : l.toArray.size = l.length := by simp
  have memT : ∀ i o, i < n → l.toArray[i]? = some o → o ∈ l.take n := fun i o hi ho => by
    have : (l.take n)[i]? = some o := by rw [List.getElem?_take, if_pos hi]; simpa using ho
    exact List.mem_of_getElem? this
  have hnone : ∀ d, (∀ i o, i < n → l.toArray[i]? = some o → o.dst ≠ some d) → lk E d = none := fun d hd => by
    rw [hEo d fun o ho => ?_]; rfl
    obtain ⟨i, hi⟩ := List.getElem?_of_mem ho
    rw [List.getElem?_take] at hi
    split at hi
    · rename_i hin; exact hd i o hin (by simpa using hi)
    · cases hi
  refine wp_region_any hm ?_
  have H := wpAny_inv (P := P) (md := .any) (Q' := Q) (g := l.length - n) (ds := ds) (m := m) (n := n) (C := C) (E := E) (L := L) (by rw [hsz]; exact hn) hT hdep hE hnone (fun i o d hi ho hd => hobl o (memT i o hi ho) d hd) hstep
    (fun listed a w' hH hall hI => by
      have hlist : listed = Array.replicate n true ++ Array.replicate (l.length - n) false := by
        apply Array.ext_getElem?
        intro j
        have hs := hH.size
        rw [hsz] at hs
        by_cases hj : j < n
        · have h1 := hall j hj
          have hjs : j < listed.size := by omega
          rw [Array.getElem?_append_left (by simpa using hj)]
          simp [hjs, hj] at h1 ⊢; exact h1
        · by_cases hj2 : j < l.length
          · have h1 := hH.tail j (by omega) (by rw [hsz]; exact hj2)
            have hjs : j < listed.size := by omega
            rw [Array.getElem?_append_right (by simpa using (by omega : n ≤ j))]
            simp [hjs] at h1 ⊢
            rw [Array.getElem?_replicate, if_pos (by omega), h1]
          · rw [Array.getElem?_eq_none (by omega), Array.getElem?_eq_none (by simp; omega)]
      have hdl : (l.drop n).length = l.length - n := by simp
      have := wpAny_of_seq (md := .any) (P := P) (ops := l.toArray) (Q' := Q) (l.drop n) n listed a w' (fun j => by simp [List.getElem?_drop]) (by rw [hdl, hlist]; exact hseq) (hK a w' hI.cl hI.defers hI.size (fun d => by
        by_cases hw : ∃ j p, j < n ∧ l.toArray[j]? = some p ∧ p.dst = some d
        · obtain ⟨j, p, hj, hp, hpe⟩ := hw
          exact hI.come j p d hj hp hpe (getD_or (hall j hj) (by have := hH.size; rw [hsz] at this; omega))
        · have hno : ∀ j p, j < n → l.toArray[j]? = some p → p.dst ≠ some d := fun j p hj hp hpe => hw ⟨j, p, hj, hp, hpe⟩
          unfold known; rw [hnone d hno]; exact hI.other d hno))
      rw [hdl] at this; exact this)
    n (Array.replicate l.toArray.size false) ⟨L.toArray, ds⟩ w.drew (by
      have : ∀ k, k ≤ l.length → todo (Array.replicate l.toArray.size false) k = k := fun k => by
        induction k with
        | zero => intro _; rfl
        | succ k ih => intro hk; rw [todo_succ, ih (by omega)]; simp [show k < l.length by omega]
      exact this n hn)
    ⟨by simp, fun j oj _ hl => (by rw [getD_replicate_false] at hl; cases hl), fun t _ ht => getD_in (by simpa using ht) (getD_replicate_false _ _)⟩
    ⟨h0, by simpa using hLm, rfl, fun i o d _ _ _ hl => (by rw [getD_replicate_false] at hl; cases hl), fun d _ => (by rw [slotL_eq]; simp)⟩
  have hnn : n + (l.length - n) = l.toArray.size := by rw [hsz]; omega
  rw [hnn] at H
  exact H

/-! ### The steps that a walk takes -/
/-- What an operand says. -/
def evE (E : Env) (L : List Value) : Operand → Value
  | .tmp d => match lk E d with
    | some (.ex v) => v
    | some (.re _) => undef
    | none => slotL L d
  | .const v => v
  | .global g => .pointer (some ⟨g, 0, none⟩)
  | .func f => .func (.func f) #[] #[]
theorem evE_tmp (E : Env) (L : List Value) (d : Nat) : evE E L (.tmp d) = match lk E d with
    | some (.ex v) => v
    | some (.re _) => undef
    | none => slotL L d := rfl
/-- No slot that it looks at is known by a word alone. -/
def exB (ops : Array Oper) (o : Oper) (E : Env) : Bool := (o.looksAt ops).all fun d => match lk E d with | some (.re _) => false | _ => true
/-- It is wanted, as far as is known. -/
def wantB (ops : Array Oper) (o : Oper) (E : Env) (L : List Value) : Bool :=
  match o.guard with
  | none => true
  | some (g, want) => match (ops[g]?).bind (·.dst) with
    | some d => (match lk E d with
      | some (.ex (.bool b)) => b == want
      | some _ => false
      | none => match slotL L d with
        | .bool b => b == want
        | _ => false)
    | none => false
theorem yielded_of {tmps : Array Value} {g d : Nat} {b : Bool} (hg : (ops[g]?).bind (·.dst) = some d) (h : tmps.getD d undef = .bool b) : yielded ops tmps g = some b := by
  unfold yielded
  rw [hg]
  rw [Array.getD_eq_getD_getElem?] at h
  simp only [Option.bind_some]
  cases hx : tmps[d]? with
  | none => rw [hx] at h; cases h
  | some v => rw [hx] at h; obtain rfl : v = .bool b := h; rfl
theorem wanted_of {o : Oper} {E : Env} {L : List Value} {a : Act} {w : World} (hw : wantB ops o E L = true) (hk : ∀ d ∈ o.looksAt ops, known E L d (a.tmps.getD d undef) w) : Region.wanted o (yielded ops a.tmps) = true := by
  unfold wantB at hw
  unfold Region.wanted
  cases hg : o.guard with
  | none => rfl
  | some gw =>
    obtain ⟨g, want⟩ := gw
    rw [hg] at hw
    simp only at hw
    split at hw
    · rename_i d hd
      have hk1 := hk d (List.mem_append_right _ (by rw [hg]; simp [hd]))
      unfold known at hk1
      split at hw
      · rename_i b hb
        rw [hb] at hk1
        have := yielded_of (ops := ops) hd hk1
        simp only [this]
        simpa using hw
      · cases hw
      · rename_i hb
        rw [hb] at hk1
        split at hw
        · rename_i b hb2
          rw [hb2] at hk1
          have := yielded_of (ops := ops) hd hk1
          simp only [this]
          simpa using hw
        · cases hw
    · cases hw
theorem eval_of {o : Oper} {E : Env} {L : List Value} {a : Act} {w : World} (he : exB ops o E = true) (hk : ∀ d ∈ o.looksAt ops, known E L d (a.tmps.getD d undef) w) : ∀ x ∈ o.op.operands, a.eval x = evE E L x := fun x hx => by
  cases x with
  | tmp d =>
    have hd : d ∈ o.looksAt ops := List.mem_append_left _ (List.mem_filterMap.2 ⟨.tmp d, by simpa using hx, rfl⟩)
    have h1 := List.all_eq_true.1 he d hd
    have hk1 := hk d hd
    unfold known at hk1
    show a.tmps.getD d undef = evE E L (.tmp d)
    rw [evE_tmp]
    split at h1
    · cases h1
    · rename_i hne
      cases hx : lk E d with
      | none => rw [hx] at hk1; exact hk1
      | some y =>
        cases y with
        | ex v => rw [hx] at hk1; exact hk1
        | re q => exact absurd hx (hne q)
  | const v => rfl
  | global g => rfl
  | func f => rfl
theorem obl_ex {o : Oper} {E : Env} {L : List Value} {V : Word} (hsel : ∀ cs b, o.op ≠ .select cs b) (hw : wantB ops o E L = true) (he : exB ops o E = true)
    (h : ∀ w, C.C w → stepUpon P C.R V w ((execOp (evE E L) o).run P w)) : obl P ops C o E L V := fun a w hc hk => by
  unfold stepAt
  rw [if_pos (wanted_of hw hk), execOp_congr o hsel (eval_of he hk)]
  exact h w hc
/-- One slot is known by a word alone. -/
theorem obl_re {o : Oper} {E : Env} {L : List Value} {V : Word} (d : Nat) (q : Word) (hsel : ∀ cs b, o.op ≠ .select cs b) (hw : wantB ops o E L = true) (hq : lk E d = some (.re q)) (hd : (o.looksAt ops).contains d = true)
    (he : ∀ x, exB ops o ((d, .ex x) :: E) = true)
    (h : ∀ x w, C.C w → q x w → stepUpon P C.R V w ((execOp (evE ((d, .ex x) :: E) L) o).run P w)) : obl P ops C o E L V := fun a w hc hk => by
  have hqx : q (a.tmps.getD d undef) w := by
    have := hk d (by simpa using hd)
    unfold known at this; rw [hq] at this; exact this
  have hk' : ∀ e ∈ o.looksAt ops, known ((d, .ex (a.tmps.getD d undef)) :: E) L e (a.tmps.getD e undef) w := fun e he => by
    unfold known
    rw [lk_cons]
    by_cases hed : e = d
    · subst hed; rw [if_pos rfl]
    · rw [if_neg hed]; exact hk e he
  unfold stepAt
  rw [if_pos (wanted_of hw hk), execOp_congr o hsel (eval_of (he _) hk')]
  exact h _ w hc hqx
end Go.Proofs.YtlllmoafhfjbbaaGreat
