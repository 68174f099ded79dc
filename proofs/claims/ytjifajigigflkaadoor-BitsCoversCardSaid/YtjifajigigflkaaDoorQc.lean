/- A region that draws its order, operation by operation; arguments. -/
import Derived.Test.YtjifajigigflkaaDoorQ1
import Derived.Shelf.Abstract
import Derived.Test.YtjifajigigflkaaDoorQb
import Derived.ChangeShapes
import Derived.ChangeReads
import Derived.ChangeArms
import Derived.ChangeSame
import Derived.RowKit
/- A region that draws its order, operation by operation: each yields a value that its own word allows, whatever came before it; so the order does not matter. -/
namespace Go.Proofs.YtjifajigigflkaaDoor
set_option linter.unusedSimpArgs false
set_option linter.unusedVariables false
open Go Go.RowKit

abbrev Word := Value → World → Prop
/-- What is asked of an operation's run at w: it yields a value that V allows; R holds. -/
def stepUpon (P : Program) (R : World → World → Prop) (V : Word) (w : World) : Result Next → Prop
  | .ok (.value u) w' => R w w' ∧ V u w'
  | .ok .skip w' => R w w' ∧ V undef w'
  | .ok (.enter f args) w' => Calls P f args w' (fun e w'' => ∃ u, e = .returned u ∧ R w w'' ∧ V u w'')
  | .ok (.row row args) w' => Rows P row args w' (fun u w'' => R w w'' ∧ V u w'')
  | _ => False
theorem upon_of_step {P : Program} {o : Oper} {a : Act} {K : Act → World → Prop} {Q' : Exit → Act → World → Prop} {R : World → World → Prop} {w : World} {V : Word} {r : Result Next}
    (h : stepUpon P R V w r) (hK : ∀ u w', R w w' → V u w' → K (a.put o.dst u) w') : o.upon P a K Q' r := by
  cases r with
  | ok n w' =>
    cases n <;> simp only [stepUpon] at h <;> simp only [Oper.upon]
    case value u => exact hK _ _ h.1 h.2
    case skip => exact hK _ _ h.1 h.2
    case enter f args => exact h.mono fun e w'' ⟨u, he, hb, hv⟩ => by subst he; exact hK _ _ hb hv
    case row row args => exact h.mono fun u w'' ⟨hb, hv⟩ => hK _ _ hb hv
  | halt x w' => simp only [stepUpon] at h
theorem stepUpon_mono {P : Program} {R : World → World → Prop} {V V' : Word} {w : World} {r : Result Next} (hV : ∀ u w', R w w' → V u w' → V' u w') (h : stepUpon P R V w r) : stepUpon P R V' w r := by
  cases r with
  | ok n w' =>
    cases n <;> simp only [stepUpon] at h ⊢
    case value u => exact ⟨h.1, hV _ _ h.1 h.2⟩
    case skip => exact ⟨h.1, hV _ _ h.1 h.2⟩
    case enter f args => exact h.mono fun e w'' ⟨u, he, hb, hv⟩ => ⟨u, he, hb, hV _ _ hb hv⟩
    case row row args => exact h.mono fun u w'' ⟨hb, hv⟩ => ⟨hb, hV _ _ hb hv⟩
  | halt x w' => simp only [stepUpon] at h

/-- What is known of a slot: its value, or a word that it meets. -/
inductive Ent where
  | ex (v : Value)
  | re (q : Word)
abbrev Env := List (Nat × Ent)
def lk : Env → Nat → Option Ent
  | [], _ => none
  | (e, x) :: l, d => bif Nat.beq d e then some x else lk l d
theorem lk_cons (e : Nat) (x : Ent) (l : Env) (d : Nat) : lk ((e, x) :: l) d = if d = e then some x else lk l d := by
  show (bif Nat.beq d e then some x else lk l d) = _
  by_cases h : d = e
  · subst h; simp
  · rw [if_neg h]
    cases hb : Nat.beq d e with
    | true => exact absurd (Nat.eq_of_beq_eq_true hb) h
    | false => rfl
/-- The word of a slot. -/
def known (E : Env) (L : List Value) (d : Nat) : Word := fun v w =>
  match lk E d with
  | some (.ex u) => v = u
  | some (.re q) => q v w
  | none => v = slotL L d

variable {P : Program} {ops : Array Oper} {C : Cl} {md : Region.Mode}
/-- The step that an operation takes in a state. -/
def stepAt (P : Program) (ops : Array Oper) (C : Cl) (o : Oper) (V : Word) (a : Act) (w : World) : Prop :=
  if Region.wanted o (yielded ops a.tmps) = true then stepUpon P C.R V w ((execOp a.eval o).run P w) else V undef w
/-- In every state that is as known, the operation takes its step. -/
def obl (P : Program) (ops : Array Oper) (C : Cl) (o : Oper) (E : Env) (L : List Value) (V : Word) : Prop :=
  ∀ (a : Act) (w : World), C.C w → (∀ d ∈ o.looksAt ops, known E L d (a.tmps.getD d undef) w) → stepAt P ops C o V a w
/-- A word that lasts. -/
def lasts (C : Cl) (q : Word) : Prop := ∀ v w w', C.C w → C.R w w' → q v w → q v w'
def entWord : Ent → Word
  | .ex v => fun u _ => u = v
  | .re q => q
def entOk (C : Cl) : Ent → Prop
  | .ex _ => True
  | .re q => lasts C q
/-- The operations in the text's order, each with what is known of the slot that it writes. -/
def chain (P : Program) (ops : Array Oper) (C : Cl) (L : List Value) : List Oper → Env → (Env → Prop) → Prop
  | [], E, K => K E
  | o :: rest, E, K => ∃ d x, o.dst = some d ∧ entOk C x ∧ obl P ops C o E L (entWord x) ∧ chain P ops C L rest ((d, x) :: E) K
/-- No operation looks at a slot that it or a later one writes; none writes what a later one writes. -/
def chainOk (ops : Array Oper) : List Oper → Bool
  | [] => true
  | o :: rest => (o :: rest).all (fun p => match p.dst with | some e => !(o.looksAt ops).contains e | none => false) && rest.all (fun p => p.dst != o.dst) && chainOk ops rest

theorem known_ext {E E' : Env} {L : List Value} {d : Nat} {v : Value} {w : World} (h : lk E d = lk E' d) : known E L d v w ↔ known E' L d v w := by
  unfold known; rw [h]

theorem chain_sound {L : List Value} {K : Env → Prop} : ∀ (l : List Oper) (E : Env), chainOk ops l = true → (∀ d x, lk E d = some x → entOk C x) → chain P ops C L l E K →
    ∃ F, K F ∧ (∀ d x, lk F d = some x → entOk C x) ∧ (∀ d, (∀ o ∈ l, o.dst ≠ some d) → lk F d = lk E d) ∧
      (∀ o ∈ l, ∀ d, o.dst = some d → obl P ops C o F L (known F L d))
  | [], E, _, hE, h => ⟨E, h, hE, fun _ _ => rfl, fun _ h => by cases h⟩
  | o :: rest, E, hok, hE, ⟨d, x, hd, hx, ho, hr⟩ => by
    simp only [chainOk, Bool.and_eq_true] at hok
    obtain ⟨⟨hlook, hdst⟩, hrest⟩ := hok
    have hE' : ∀ e y, lk ((d, x) :: E) e = some y → entOk C y := fun e y he => by
      rw [lk_cons] at he
      split at he
      · cases he; exact hx
      · exact hE e y he
    obtain ⟨F, hK, hF, hsame, hobl⟩ := chain_sound rest _ hrest hE' hr
    have hno : ∀ p ∈ o :: rest, ∀ e ∈ o.looksAt ops, p.dst ≠ some e := fun p hp e he hpe => by
      have := List.all_eq_true.1 hlook p hp
      rw [hpe] at this
      simp only [Bool.not_eq_true', List.contains_eq_mem, decide_eq_false_iff_not] at this
      exact this he
    have hd2 : ∀ p ∈ rest, p.dst ≠ some d := fun p hp hpe => by
      have := List.all_eq_true.1 hdst p hp
      rw [hpe, hd] at this
      simp at this
    have hFd : lk F d = some x := by rw [hsame d hd2, lk_cons, if_pos rfl]
    refine ⟨F, hK, hF, fun e he => ?_, fun p hp e hpe => ?_⟩
    · rw [hsame e fun p hp => he p (List.mem_cons_of_mem _ hp), lk_cons, if_neg]
      rintro rfl; exact he o (List.mem_cons_self) hd
    · rcases List.mem_cons.1 hp with rfl | hp'
      · rw [hd] at hpe
        obtain rfl := Option.some.inj hpe
        intro a w hw hk
        have hk' : ∀ e ∈ p.looksAt ops, known E L e (a.tmps.getD e undef) w := fun e he => by
          refine (known_ext ?_).1 (hk e he)
          rw [hsame e fun p' hp' => hno p' (List.mem_cons_of_mem _ hp') e he, lk_cons, if_neg]
          rintro rfl; exact hno p List.mem_cons_self e he hd
        have h1 := ho a w hw hk'
        have hVV : ∀ u w', entWord x u w' → known F L d u w' := fun u w' hu => by
          unfold known; rw [hFd]
          cases x with
          | ex v => exact hu
          | re q => exact hu
        unfold stepAt at h1 ⊢
        split
        · rename_i hwd; rw [if_pos hwd] at h1; exact stepUpon_mono (fun u w' _ => hVV u w') h1
        · rename_i hwd; rw [if_neg hwd] at h1; exact hVV _ _ h1
      · exact hobl p hp' e hpe

/-! ### Whatever order -/
/-- How many of the first n are still to come. -/
def todo (listed : Array Bool) (n : Nat) : Nat := (List.range n).countP fun j => !listed.getD j true
theorem todo_succ (listed : Array Bool) (n : Nat) : todo listed (n + 1) = todo listed n + (if listed.getD n true = true then 0 else 1) := by
  unfold todo
  rw [List.range_succ, List.countP_append, List.countP_singleton]
  cases listed.getD n true <;> rfl
theorem todo_set {listed : Array Bool} {i : Nat} (hi : listed.getD i true = false) : ∀ n, (n ≤ i → todo (listed.setIfInBounds i true) n = todo listed n) ∧ (i < n → todo (listed.setIfInBounds i true) n + 1 = todo listed n)
  | 0 => ⟨fun _ => rfl, fun h => absurd h (by omega)⟩
  | n + 1 => by
    obtain ⟨h1, h2⟩ := todo_set hi n
    have hlt : i < listed.size := by
      rcases Nat.lt_or_ge i listed.size with h' | h'
      · exact h'
      · simp [Array.getElem?_eq_none h'] at hi
    rw [todo_succ, todo_succ]
    refine ⟨fun h => ?_, fun h => ?_⟩
    · rw [h1 (by omega), getD_set_ne true (by omega)]
    · by_cases hin : i < n
      · have := h2 hin
        rw [getD_set_ne true (by omega)]; omega
      · obtain rfl : i = n := by omega
        rw [h1 (Nat.le_refl _), hi]
        have : (listed.setIfInBounds i true).getD i true = true := by simp [hlt]
        rw [this]; simp
theorem todo_zero {listed : Array Bool} : ∀ {n : Nat}, todo listed n = 0 → ∀ j, j < n → listed.getD j true = true
  | 0, _, j, hj => absurd hj (by omega)
  | n + 1, h, j, hj => by
    rw [todo_succ] at h
    by_cases hjn : j < n
    · exact todo_zero (by omega) j hjn
    · obtain rfl : j = n := by omega
      cases hx : listed.getD j true with
      | true => rfl
      | false => rw [hx] at h; simp at h
theorem todo_pos {listed : Array Bool} : ∀ {n : Nat}, todo listed n ≠ 0 → ∃ i, i < n ∧ listed.getD i true = false ∧ ∀ j, j < i → listed.getD j true = true
  | 0, h => absurd rfl h
  | n + 1, h => by
    by_cases h0 : todo listed n = 0
    · rw [todo_succ, h0] at h
      cases hx : listed.getD n true with
      | true => rw [hx] at h; simp at h
      | false => exact ⟨n, by omega, hx, todo_zero h0⟩
    · obtain ⟨i, hi, h1, h2⟩ := todo_pos h0
      exact ⟨i, by omega, h1, h2⟩

/-- Each operation of the head waits only for earlier ones, and for all those that write what it looks at; it writes a slot. -/
def depsOk (md : Region.Mode) (ops : Array Oper) (n m : Nat) : Bool :=
  (List.range n).all fun i => match ops[i]? with
    | some o => (match o.dst with | some d => decide (d < m) | none => false) && o.after.all (fun e => !Region.binds md e || decide (e.on < i)) &&
        (o.looksAt ops).all (fun d => (List.range n).all fun j => match ops[j]? with
          | some p => p.dst != some d || o.after.any (fun e => Region.binds md e && e.on == j)
          | none => true) &&
        (List.range n).all (fun j => j == i || match ops[j]? with
          | some p => p.dst != o.dst
          | none => true)
    | none => false
theorem depsOk_spec {n m : Nat} (h : depsOk md ops n m = true) {i : Nat} (hi : i < n) : ∃ o d, ops[i]? = some o ∧ o.dst = some d ∧ d < m ∧ (∀ e ∈ o.after, Region.binds md e = true → e.on < i) ∧
    (∀ d ∈ o.looksAt ops, ∀ j p, j < n → ops[j]? = some p → p.dst = some d → ∃ e ∈ o.after, Region.binds md e = true ∧ e.on = j) ∧
    (∀ j p, j < n → j ≠ i → ops[j]? = some p → p.dst ≠ o.dst) := by
  have h1 := List.all_eq_true.1 h i (List.mem_range.2 hi)
  cases ho : ops[i]? with
  | none => rw [ho] at h1; cases h1
  | some o =>
    rw [ho] at h1
    simp only [Bool.and_eq_true] at h1
    obtain ⟨⟨⟨hd, ha⟩, hl⟩, hs⟩ := h1
    cases hdd : o.dst with
    | none => rw [hdd] at hd; cases hd
    | some d =>
      rw [hdd] at hd
      refine ⟨o, d, rfl, hdd, of_decide_eq_true hd, fun e he hb => ?_, fun x hx j p hj hp hpd => ?_, fun j p hj hji hp => ?_⟩
      · have := Array.all_eq_true_iff_forall_mem.1 ha e he
        simp only [Bool.or_eq_true, Bool.not_eq_true', decide_eq_true_eq] at this
        exact this.resolve_left (by simp [hb])
      · have := List.all_eq_true.1 (List.all_eq_true.1 hl x hx) j (List.mem_range.2 hj)
        rw [hp] at this
        simp only [Bool.or_eq_true, bne_iff_ne, ne_eq] at this
        rcases this with h' | h'
        · exact absurd hpd h'
        · obtain ⟨e, he, hb⟩ := Array.any_eq_true'.1 h'
          simp only [Bool.and_eq_true, beq_iff_eq] at hb
          exact ⟨e, he, hb.1, hb.2⟩
      · have := List.all_eq_true.1 hs j (List.mem_range.2 hj)
        rw [hp] at this
        simp only [Bool.or_eq_true, beq_iff_eq, bne_iff_ne, ne_eq] at this
        exact fun h => this.resolve_left hji (by rw [h])

/-- The state: what has come up is as known, the rest as it was. -/
structure Inv (ops : Array Oper) (C : Cl) (E : Env) (L : List Value) (n m : Nat) (ds : List Deferred) (listed : Array Bool) (a : Act) (w : World) : Prop where
  cl : C.C w
  size : a.tmps.size = m
  defers : a.defers = ds
  come : ∀ i o d, i < n → ops[i]? = some o → o.dst = some d → listed.getD i false = true → known E L d (a.tmps.getD d undef) w
  other : ∀ d, (∀ i o, i < n → ops[i]? = some o → o.dst ≠ some d) → a.tmps.getD d undef = slotL L d

theorem getD_or {listed : Array Bool} {j : Nat} (h : listed.getD j true = true) (hj : j < listed.size) : listed.getD j false = true := by
  simp [hj] at h ⊢; exact h

theorem wpAny_inv {E : Env} {L : List Value} {n m g : Nat} {ds : List Deferred} {Q' : Exit → Act → World → Prop} (hn : n ≤ ops.size) (hT : tailLast md ops n = true) (hdep : depsOk md ops n m = true)
    (hE : ∀ d x, lk E d = some x → entOk C x) (hEo : ∀ d, (∀ i o, i < n → ops[i]? = some o → o.dst ≠ some d) → lk E d = none)
    (hobl : ∀ i o d, i < n → ops[i]? = some o → o.dst = some d → obl P ops C o E L (known E L d)) (hstep : ∀ w w', C.C w → C.R w w' → C.C w')
    (hend : ∀ listed a w, HeadInv md ops n listed → (∀ j, j < n → listed.getD j true = true) → Inv ops C E L n m ds listed a w → wpAny P md ops Q' g listed a w) :
    ∀ (f : Nat) (listed : Array Bool) (a : Act) (w : World), todo listed n = f → HeadInv md ops n listed → Inv ops C E L n m ds listed a w → wpAny P md ops Q' (f + g) listed a w
  | 0, listed, a, w, hf, hH, hI => by rw [Nat.zero_add]; exact hend listed a w hH (todo_zero hf) hI
  | f + 1, listed, a, w, hf, hH, hI => by
    obtain ⟨i0, hi0, hun0, hlow⟩ := todo_pos (listed := listed) (n := n) (by omega)
    have hr0 : i0 ∈ Region.ready md ops listed := by
      obtain ⟨o, d, ho, _, _, hbe, _⟩ := depsOk_spec hdep hi0
      exact mem_ready.2 ⟨hun0, o, ho, fun e he hb => getD_or (hlow e.on (hbe e he hb)) (by rw [hH.size]; have := hbe e he hb; omega)⟩
    rw [show f + 1 + g = (f + g) + 1 by omega]
    refine ⟨fun h0 => (by rw [h0] at hr0; cases hr0), fun i hi => ?_⟩
    have hin : i < n := ready_head hT hH i0 hi0 hun0 i hi
    obtain ⟨hun, o, ho, hall⟩ := mem_ready.1 hi
    obtain ⟨o', d, ho', hd, hdm, _, hlooks, hdst⟩ := depsOk_spec hdep hin
    obtain rfl : o = o' := Option.some.inj (ho.symm.trans ho')
    have hk : ∀ e ∈ o.looksAt ops, known E L e (a.tmps.getD e undef) w := fun e he => by
      by_cases hw : ∃ j p, j < n ∧ ops[j]? = some p ∧ p.dst = some e
      · obtain ⟨j, p, hj, hp, hpe⟩ := hw
        obtain ⟨x, hx, hb, hxj⟩ := hlooks e he j p hj hp hpe
        exact hI.come j p e hj hp hpe (by rw [← hxj]; exact hall x hx hb)
      · have hno : ∀ j p, j < n → ops[j]? = some p → p.dst ≠ some e := fun j p hj hp hpe => hw ⟨j, p, hj, hp, hpe⟩
        unfold known; rw [hEo e hno]; exact hI.other e hno
    have hst := hobl i o d hin ho hd a w hI.cl hk
    have next : ∀ u w', C.C w' → (∀ v e, known E L e v w → known E L e v w') → known E L d u w' → Inv ops C E L n m ds (listed.setIfInBounds i true) (a.put o.dst u) w' := fun u w' hc hkeep hu => by
      refine ⟨hc, by rw [tmps_put_size]; exact hI.size, by rw [hd]; exact hI.defers, fun j p e hj hp hpe hl => ?_, fun e he => ?_⟩
      · by_cases hij : i = j
        · subst hij
          obtain rfl : o = p := Option.some.inj (ho.symm.trans hp)
          rw [hd] at hpe ⊢
          obtain rfl := Option.some.inj hpe
          rw [tmps_put_same _ _ _ (by rw [hI.size]; exact hdm)]; exact hu
        · rw [getD_set_ne false hij] at hl
          rw [tmps_put_ne _ _ _ _ (fun h => hdst j p hj (Ne.symm hij) hp (hpe.trans h.symm))]
          exact hkeep _ _ (hI.come j p e hj hp hpe hl)
      · rw [tmps_put_ne _ _ _ _ (fun h => he i o hin ho h)]; exact hI.other e he
    unfold wpOp
    simp only [ho]
    unfold stepAt at hst
    have hcnt : todo (listed.setIfInBounds i true) n = f := by have := (todo_set hun n).2 hin; omega
    by_cases hw : Region.wanted o (yielded ops a.tmps) = true
    · rw [if_pos hw] at hst
      rw [if_pos hw]
      refine .inl ?_
      unfold Oper.wp
      refine upon_of_step hst fun u w' hR hV => wpAny_inv hn hT hdep hE hEo hobl hstep hend f _ _ w' hcnt (hH.set hi hin) (next u w' (hstep _ _ hI.cl hR) (fun v e hv => ?_) hV)
      unfold known at hv ⊢
      cases hx : lk E e with
      | none => rw [hx] at hv; exact hv
      | some y =>
        rw [hx] at hv
        cases y with
        | ex v' => exact hv
        | re q => exact hE e _ hx v w w' hI.cl hR hv
    · rw [if_neg hw] at hst
      rw [if_neg hw]
      exact wpAny_inv hn hT hdep hE hEo hobl hstep hend f _ _ w hcnt (hH.set hi hin) (next undef w hI.cl (fun _ _ h => h) hst)

/-- The closed check of a region. -/
def invB (l : List Oper) (n m : Nat) : Bool :=
  Region.noSelect l.toArray && decide (n ≤ l.length) && tailLast .any l.toArray n && depsOk .any l.toArray n m && chainOk l.toArray (l.take n) &&
    Region.seqB .any l.toArray (l.length - n) n (Array.replicate n true ++ Array.replicate (l.length - n) false)

theorem wp_region_inv {C : Cl} {id : Nat} {Q : Exit → Act → World → Prop} {ds : List Deferred} {L : List Value} {w : World} {l : List Oper} (n m : Nat) (hm : P.follows .mixedOrders = true) (hB : invB l n m = true) (hLm : L.length = m)
    (hstep : ∀ w w', C.C w → C.R w w' → C.C w') (h0 : C.C w.drew)
    (h : chain P l.toArray C L (l.take n) [] (fun E => ∀ a' w', C.C w' → a'.defers = ds → a'.tmps.size = m → (∀ d, known E L d (a'.tmps.getD d undef) w') → wpList P l.toArray Q (l.drop n) a' w')) :
    (Code.region id l.toArray true).wp P Q ⟨L.toArray, ds⟩ w := by
  simp only [invB, Bool.and_eq_true, decide_eq_true_eq] at hB
  obtain ⟨⟨⟨⟨⟨hsel, hn⟩, hT⟩, hdep⟩, hch⟩, hseq⟩ := hB
  obtain ⟨E, hK, hE, hEo, hobl⟩ := chain_sound (ops := l.toArray) (l.take n) [] hch (fun d x h => by cases h) h
  have hsz : l.toArray.size = l.length := by simp
  have memT : ∀ i o, i < n → l.toArray[i]? = some o → o ∈ l.take n := fun i o hi ho => by
    have : (l.take n)[i]? = some o := by rw [List.getElem?_take, if_pos hi]; simpa using ho
    exact List.mem_of_getElem? this
  have hnone : ∀ d, (∀ i o, i < n → l.toArray[i]? = some o → o.dst ≠ some d) → lk E d = none := fun d hd => by
    rw [hEo d fun o ho => ?_]; rfl
    obtain ⟨i, hi⟩ := List.getElem?_of_mem ho
    rw [List.getElem?_take] at hi
    split at hi
    · rename_i hin; exact hd i o hin (by simpa using hi)
    · cases hi
  refine wp_region_any hm ?_
  have H := wpAny_inv (P := P) (md := .any) (Q' := Q) (g := l.length - n) (ds := ds) (m := m) (n := n) (C := C) (E := E) (L := L) (by rw [hsz]; exact hn) hT hdep hE hnone (fun i o d hi ho hd => hobl o (memT i o hi ho) d hd) hstep
    (fun listed a w' hH hall hI => by
      have hlist : listed = Array.replicate n true ++ Array.replicate (l.length - n) false := by
        apply Array.ext_getElem?
        intro j
        have hs := hH.size
        rw [hsz] at hs
        by_cases hj : j < n
        · have h1 := hall j hj
          have hjs : j < listed.size := by omega
          rw [Array.getElem?_append_left (by simpa using hj)]
          simp [hjs, hj] at h1 ⊢; exact h1
        · by_cases hj2 : j < l.length
          · have h1 := hH.tail j (by omega) (by rw [hsz]; exact hj2)
            have hjs : j < listed.size := by omega
            rw [Array.getElem?_append_right (by simpa using (by omega : n ≤ j))]
            simp [hjs] at h1 ⊢
            rw [Array.getElem?_replicate, if_pos (by omega), h1]
          · rw [Array.getElem?_eq_none (by omega), Array.getElem?_eq_none (by simp; omega)]
      have hdl : (l.drop n).length = l.length - n := by simp
      have := wpAny_of_seq (md := .any) (P := P) (ops := l.toArray) (Q' := Q) (l.drop n) n listed a w' (fun j => by simp [List.getElem?_drop]) (by rw [hdl, hlist]; exact hseq) (hK a w' hI.cl hI.defers hI.size (fun d => by
        by_cases hw : ∃ j p, j < n ∧ l.toArray[j]? = some p ∧ p.dst = some d
        · obtain ⟨j, p, hj, hp, hpe⟩ := hw
          exact hI.come j p d hj hp hpe (getD_or (hall j hj) (by have := hH.size; rw [hsz] at this; omega))
        · have hno : ∀ j p, j < n → l.toArray[j]? = some p → p.dst ≠ some d := fun j p hj hp hpe => hw ⟨j, p, hj, hp, hpe⟩
          unfold known; rw [hnone d hno]; exact hI.other d hno))
      rw [hdl] at this; exact this)
    n (Array.replicate l.toArray.size false) ⟨L.toArray, ds⟩ w.drew (by
      have : ∀ k, k ≤ l.length → todo (Array.replicate l.toArray.size false) k = k := fun k => by
        induction k with
        | zero => intro _; rfl
        | succ k ih => intro hk; rw [todo_succ, ih (by omega)]; simp [show k < l.length by omega]
      exact this n hn)
    ⟨by simp, fun j oj _ hl => (by rw [getD_replicate_false] at hl; cases hl), fun t _ ht => getD_in (by simpa using ht) (getD_replicate_false _ _)⟩
    ⟨h0, by simpa using hLm, rfl, fun i o d _ _ _ hl => (by rw [getD_replicate_false] at hl; cases hl), fun d _ => (by rw [slotL_eq]; simp)⟩
  have hnn : n + (l.length - n) = l.toArray.size := by rw [hsz]; omega
  rw [hnn] at H
  exact H

/-! ### The steps that a walk takes -/
/-- What an operand says. -/
def evE (E : Env) (L : List Value) : Operand → Value
  | .tmp d => match lk E d with
    | some (.ex v) => v
    | some (.re _) => undef
    | none => slotL L d
  | .const v => v
  | .global g => .pointer (some ⟨g, 0, none⟩)
  | .func f => .func (.func f) #[] #[]
theorem evE_tmp (E : Env) (L : List Value) (d : Nat) : evE E L (.tmp d) = match lk E d with
    | some (.ex v) => v
    | some (.re _) => undef
    | none => slotL L d := rfl
/-- No slot that it looks at is known by a word alone. -/
def exB (ops : Array Oper) (o : Oper) (E : Env) : Bool := (o.looksAt ops).all fun d => match lk E d with | some (.re _) => false | _ => true
/-- It is wanted, as far as is known. -/
def wantB (ops : Array Oper) (o : Oper) (E : Env) (L : List Value) : Bool :=
  match o.guard with
  | none => true
  | some (g, want) => match (ops[g]?).bind (·.dst) with
    | some d => (match lk E d with
      | some (.ex (.bool b)) => b == want
      | some _ => false
      | none => match slotL L d with
        | .bool b => b == want
        | _ => false)
    | none => false
theorem yielded_of {tmps : Array Value} {g d : Nat} {b : Bool} (hg : (ops[g]?).bind (·.dst) = some d) (h : tmps.getD d undef = .bool b) : yielded ops tmps g = some b := by
  unfold yielded
  rw [hg]
  rw [Array.getD_eq_getD_getElem?] at h
  simp only [Option.bind_some]
  cases hx : tmps[d]? with
  | none => rw [hx] at h; cases h
  | some v => rw [hx] at h; obtain rfl : v = .bool b := h; rfl
theorem wanted_of {o : Oper} {E : Env} {L : List Value} {a : Act} {w : World} (hw : wantB ops o E L = true) (hk : ∀ d ∈ o.looksAt ops, known E L d (a.tmps.getD d undef) w) : Region.wanted o (yielded ops a.tmps) = true := by
  unfold wantB at hw
  unfold Region.wanted
  cases hg : o.guard with
  | none => rfl
  | some gw =>
    obtain ⟨g, want⟩ := gw
    rw [hg] at hw
    simp only at hw
    split at hw
    · rename_i d hd
      have hk1 := hk d (List.mem_append_right _ (by rw [hg]; simp [hd]))
      unfold known at hk1
      split at hw
      · rename_i b hb
        rw [hb] at hk1
        have := yielded_of (ops := ops) hd hk1
        simp only [this]
        simpa using hw
      · cases hw
      · rename_i hb
        rw [hb] at hk1
        split at hw
        · rename_i b hb2
          rw [hb2] at hk1
          have := yielded_of (ops := ops) hd hk1
          simp only [this]
          simpa using hw
        · cases hw
    · cases hw
theorem eval_of {o : Oper} {E : Env} {L : List Value} {a : Act} {w : World} (he : exB ops o E = true) (hk : ∀ d ∈ o.looksAt ops, known E L d (a.tmps.getD d undef) w) : ∀ x ∈ o.op.operands, a.eval x = evE E L x := fun x hx => by
  cases x with
  | tmp d =>
    have hd : d ∈ o.looksAt ops := List.mem_append_left _ (List.mem_filterMap.2 ⟨.tmp d, by simpa using hx, rfl⟩)
    have h1 := List.all_eq_true.1 he d hd
    have hk1 := hk d hd
    unfold known at hk1
    show a.tmps.getD d undef = evE E L (.tmp d)
    rw [evE_tmp]
    split at h1
    · cases h1
    · rename_i hne
      cases hx : lk E d with
      | none => rw [hx] at hk1; exact hk1
      | some y =>
        cases y with
        | ex v => rw [hx] at hk1; exact hk1
        | re q => exact absurd hx (hne q)
  | const v => rfl
  | global g => rfl
  | func f => rfl
theorem obl_ex {o : Oper} {E : Env} {L : List Value} {V : Word} (hsel : ∀ cs b, o.op ≠ .select cs b) (hw : wantB ops o E L = true) (he : exB ops o E = true)
    (h : ∀ w, C.C w → stepUpon P C.R V w ((execOp (evE E L) o).run P w)) : obl P ops C o E L V := fun a w hc hk => by
  unfold stepAt
  rw [if_pos (wanted_of hw hk), execOp_congr o hsel (eval_of he hk)]
  exact h w hc
/-- One slot is known by a word alone. -/
theorem obl_re {o : Oper} {E : Env} {L : List Value} {V : Word} (d : Nat) (q : Word) (hsel : ∀ cs b, o.op ≠ .select cs b) (hw : wantB ops o E L = true) (hq : lk E d = some (.re q)) (hd : (o.looksAt ops).contains d = true)
    (he : ∀ x, exB ops o ((d, .ex x) :: E) = true)
    (h : ∀ x w, C.C w → q x w → stepUpon P C.R V w ((execOp (evE ((d, .ex x) :: E) L) o).run P w)) : obl P ops C o E L V := fun a w hc hk => by
  have hqx : q (a.tmps.getD d undef) w := by
    have := hk d (by simpa using hd)
    unfold known at this; rw [hq] at this; exact this
  have hk' : ∀ e ∈ o.looksAt ops, known ((d, .ex (a.tmps.getD d undef)) :: E) L e (a.tmps.getD e undef) w := fun e he => by
    unfold known
    rw [lk_cons]
    by_cases hed : e = d
    · subst hed; rw [if_pos rfl]
    · rw [if_neg hed]; exact hk e he
  unfold stepAt
  rw [if_pos (wanted_of hw hk), execOp_congr o hsel (eval_of (he _) hk')]
  exact h _ w hc hqx
end Go.Proofs.YtjifajigigflkaaDoor
/- The kinds of operations, for the law on regions that draw their order. -/
namespace Go.Proofs.YtjifajigigflkaaDoor
set_option linter.unusedSimpArgs false
set_option linter.unusedVariables false
open Go Go.RowKit

section
variable {P : Program} {ops : Array Oper} {C : Cl} {L : List Value} {K : Env → Prop} {o : Oper} {rest : List Oper} {E : Env} {d : Nat}
theorem chain_val (v : Value) (hr : ∀ w, C.C w → C.R w w) (hd : o.dst = some d) (hsel : ∀ cs b, o.op ≠ .select cs b) (hw : wantB ops o E L = true) (he : exB ops o E = true)
    (h : ∀ w, C.C w → (execOp (evE E L) o).run P w = .ok (.value v) w) (hk : chain P ops C L rest ((d, .ex v) :: E) K) : chain P ops C L (o :: rest) E K :=
  ⟨d, .ex v, hd, trivial, obl_ex hsel hw he fun w hC => by rw [h w hC]; exact ⟨hr w hC, rfl⟩, hk⟩
theorem chain_move (v : Value) (x : Operand) (hr : ∀ w, C.C w → C.R w w) (hd : o.dst = some d) (ho : o.op = .move x) (hw : wantB ops o E L = true) (he : exB ops o E = true)
    (h : evE E L x = v) (hk : chain P ops C L rest ((d, .ex v) :: E) K) : chain P ops C L (o :: rest) E K :=
  chain_val v hr hd (fun cs b e => by rw [ho] at e; cases e) hw he (fun w _ => by simp [execOp, ho, h]) hk
theorem chain_assign (v : Value) (x : Operand) (hr : ∀ w, C.C w → C.R w w) (hd : o.dst = some d) (ho : o.op = .assign x) (hw : wantB ops o E L = true) (he : exB ops o E = true)
    (h : evE E L x = v) (hk : chain P ops C L rest ((d, .ex v) :: E) K) : chain P ops C L (o :: rest) E K :=
  chain_val v hr hd (fun cs b e => by rw [ho] at e; cases e) hw he (fun w _ => by simp [execOp, ho, h]) hk
theorem chain_pick (v : Value) (c x y : Operand) (t : Bool) (hr : ∀ w, C.C w → C.R w w) (hd : o.dst = some d) (ho : o.op = .pick c x y) (hw : wantB ops o E L = true) (he : exB ops o E = true)
    (hc : evE E L c = .bool t) (h : (if t then evE E L x else evE E L y) = v) (hk : chain P ops C L rest ((d, .ex v) :: E) K) : chain P ops C L (o :: rest) E K :=
  chain_val v hr hd (fun cs b e => by rw [ho] at e; cases e) hw he (fun w _ => by
    subst h
    cases t <;> simp [execOp, ho, hc, asBool]) hk
theorem chain_load (v : Value) (t : TypeId) (x : Operand) (u : Value) (hr : ∀ w, C.C w → C.R w w) (hd : o.dst = some d) (ho : o.op = .load t x) (hw : wantB ops o E L = true) (he : exB ops o E = true)
    (hx : evE E L x = u) (h : ∀ w, C.C w → (Instr.loadAt t u).run P w = .ok v w) (hk : chain P ops C L rest ((d, .ex v) :: E) K) : chain P ops C L (o :: rest) E K :=
  chain_val v hr hd (fun cs b e => by rw [ho] at e; cases e) hw he (fun w hC => by simp [execOp, ho, hx, h w hC, Sem.run_bind, Result.andThen]) hk
theorem chain_bin (v : Value) (op : BinOp) (t t' : TypeId) (x y : Operand) (a b : Value) (hr : ∀ w, C.C w → C.R w w) (hd : o.dst = some d) (ho : o.op = .binOp op t x y t') (hw : wantB ops o E L = true) (he : exB ops o E = true)
    (hx : evE E L x = a) (hy : evE E L y = b) (h : ∀ w, (do eqGuard op t x y a b; binOp op t a b : Sem Value).run P w = .ok v w) (hk : chain P ops C L rest ((d, .ex v) :: E) K) : chain P ops C L (o :: rest) E K :=
  chain_val v hr hd (fun cs b e => by rw [ho] at e; cases e) hw he (fun w hC => by
    have := h w
    simp only [execOp, ho, hx, hy]
    rw [Sem.run_bind, this]; rfl) hk
theorem chain_un (v : Value) (op : UnOp) (t : TypeId) (x : Operand) (a : Value) (hr : ∀ w, C.C w → C.R w w) (hd : o.dst = some d) (ho : o.op = .unOp op t x) (hw : wantB ops o E L = true) (he : exB ops o E = true)
    (hx : evE E L x = a) (h : ∀ w, (Op.unary op a).run P w = .ok v w) (hk : chain P ops C L rest ((d, .ex v) :: E) K) : chain P ops C L (o :: rest) E K :=
  chain_val v hr hd (fun cs b e => by rw [ho] at e; cases e) hw he (fun w hC => by
    have := h w
    simp only [execOp, ho, hx]
    rw [Sem.run_bind, this]; rfl) hk
theorem run_enter {ρ : Operand → Value} {f : FuncId} {c : Call} (ho : o.op = .call c) (hc : c.callee = .value (.func f)) (hρ : ρ (.func f) = .func (.func f) #[] #[]) (hf : Enters P f) (w : World) :
    (execOp ρ o).run P w = .ok (.enter f (c.args.map ρ)) w := by
  have := hf (c.args.map ρ) w
  simp [execOp, ho, resolve, hc, hρ, Deferred.ofValue, invoke, this]
theorem chain_call (v : Value) (f : FuncId) (vs : List Value) (xs : List Operand) (c : Call) (hf : Enters P f) (hd : o.dst = some d) (ho : o.op = .call c) (hc : c.callee = .value (.func f)) (hw : wantB ops o E L = true) (he : exB ops o E = true)
    (hxs : c.args = xs.toArray) (ha : xs.map (evE E L) = vs) (h : ∀ w, C.C w → Calls P f vs.toArray w fun e w' => e = .returned v ∧ C.R w w') (hk : chain P ops C L rest ((d, .ex v) :: E) K) : chain P ops C L (o :: rest) E K :=
  ⟨d, .ex v, hd, trivial, obl_ex (fun cs b e => by rw [ho] at e; cases e) hw he fun w hC => by
    rw [run_enter ho hc rfl hf, hxs, List.map_toArray, ha]
    exact (h w hC).mono fun e w' ⟨h1, h2⟩ => ⟨v, h1, h2, rfl⟩, hk⟩
/-- A call whose result is known by a word. -/
theorem chain_call_re (q : Word) (f : FuncId) (vs : List Value) (xs : List Operand) (c : Call) (hq : lasts C q) (hf : Enters P f) (hd : o.dst = some d) (ho : o.op = .call c) (hc : c.callee = .value (.func f)) (hw : wantB ops o E L = true) (he : exB ops o E = true)
    (hxs : c.args = xs.toArray) (ha : xs.map (evE E L) = vs) (h : ∀ w, C.C w → Calls P f vs.toArray w fun e w' => ∃ u, e = .returned u ∧ C.R w w' ∧ q u w') (hk : chain P ops C L rest ((d, .re q) :: E) K) : chain P ops C L (o :: rest) E K :=
  ⟨d, .re q, hd, hq, obl_ex (fun cs b e => by rw [ho] at e; cases e) hw he fun w hC => by
    rw [run_enter ho hc rfl hf, hxs, List.map_toArray, ha]
    exact h w hC, hk⟩
/-- A call of which one argument is known by a word. -/
theorem chain_call_use (v : Value) (k : Nat) (q : Word) (f : FuncId) (vs : Value → List Value) (xs : List Operand) (c : Call) (hf : Enters P f) (hd : o.dst = some d) (ho : o.op = .call c) (hc : c.callee = .value (.func f)) (hw : wantB ops o E L = true)
    (hq : lk E k = some (.re q)) (hl : (o.looksAt ops).contains k = true) (he : ∀ x, exB ops o ((k, .ex x) :: E) = true)
    (hxs : c.args = xs.toArray) (ha : ∀ x, xs.map (evE ((k, .ex x) :: E) L) = vs x) (h : ∀ x w, C.C w → q x w → Calls P f (vs x).toArray w fun e w' => e = .returned v ∧ C.R w w') (hk : chain P ops C L rest ((d, .ex v) :: E) K) : chain P ops C L (o :: rest) E K :=
  ⟨d, .ex v, hd, trivial, obl_re k q (fun cs b e => by rw [ho] at e; cases e) hw hq hl he fun x w hC hx => by
    rw [run_enter ho hc rfl hf, hxs, List.map_toArray, ha]
    exact (h x w hC hx).mono fun e w' ⟨h1, h2⟩ => ⟨v, h1, h2, rfl⟩, hk⟩
/-- Any operation that leaves a new block and a value known by a word. -/
theorem chain_new (q : Word) (hq : lasts C q) (hd : o.dst = some d) (hsel : ∀ cs b, o.op ≠ .select cs b) (hw : wantB ops o E L = true) (he : exB ops o E = true)
    (h : ∀ w, C.C w → ∃ u w', (execOp (evE E L) o).run P w = .ok (.value u) w' ∧ C.R w w' ∧ q u w') (hk : chain P ops C L rest ((d, .re q) :: E) K) : chain P ops C L (o :: rest) E K :=
  ⟨d, .re q, hd, hq, obl_ex hsel hw he fun w hC => by obtain ⟨u, w', h1, h2, h3⟩ := h w hC; rw [h1]; exact ⟨h2, h3⟩, hk⟩

theorem wp_region_old {id : Nat} {Q : Exit → Act → World → Prop} {ds : List Deferred} {w : World} {l : List Oper} (n m : Nat) (hm : P.follows .mixedOrders = true) (hB : invB l n m = true) (hLm : L.length = m)
    (h : chain P l.toArray (clOld w.drew) L (l.take n) [] (fun E => ∀ a' w', Old w.drew w' → a'.defers = ds → a'.tmps.size = m → (∀ d, known E L d (a'.tmps.getD d undef) w') → wpList P l.toArray Q (l.drop n) a' w')) :
    (Code.region id l.toArray true).wp P Q ⟨L.toArray, ds⟩ w :=
  wp_region_inv (C := clOld w.drew) n m hm hB hLm (fun _ _ h hb => Old.step h hb) (Below.refl _ _) h
/-! ### Behind the region -/
def layE (E : Env) (L : List Value) (xs : Nat → Value) : List Value := E.foldr (fun p l => l.set p.1 (match p.2 with | .ex v => v | .re _ => xs p.1)) L
theorem slotL_set (l : List Value) (i d : Nat) (v : Value) : slotL (l.set i v) d = if d = i ∧ d < l.length then v else slotL l d := by
  rw [slotL_eq, slotL_eq, List.getElem?_set]
  by_cases h : i = d
  · subst h
    by_cases hl : i < l.length
    · simp [hl]
    · simp [hl]
  · rw [if_neg h, if_neg (fun hh => h hh.1.symm)]
theorem layE_length (L : List Value) (xs : Nat → Value) : ∀ E : Env, (layE E L xs).length = L.length
  | [] => rfl
  | p :: E => by
    show ((layE E L xs).set _ _).length = _
    rw [List.length_set]; exact layE_length L xs E
theorem layE_slot (L : List Value) (xs : Nat → Value) (d : Nat) (hd : d < L.length) : ∀ E : Env, slotL (layE E L xs) d = match lk E d with
    | some (.ex v) => v
    | some (.re _) => xs d
    | none => slotL L d
  | [] => rfl
  | p :: E => by
    show slotL ((layE E L xs).set _ _) d = _
    obtain ⟨e, x⟩ := p
    rw [slotL_set, lk_cons, layE_length]
    by_cases h : d = e
    · subst h; rw [if_pos ⟨rfl, hd⟩, if_pos rfl]; cases x <;> rfl
    · rw [if_neg (fun hh => h hh.1), if_neg h]; exact layE_slot L xs d hd E
theorem chain_end {Q : Exit → Act → World → Prop} {tail : List Oper} {ds : List Deferred} {m : Nat} (hL : L.length = m)
    (h : ∀ (xs : Nat → Value) w', C.C w' → (∀ d q, lk E d = some (.re q) → q (xs d) w') → wpList P ops Q tail ⟨(layE E L xs).toArray, ds⟩ w') :
    chain P ops C L [] E (fun E => ∀ a' w', C.C w' → a'.defers = ds → a'.tmps.size = m → (∀ d, known E L d (a'.tmps.getD d undef) w') → wpList P ops Q tail a' w') := by
  intro a' w' hC hds hsz hk
  have e : a' = ⟨(layE E L fun d => a'.tmps.getD d undef).toArray, ds⟩ := by
    obtain ⟨tm, df⟩ := a'
    subst hds
    simp only [Act.mk.injEq, and_true]
    apply Array.ext_getElem?
    intro d
    by_cases hd : d < m
    · have h1 := layE_slot L (fun d => tm.getD d undef) d (by omega) E
      have h2 := hk d
      have hd' : d < (layE E L fun d => tm.getD d undef).length := by rw [layE_length]; omega
      have hd3 : d < tm.size := by have : tm.size = m := hsz; omega
      have g1 : tm[d]? = some (tm.getD d undef) := by simp [hd3]
      have g2 : ∀ l : List Value, d < l.length → l[d]? = some (slotL l d) := fun l hl => by rw [slotL_eq]; simp [hl]
      rw [g1, List.getElem?_toArray, g2 _ hd', h1]
      congr 1
      unfold known at h2
      revert h2
      cases lk E d with
      | none => exact fun h => h
      | some y => cases y with
        | ex v => exact fun h => h
        | re q => exact fun _ => rfl
    · have : tm.size = m := hsz
      rw [Array.getElem?_eq_none (xs := tm) (by omega), List.getElem?_toArray, List.getElem?_eq_none (by rw [layE_length]; omega)]
  rw [e]
  refine h _ _ hC fun d q hq => ?_
  have := hk d
  unfold known at this
  rw [hq] at this
  exact this
end

theorem old_end {B : Nat} {w w2 w1 : World} (hW : Below B w w2) (h : (clOld w2.drew).C w1) (hB : B ≤ w2.heap.size) : Below B w w1 := hW.drew.trans (Below.mono (show Below w2.drew.heap.size w2.drew w1 from h) hB)
/-! ### What the operations yield -/
theorem eql_set (N M : Nat) (x y : Operand) (w : World) : (do eqGuard .eql 25 x y (setV N) (setV M); binOp .eql 25 (setV N) (setV M) : Sem Value).run Tryd.prog w = .ok (.bool (eqS N M)) w := by
  simp [setV, go_sem, equalIn_words]
theorem neq_set (N M : Nat) (x y : Operand) (w : World) : (do eqGuard .neq 25 x y (setV N) (setV M); binOp .neq 25 (setV N) (setV M) : Sem Value).run Tryd.prog w = .ok (.bool (!eqS N M)) w := by
  simp [setV, go_sem, equalIn_words]
theorem eqS_refl (N : Nat) : eqS N N = true := by simp [eqS]
theorem eql_set_same (N : Nat) (x y : Operand) (w : World) : (do eqGuard .eql 25 x y (setV N) (setV N); binOp .eql 25 (setV N) (setV N) : Sem Value).run Tryd.prog w = .ok (.bool true) w := by
  rw [eql_set, eqS_refl]
theorem neq_set_same (N : Nat) (x y : Operand) (w : World) : (do eqGuard .neq 25 x y (setV N) (setV N); binOp .neq 25 (setV N) (setV N) : Sem Value).run Tryd.prog w = .ok (.bool false) w := by
  rw [neq_set, eqS_refl]; rfl
theorem eql_int (t : TypeId) (a b : Int) (x y : Operand) (w : World) : (do eqGuard .eql t x y (.int .i64 a) (.int .i64 b); binOp .eql t (.int .i64 a) (.int .i64 b) : Sem Value).run Tryd.prog w = .ok (.bool (a == b)) w := by
  simp [go_sem]
theorem eql_int_same (t : TypeId) (a : Int) (x y : Operand) (w : World) : (do eqGuard .eql t x y (.int .i64 a) (.int .i64 a); binOp .eql t (.int .i64 a) (.int .i64 a) : Sem Value).run Tryd.prog w = .ok (.bool true) w := by
  rw [eql_int]; simp
theorem neq_int_same (t : TypeId) (a : Int) (x y : Operand) (w : World) : (do eqGuard .neq t x y (.int .i64 a) (.int .i64 a); binOp .neq t (.int .i64 a) (.int .i64 a) : Sem Value).run Tryd.prog w = .ok (.bool false) w := by
  simp [go_sem]
theorem eql_bool_same (a : Bool) (x y : Operand) (w : World) : (do eqGuard .eql 4 x y (.bool a) (.bool a); binOp .eql 4 (.bool a) (.bool a) : Sem Value).run Tryd.prog w = .ok (.bool true) w := by
  cases a <;> simp [go_sem]
theorem neq_bool_same (a : Bool) (x y : Operand) (w : World) : (do eqGuard .neq 4 x y (.bool a) (.bool a); binOp .neq 4 (.bool a) (.bool a) : Sem Value).run Tryd.prog w = .ok (.bool false) w := by
  cases a <;> simp [go_sem]
theorem un_not (a : Bool) (w : World) : (Op.unary .not (.bool a)).run Tryd.prog w = .ok (.bool (!a)) w := by
  simp [go_sem, Op.unary]
theorem load_set {w : World} {b N : Nat} (h : Blk w b (setA N) 25) : (Instr.loadAt 25 (.pointer (some ⟨b, 0, none⟩))).run Tryd.prog w = .ok (setV N) w := by
  obtain ⟨c0, c1, c2, c3, f⟩ := h.set4
  simp [go_sem, c0, c1, c2, c3, setV]
theorem eql_string_same (s : ByteArray) (t : TypeId) (x y : Operand) (w : World) : (do eqGuard .eql t x y (.string s) (.string s); binOp .eql t (.string s) (.string s) : Sem Value).run Tryd.prog w = .ok (.bool true) w := by
  simp [go_sem]
theorem run_build0 {ρ : Operand → Value} {o : Oper} (ho : o.op = .build 25 #[]) (w : World) : (execOp ρ o).run Tryd.prog w = .ok (.value (setV 0)) w := by
  simp [execOp, ho, go_sem, Instr.build, setV, word_zero]
/-- A slice of these integers, in a block of its own. -/
def ints_w (xs : List Int) : Word := fun v w => ∃ b, v = .slice (some ⟨b, 0, none⟩) xs.length xs.length ∧ Blk w b (xs.map (Value.int .i64)).toArray 3
theorem ints_lasts {w0 : World} (xs : List Int) : lasts (clOld w0) (ints_w xs) := fun v w w' _ hR ⟨b, hv, hB⟩ => ⟨b, hv, hB.below hR hB.lt⟩
theorem ints_new {w0 w : World} {xs : List Int} {ρ : Operand → Value} {o : Oper} (h : (execOp ρ o).run Tryd.prog w = .ok (.value (.slice (some ⟨w.heap.size, 0, none⟩) xs.length xs.length)) (w.alloc (.cells (xs.map (Value.int .i64)).toArray 3))) (hC : (clOld w0).C w) :
    ∃ u w', (execOp ρ o).run Tryd.prog w = .ok (.value u) w' ∧ (clOld w0).R w w' ∧ ints_w xs u w' :=
  ⟨_, _, h, (Below.refl _ _).alloc (Nat.le_refl _) _, _, rfl, Blk.new _ _ _⟩
theorem load_int {w : World} {b : Nat} {a : Int} (h : w.cell? ⟨b, 0, none⟩ = some (.int .i64 a)) : (Instr.loadAt 3 (.pointer (some ⟨b, 0, none⟩))).run Tryd.prog w = .ok (.int .i64 a) w := by
  simp [go_sem, h]
end Go.Proofs.YtjifajigigflkaaDoor
/- Sets as numbers: the mathematics of the lattice, of sizes and of the order. -/
namespace Go.Proofs.YtjifajigigflkaaDoor
set_option linter.unusedSimpArgs false
set_option linter.unusedVariables false
open Go Go.RowKit

theorem cnt_or_and (x y : Nat) : ∀ n, cnt (x ||| y) n + cnt (x &&& y) n = cnt x n + cnt y n
  | 0 => rfl
  | n + 1 => by
    have ih := cnt_or_and x y n
    simp only [cnt, Nat.testBit_or, Nat.testBit_and]
    cases x.testBit n <;> cases y.testBit n <;> simp <;> omega
theorem cnt_and_diff (x y : Nat) : ∀ n, cnt (x &&& y) n + cnt (diff x y) n = cnt x n
  | 0 => rfl
  | n + 1 => by
    have ih := cnt_and_diff x y n
    simp only [cnt, testBit_diff, Nat.testBit_and]
    cases x.testBit n <;> cases y.testBit n <;> simp <;> omega
theorem card_or_and (x y : Nat) : card (x ||| y) + card (x &&& y) = card x + card y := cnt_or_and x y 256
theorem card_and_diff (x y : Nat) : card (x &&& y) + card (diff x y) = card x := cnt_and_diff x y 256
theorem or_and_diff (a b : Nat) : (a &&& b) ||| diff a b = a := by
  apply Nat.eq_of_testBit_eq; intro i
  rw [Nat.testBit_or, Nat.testBit_and, testBit_diff]
  cases a.testBit i <;> cases b.testBit i <;> rfl
theorem and_and_diff (a b : Nat) : (a &&& b) &&& diff a b = 0 := by
  apply Nat.eq_of_testBit_eq; intro i
  rw [Nat.testBit_and, Nat.testBit_and, testBit_diff, Nat.zero_testBit]
  cases a.testBit i <;> cases b.testBit i <;> rfl
theorem diff_zero_iff (a b : Nat) : diff a b = 0 ↔ ∀ i, a.testBit i = true → b.testBit i = true := by
  constructor
  · intro h i ha
    have := congrArg (·.testBit i) h
    simp only [testBit_diff, Nat.zero_testBit, ha, Bool.true_and] at this
    simpa using this
  · intro h
    apply Nat.eq_of_testBit_eq; intro i
    rw [testBit_diff, Nat.zero_testBit]
    have := h i
    cases ha : a.testBit i
    · rfl
    · rw [this ha]; rfl
theorem within_or (a b : Nat) : diff a b = 0 ↔ a ||| b = b := by
  rw [diff_zero_iff]
  constructor
  · intro h
    apply Nat.eq_of_testBit_eq; intro i
    rw [Nat.testBit_or]
    have := h i
    cases ha : a.testBit i
    · rfl
    · rw [this ha]; rfl
  · intro h i ha
    rw [← h, Nat.testBit_or, ha]; rfl
theorem within_and (a b : Nat) : diff a b = 0 ↔ a &&& b = a := by
  rw [diff_zero_iff]
  constructor
  · intro h
    apply Nat.eq_of_testBit_eq; intro i
    rw [Nat.testBit_and]
    have := h i
    cases ha : a.testBit i
    · rfl
    · rw [this ha]; rfl
  · intro h i ha
    rw [← h, Nat.testBit_and] at ha
    revert ha; cases b.testBit i <;> simp
theorem diff_or_self (a b : Nat) : diff a (a ||| b) = 0 := (diff_zero_iff _ _).2 fun i h => by rw [Nat.testBit_or, h]; rfl
theorem diff_and_self (a b : Nat) : diff (a &&& b) a = 0 := (diff_zero_iff _ _).2 fun i h => by rw [Nat.testBit_and] at h; revert h; cases a.testBit i <;> simp
theorem within_le {a b : Nat} (h : diff a b = 0) : a ≤ b := by
  rw [within_and] at h
  rw [← h]; exact Nat.and_le_right
theorem eqS_self (a : Nat) : eqS a a = true := by simp [eqS]
theorem eqS_iff {N M : Nat} (hN : N < 2 ^ 256) (hM : M < 2 ^ 256) : eqS N M = true ↔ N = M := by rw [eqS_eq hN hM]; simp
theorem eqS_of {N M : Nat} {p : Bool} (hN : N < 2 ^ 256) (hM : M < 2 ^ 256) (h : p = true ↔ N = M) : eqS N M = p := by
  rw [Bool.eq_iff_iff, eqS_iff hN hM, h]
theorem cmp_neg (a b : Nat) : cmpS b a = -cmpS a b := by unfold cmpS; split <;> split <;> omega
theorem cmp_zero (a b : Nat) : cmpS a b = 0 ↔ a = b := by
  unfold cmpS
  by_cases h1 : a < b
  · rw [if_pos h1]; omega
  · rw [if_neg h1]; split <;> omega
theorem cmp_le (a b : Nat) : cmpS a b ≤ 0 ↔ a ≤ b := by
  unfold cmpS
  by_cases h1 : a < b
  · rw [if_pos h1]; omega
  · rw [if_neg h1]; split <;> omega
end Go.Proofs.YtjifajigigflkaaDoor
/- Arguments that are sets or integers: read, and read again. -/
namespace Go.Proofs.YtjifajigigflkaaDoor
set_option linter.unusedSimpArgs false
set_option linter.unusedVariables false
open Go Go.RowKit Go.ChangeShapes Go.WideShapes

theorem cellsSet : Tryd.prog.cellsOf 25 = 4 := by kernel_rfl
theorem cellsU64 : Tryd.prog.cellsOf 23 = 1 := by kernel_rfl
/-- A set as a datum. -/
def setD {H : Type} (N : Nat) : DataW H := .agg [.lit (.int .u64 (word N 0)), .lit (.int .u64 (word N 1)), .lit (.int .u64 (word N 2)), .lit (.int .u64 (word N 3))]
theorem wf_u64 {n : Int} : (Lit.int .u64 n).wf = true ↔ 0 ≤ n ∧ n < 18446744073709551616 := by
  have e1 : IntKind.u64.min = 0 := by decide
  have e2 : IntKind.u64.max = 18446744073709551615 := by decide
  simp [Lit.wf, e1, e2]
  omega
variable {H : Type} {enc : TypeId × Value → H} {W : World} {base : Nat} {sp : Nat → Bool} {held : Bool}
set_option maxRecDepth 100000 in
theorem open_set {r : Reach} {b0 : Nat} {v : Value} {d : DataW H} {ps : List MemPlace} (hval : Value.okWide Tryd.prog W r b0 25 v) (hd : DataW.Trod enc Tryd.prog W base sp held 25 v d ps) :
    ∃ N, N < 2 ^ 256 ∧ v = setV N ∧ d = setD N ∧ ps = [] := by
  simp only [Value.okWide, Tryd.underlying25] at hval
  obtain ⟨cs, rfl, h2, _⟩ := hval
  rw [cellsSet] at h2
  obtain ⟨l⟩ := cs
  match l, h2 with
  | [a, b, c, e], _ =>
    obtain ⟨fuel, hf⟩ := hd
    cases fuel with
    | zero => simp [DataW.trod] at hf
    | succ m =>
      rw [DataW.trod_step] at hf
      unfold DataW.trodStep at hf
      simp only [Tryd.underlying25, Value.cells, cellsSet, cellsU64] at hf
      simp only [List.length_cons, List.length_nil, Nat.reduceAdd, if_true, Option.map_eq_some_iff, show List.range 4 = [0, 1, 2, 3] from rfl, List.mapM_cons, List.mapM_nil, bind, Option.bind_eq_some_iff, pure, Option.some.injEq, Nat.mul_one, List.drop_zero, List.drop_succ_cons, List.take_succ_cons, List.take_zero, Prod.mk.injEq] at hf
      obtain ⟨ys, ⟨y0, h0, r0, ⟨y1, h1, r1, ⟨y2, h2, r2, ⟨y3, h3, r3, rfl, rfl⟩, rfl⟩, rfl⟩, rfl⟩, rfl, rfl⟩ := hf
      obtain ⟨n0, e0, rfl, w0⟩ := DataW.trod_int Tryd.underlying23 h0
      obtain ⟨n1, e1, rfl, w1⟩ := DataW.trod_int Tryd.underlying23 h1
      obtain ⟨n2, e2, rfl, w2⟩ := DataW.trod_int Tryd.underlying23 h2
      obtain ⟨n3, e3, rfl, w3⟩ := DataW.trod_int Tryd.underlying23 h3
      rw [wf_u64] at w0 w1 w2 w3
      obtain ⟨m0, rfl⟩ := Int.eq_ofNat_of_zero_le w0.1
      obtain ⟨m1, rfl⟩ := Int.eq_ofNat_of_zero_le w1.1
      obtain ⟨m2, rfl⟩ := Int.eq_ofNat_of_zero_le w2.1
      obtain ⟨m3, rfl⟩ := Int.eq_ofNat_of_zero_le w3.1
      obtain ⟨k0, k1, k2, k3⟩ := word_ofWords (a := m0) (b := m1) (c := m2) (d := m3) (by omega) (by omega) (by omega) (by omega)
      refine ⟨ofWords m0 m1 m2 m3, ofWords_lt (by omega) (by omega) (by omega) (by omega), ?_, ?_, ?_⟩
      · unfold setV; rw [k0, k1, k2, k3]
        simp only [List.cons.injEq, and_true] at e0 e1 e2 e3
        rw [e0, e1, e2, e3]
      · unfold setD; rw [k0, k1, k2, k3]; rfl
      · rfl
theorem shut_set (N : Nat) : DataW.Trod enc Tryd.prog W base sp held 25 (setV N) (setD N) [] := by
  refine ⟨2, ?_⟩
  have hw : ∀ i, (Lit.int .u64 (word N i)).wf = true := fun i => wf_u64.2 ⟨by omega, by have := word_lt N i; omega⟩
  have hi : ∀ i, DataW.trod enc Tryd.prog W base sp held 1 23 [.int .u64 (word N i)] = some (.lit (.int .u64 (word N i)), []) := fun i => trod_int_mk 0 Tryd.underlying23 (hw i)
  rw [DataW.trod_step]
  unfold DataW.trodStep
  simp only [Tryd.underlying25, Value.cells, setV, cellsSet, cellsU64]
  simp only [List.length_cons, List.length_nil, Nat.reduceAdd, if_true, Option.map_eq_some_iff, show List.range 4 = [0, 1, 2, 3] from rfl, List.mapM_cons, List.mapM_nil, bind, Option.bind, pure, Nat.mul_one, List.drop_zero, List.drop_succ_cons, List.take_succ_cons, List.take_zero, hi]
  exact ⟨_, rfl, rfl⟩
end Go.Proofs.YtjifajigigflkaaDoor
