/- One theorem about a region that draws its order: its operations yield the same values in every order, if each yields one value in every world that agrees with the first one on all old blocks. New variables (alloc) may come anywhere; a forced tail comes last. / A region that draws its order, operation by operation: each yields a value that its own word allows, whatever came before it; so the order does not matter. -/
import Derived.StillTail
import Derived.Below
import Derived.WalkKit
/- One theorem about a region that draws its order: its operations yield the same values in every order, if each yields one value in every world that agrees with the first one on all old blocks. New variables (alloc) may come anywhere; a forced tail comes last. -/
namespace Go.Proofs.YthjeiaildabadaaGreat
set_option linter.unusedSimpArgs false
set_option linter.unusedVariables false
open Go Go.RowKit

/-- The value of a slot, read along the list. -/
def slotL : List Value → Nat → Value
  | [], _ => undef
  | v :: _, 0 => v
  | _ :: l, n + 1 => slotL l n
theorem slotL_zero (v : Value) (l : List Value) : slotL (v :: l) 0 = v := rfl
theorem slotL_succ (v : Value) (l : List Value) (n : Nat) : slotL (v :: l) (n + 1) = slotL l n := rfl
theorem slotL_eq : ∀ (l : List Value) (n : Nat), slotL l n = (l[n]?).getD undef
  | [], _ => rfl
  | _ :: _, 0 => rfl
  | _ :: l, n + 1 => by rw [slotL_succ, slotL_eq l n]; simp
theorem slotL_tmps (a : Act) (d : Nat) : slotL a.tmps.toList d = a.tmps.getD d undef := by
  rw [slotL_eq]; simp

/-- What is asked of an operation's run at w: it yields v, and what lies below stays. -/
def calmUpon (P : Program) (R : World → World → Prop) (w : World) (v : Value) : Result Next → Prop
  | .ok (.value u) w' => R w w' ∧ u = v
  | .ok .skip w' => R w w' ∧ v = undef
  | .ok (.enter f args) w' => Calls P f args w' (fun e w'' => e = .returned v ∧ R w w'')
  | .ok (.row row args) w' => Rows P row args w' (fun u w'' => u = v ∧ R w w'')
  | _ => False
/-- A class of worlds, and what an operation may do to them. -/
structure Cl where
  C : World → Prop
  R : World → World → Prop
def calm (P : Program) (o : Oper) (a : Act) (C : Cl) (v : Value) : Prop := ∀ w, C.C w → calmUpon P C.R w v ((execOp a.eval o).run P w)
def isAlloc (o : Oper) : Bool := match o.op with | .alloc _ => true | _ => false

def cOp (P : Program) (ops : Array Oper) (C : Cl) (i : Nat) (K : Act → Prop) (a : Act) : Prop :=
  match ops[i]? with
  | none => K a
  | some o => if Region.wanted o (yielded ops a.tmps) then (if isAlloc o then ∀ b : Nat, K (a.put o.dst (.pointer (some ⟨b, 0, none⟩))) else ∃ v, calm P o a C v ∧ K (a.put o.dst v)) else K (a.put o.dst undef)

section
variable {P : Program} {ops : Array Oper} {C : Cl} {md : Region.Mode}

theorem cOp_mono {i : Nat} {a : Act} {K K' : Act → Prop} (h : ∀ a, K a → K' a) (hh : cOp P ops C i K a) : cOp P ops C i K' a := by
  unfold cOp at *
  split
  · rename_i ho; simp only [ho] at hh; exact h _ hh
  · rename_i o ho
    simp only [ho] at hh
    split
    · rename_i hw
      simp only [hw, if_true] at hh
      split
      · rename_i ha; simp only [ha, if_true] at hh; exact fun b => h _ (hh b)
      · rename_i ha
        simp only [ha] at hh
        obtain ⟨v, hv, hk⟩ := hh
        exact ⟨v, hv, h _ hk⟩
    · rename_i hw; simp only [hw] at hh; exact h _ hh

/-- Whatever comes up of the first n operations; then L. -/
def anyC (P : Program) (md : Region.Mode) (ops : Array Oper) (C : Cl) (n : Nat) (L : Array Bool → Act → Prop) : Nat → Array Bool → Act → Prop
  | 0, listed, a => L listed a
  | f + 1, listed, a => Region.ready md ops listed ≠ [] ∧ ∀ i ∈ Region.ready md ops listed, i < n ∧ cOp P ops C i (anyC P md ops C n L f (listed.setIfInBounds i true)) a

/-- In state a, operation o leaves v. -/
def leaves (P : Program) (ops : Array Oper) (C : Cl) (o : Oper) (v : Value) (a : Act) : Prop :=
  (Region.wanted o (yielded ops a.tmps) = true ∧ isAlloc o = false ∧ calm P o a C v) ∨ (Region.wanted o (yielded ops a.tmps) = false ∧ v = undef)

theorem leaves_same {o : Oper} {v : Value} {a a' : Act} (hy : leaves P ops C o v a) (he : execOp a'.eval o = execOp a.eval o)
    (hw : Region.wanted o (yielded ops a'.tmps) = Region.wanted o (yielded ops a.tmps)) : leaves P ops C o v a' := by
  unfold leaves calm at *
  rw [he, hw]
  exact hy

theorem cOp_of_leaves {i : Nat} {o : Oper} {v : Value} {a : Act} (hi : ops[i]? = some o) (hy : leaves P ops C o v a) {K : Act → Prop} (h : K (a.put o.dst v)) : cOp P ops C i K a := by
  unfold cOp
  simp only [hi]
  rcases hy with ⟨hw, ha, hv⟩ | ⟨hw, rfl⟩
  · simp only [hw, if_true, ha]; exact ⟨v, hv, h⟩
  · simp only [hw]; exact h

theorem cOp_put {i j : Nat} {oi oj : Oper} {v : Value} (_hi : ops[i]? = some oi) (hj : ops[j]? = some oj) (hap : oi.apart ops oj = true)
    (hsi : ∀ cs b, oi.op ≠ .select cs b) (hsj : ∀ cs b, oj.op ≠ .select cs b) {K : Act → Prop} {a : Act}
    (hy : leaves P ops C oi v a) (h : cOp P ops C j K (a.put oi.dst v)) :
    cOp P ops C j (fun a' => leaves P ops C oi v a' ∧ K (a'.put oi.dst v)) a := by
  obtain ⟨h1, h2, h3⟩ := Oper.apart_spec hap
  have keep : ∀ u, leaves P ops C oi v (a.put oj.dst u) := fun u =>
    leaves_same hy (execOp_put oi hsi a oj.dst u h3) (wanted_put oi a oj.dst u h3)
  unfold cOp at *
  simp only [hj] at *
  rw [wanted_put oj a oi.dst v h1] at h
  split
  · rename_i hw
    simp only [hw, if_true] at h
    split
    · rename_i ha
      simp only [ha, if_true] at h
      exact fun b => ⟨keep _, by rw [← Act.put_comm a v _ h2]; exact h b⟩
    · rename_i ha
      simp only [ha] at h
      obtain ⟨u, hu, hn⟩ := h
      refine ⟨u, fun w hw' => ?_, keep u, by rw [← Act.put_comm a v u h2]; exact hn⟩
      have := hu w hw'
      rwa [execOp_put oj hsj a oi.dst v h1] at this
  · rename_i hw
    simp only [hw] at h
    exact ⟨keep _, by rw [← Act.put_comm a v undef h2]; exact h⟩

/-- Nothing of the tail may come up while an operation of the head is left. -/
def tailLast (md : Region.Mode) (ops : Array Oper) (n : Nat) : Bool := decide (n = ops.size) || (decide (n < ops.size) && Region.sinkB md ops n && Region.chainB md ops n)

theorem ready_head {n : Nat} {listed : Array Bool} (hT : tailLast md ops n = true) (inv : HeadInv md ops n listed) (i : Nat) (hin : i < n) (hun : listed.getD i true = false) :
    ∀ j ∈ Region.ready md ops listed, j < n := by
  intro j hj
  simp only [tailLast, Bool.or_eq_true, Bool.and_eq_true, decide_eq_true_eq] at hT
  rcases hT with hT | ⟨⟨hn, hs⟩, hc⟩
  · obtain ⟨_, o, ho, _⟩ := mem_ready.1 hj
    have := (Array.getElem?_eq_some_iff.1 ho).1
    omega
  · rcases Nat.lt_or_ge j n with h | h
    · exact h
    · exact absurd hj (tail_waits hs hc hn inv _ i rfl hin hun j h)

theorem not_waits {i : Nat} {oj : Oper} {listed : Array Bool} (hun : listed.getD i true = false) (hall : ∀ e ∈ oj.after, Region.binds md e = true → listed.getD e.on false = true) :
    ∀ e ∈ oj.after, Region.binds md e = true → e.on ≠ i := fun e he hb heq => by
  have h1 := hall e he hb
  rw [heq, getD_both hun] at h1
  cases h1

theorem anyC_first {n i : Nat} {oi : Oper} {v : Value} {L : Array Bool → Act → Prop} (hi : ops[i]? = some oi) (hsel : ∀ (j : Nat) (o : Oper) cs b, ops[j]? = some o → o.op ≠ .select cs b)
    (hT : tailLast md ops n = true) (hin : i < n) (hdone : ∀ listed a, L listed a → ∀ j ∈ Region.ready md ops listed, n ≤ j) :
    ∀ (f : Nat) (listed : Array Bool) (a : Act), HeadInv md ops n listed →
      (∀ j oj, ops[j]? = some oj → j ≠ i → listed.getD j true = false → (∀ e ∈ oj.after, Region.binds md e = true → e.on ≠ i) → oi.apart ops oj = true) →
      i ∈ Region.ready md ops listed → leaves P ops C oi v a →
      anyC P md ops C n L f (listed.setIfInBounds i true) (a.put oi.dst v) → anyC P md ops C n L (f + 1) listed a := by
  intro f
  induction f with
  | zero =>
    intro listed a inv _ hr hy H
    have hun := (mem_ready.1 hr).1
    refine ⟨fun h => (by rw [h] at hr; cases hr), fun j hj => ⟨ready_head hT inv i hin hun j hj, ?_⟩⟩
    have hjn := ready_head hT inv i hin hun j hj
    by_cases hji : j = i
    · subst hji; exact cOp_of_leaves hi hy H
    · have := hdone _ _ H j (ready_mono hj hji)
      omega
  | succ f ih =>
    intro listed a inv hfree hr hy H
    have hun := (mem_ready.1 hr).1
    refine ⟨fun h => (by rw [h] at hr; cases hr), fun j hj => ⟨ready_head hT inv i hin hun j hj, ?_⟩⟩
    have hjn := ready_head hT inv i hin hun j hj
    by_cases hji : j = i
    · subst hji; exact cOp_of_leaves hi hy H
    · have h1 := (H.2 j (ready_mono hj hji)).2
      obtain ⟨hjun, oj, hoj, hall⟩ := mem_ready.1 hj
      have h2 := cOp_put hi hoj (hfree j oj hoj hji hjun (not_waits hun hall)) (fun cs b => hsel i oi cs b hi) (fun cs b => hsel j oj cs b hoj) hy h1
      have hfree' : ∀ k ok, ops[k]? = some ok → k ≠ i → (listed.setIfInBounds j true).getD k true = false →
          (∀ e ∈ ok.after, Region.binds md e = true → e.on ≠ i) → oi.apart ops ok = true := fun k ok hk hki hun hno => by
        refine hfree k ok hk hki ?_ hno
        by_cases hjk : j = k
        · subst hjk; exact hjun
        · rw [getD_set_ne true hjk] at hun; exact hun
      refine cOp_mono (fun a' h3 => ih (listed.setIfInBounds j true) a' (inv.set hj hjn) hfree' (ready_mono hr (Ne.symm hji)) h3.1 ?_) h2
      rw [Array.setIfInBounds_comm _ _ hji]
      exact h3.2

/-- The operations of the head that are left are all new variables (or not wanted): they may be taken in any order. -/
theorem cOp_putA {j : Nat} {oi oj : Oper} (hj : ops[j]? = some oj) (ha : isAlloc oj = true) (hap : oi.apart ops oj = true)
    {K : Act → Prop} {a : Act} (h : ∀ b : Nat, cOp P ops C j K (a.put oi.dst (.pointer (some ⟨b, 0, none⟩)))) :
    cOp P ops C j (fun a' => ∀ b : Nat, K (a'.put oi.dst (.pointer (some ⟨b, 0, none⟩)))) a := by
  obtain ⟨h1, h2, h3⟩ := Oper.apart_spec hap
  unfold cOp at *
  simp only [hj] at *
  by_cases hw : Region.wanted oj (yielded ops a.tmps) = true
  · rw [if_pos hw, if_pos ha]
    intro c b
    have := h b
    rw [wanted_put oj a oi.dst _ h1, if_pos hw, if_pos ha] at this
    rw [← Act.put_comm a _ _ h2]
    exact this c
  · rw [if_neg hw]
    intro b
    have := h b
    rw [wanted_put oj a oi.dst _ h1, if_neg hw] at this
    rw [← Act.put_comm a _ undef h2]
    exact this

theorem wanted_apart {oi oj : Oper} (hap : oi.apart ops oj = true) (a : Act) (u : Value) : Region.wanted oi (yielded ops (a.put oj.dst u).tmps) = Region.wanted oi (yielded ops a.tmps) :=
  wanted_put oi a oj.dst u (Oper.apart_spec hap).2.2

theorem anyC_firstA {n i : Nat} {oi : Oper} {L : Array Bool → Act → Prop} (hi : ops[i]? = some oi) (hal : isAlloc oi = true)
    (hT : tailLast md ops n = true) (hin : i < n) (hdone : ∀ listed a, L listed a → ∀ j ∈ Region.ready md ops listed, n ≤ j) :
    ∀ (f : Nat) (listed : Array Bool) (a : Act), HeadInv md ops n listed →
      (∀ j oj, ops[j]? = some oj → j ≠ i → listed.getD j true = false → (∀ e ∈ oj.after, Region.binds md e = true → e.on ≠ i) → oi.apart ops oj = true) →
      (∀ j oj, ops[j]? = some oj → j < n → listed.getD j true = false → isAlloc oj = true) →
      i ∈ Region.ready md ops listed → Region.wanted oi (yielded ops a.tmps) = true →
      (∀ b : Nat, anyC P md ops C n L f (listed.setIfInBounds i true) (a.put oi.dst (.pointer (some ⟨b, 0, none⟩)))) → anyC P md ops C n L (f + 1) listed a := by
  intro f
  induction f with
  | zero =>
    intro listed a inv _ _ hr hw H
    have hun := (mem_ready.1 hr).1
    refine ⟨fun h => (by rw [h] at hr; cases hr), fun j hj => ⟨ready_head hT inv i hin hun j hj, ?_⟩⟩
    have hjn := ready_head hT inv i hin hun j hj
    by_cases hji : j = i
    · subst hji; unfold cOp; simp only [hi, hw, if_true, hal]; exact H
    · have := hdone _ _ (H 0) j (ready_mono hj hji)
      omega
  | succ f ih =>
    intro listed a inv hfree hallA hr hw H
    have hun := (mem_ready.1 hr).1
    refine ⟨fun h => (by rw [h] at hr; cases hr), fun j hj => ⟨ready_head hT inv i hin hun j hj, ?_⟩⟩
    have hjn := ready_head hT inv i hin hun j hj
    by_cases hji : j = i
    · subst hji; unfold cOp; simp only [hi, hw, if_true, hal]; exact H
    · obtain ⟨hjun, oj, hoj, hall⟩ := mem_ready.1 hj
      have hap := hfree j oj hoj hji hjun (not_waits hun hall)
      have h2 := cOp_putA hoj (hallA j oj hoj hjn hjun) hap (fun b => ((H b).2 j (ready_mono hj hji)).2)
      have hfree' : ∀ k ok, ops[k]? = some ok → k ≠ i → (listed.setIfInBounds j true).getD k true = false →
          (∀ e ∈ ok.after, Region.binds md e = true → e.on ≠ i) → oi.apart ops ok = true := fun k ok hk hki hun hno => by
        refine hfree k ok hk hki ?_ hno
        by_cases hjk : j = k
        · subst hjk; exact hjun
        · rw [getD_set_ne true hjk] at hun; exact hun
      have hallA' : ∀ k ok, ops[k]? = some ok → k < n → (listed.setIfInBounds j true).getD k true = false → isAlloc ok = true := fun k ok hk hkn hun => by
        refine hallA k ok hk hkn ?_
        by_cases hjk : j = k
        · subst hjk; exact hjun
        · rw [getD_set_ne true hjk] at hun; exact hun
      have hK : ∀ a' : Act, (Region.wanted oi (yielded ops a'.tmps) = true ∧ ∀ b : Nat, anyC P md ops C n L f ((listed.setIfInBounds i true).setIfInBounds j true) (a'.put oi.dst (.pointer (some ⟨b, 0, none⟩)))) →
          anyC P md ops C n L (f + 1) (listed.setIfInBounds j true) a' := fun a' ⟨h0, h3⟩ =>
        ih (listed.setIfInBounds j true) a' (inv.set hj hjn) hfree' hallA' (ready_mono hr (Ne.symm hji)) h0 (by rw [Array.setIfInBounds_comm _ _ hji]; exact h3)
      have ha := hallA j oj hoj hjn hjun
      unfold cOp at h2 ⊢
      simp only [hoj] at h2 ⊢
      by_cases hwj : Region.wanted oj (yielded ops a.tmps) = true
      · rw [if_pos hwj, if_pos ha] at h2
        rw [if_pos hwj, if_pos ha]
        exact fun c => hK _ ⟨by rw [wanted_apart hap]; exact hw, h2 c⟩
      · rw [if_neg hwj] at h2
        rw [if_neg hwj]
        exact hK _ ⟨by rw [wanted_apart hap]; exact hw, h2⟩

/-- The order in which the walk takes the operations of the head: first all but the new variables, then these. -/
def headOrder (ops : Array Oper) (n : Nat) : List Nat :=
  (List.range n).filter (fun i => !((ops[i]?).map isAlloc).getD false) ++ (List.range n).filter (fun i => ((ops[i]?).map isAlloc).getD false)

/-- The walk in an order: each operation that is no new variable yields one value; a new variable lies anywhere. -/
def wpC (P : Program) (ops : Array Oper) (C : Cl) (Q : Act → Prop) : List Nat → Act → Prop
  | [], a => Q a
  | i :: rest, a => cOp P ops C i (wpC P ops C Q rest) a

theorem wpC_mono {Q Q' : Act → Prop} (h : ∀ a, Q a → Q' a) : ∀ (l : List Nat) (a : Act), wpC P ops C Q l a → wpC P ops C Q' l a
  | [], _, hh => h _ hh
  | _ :: l, _, hh => cOp_mono (fun a' => wpC_mono h l a') hh

/-- At each step the next one may come up, is free, and, if it is a new variable, all others of the head that are left are, too. -/
def orderOk (md : Region.Mode) (ops : Array Oper) (n g : Nat) : List Nat → Array Bool → Bool
  | [], listed => Region.seqB md ops g n listed && (List.range n).all fun j => listed.getD j false
  | i :: rest, listed => decide (i < n) && (Region.ready md ops listed).contains i && Region.free md ops listed i &&
      (match ops[i]? with
       | some o => !isAlloc o || (o.guard.isNone && (List.range n).all fun j => listed.getD j true || ((ops[j]?).map isAlloc).getD false)
       | none => false) && orderOk md ops n g rest (listed.setIfInBounds i true)

theorem anyC_order {n g : Nat} {Lq : Act → Prop} (hsel : Region.noSelect ops = true) (hT : tailLast md ops n = true) :
    ∀ (l : List Nat) (listed : Array Bool) (a : Act), HeadInv md ops n listed → orderOk md ops n g l listed = true → wpC P ops C Lq l a →
    anyC P md ops C n (fun listed' a' => (Region.seqB md ops g n listed' = true ∧ ((List.range n).all fun j => listed'.getD j false) = true) ∧ Lq a') l.length listed a
  | [], listed, a, _, hB, h => ⟨by simpa only [orderOk, Bool.and_eq_true] using hB, h⟩
  | i :: l, listed, a, inv, hB, h => by
    simp only [orderOk, Bool.and_eq_true, decide_eq_true_eq] at hB
    obtain ⟨⟨⟨⟨hin, hr⟩, hf⟩, hk⟩, hB'⟩ := hB
    have hr' : i ∈ Region.ready md ops listed := by simpa using hr
    obtain ⟨_, o, ho, _⟩ := mem_ready.1 hr'
    simp only [ho, Bool.or_eq_true] at hk
    have hd : ∀ listed' a', ((Region.seqB md ops g n listed' = true ∧ ((List.range n).all fun j => listed'.getD j false) = true) ∧ Lq a') → ∀ j ∈ Region.ready md ops listed', n ≤ j := fun listed' a' hL => seqB_ready hL.1.1
    have hc : cOp P ops C i (wpC P ops C Lq l) a := h
    unfold cOp at hc
    simp only [ho] at hc
    by_cases hw : Region.wanted o (yielded ops a.tmps) = true
    · rw [if_pos hw] at hc
      by_cases ha : isAlloc o = true
      · rw [if_pos ha] at hc
        have hk' : o.guard.isNone = true ∧ ((List.range n).all fun j => listed.getD j true || ((ops[j]?).map isAlloc).getD false) = true := by
          rcases hk with hk | hk
          · rw [ha] at hk; cases hk
          · simpa using hk
        refine anyC_firstA ho ha hT hin hd l.length listed a inv (Region.free_spec ho hf) ?_ hr' hw (fun b => anyC_order hsel hT l _ _ (inv.set hr' hin) hB' (hc b))
        intro j oj hoj hjn hjun
        have := List.all_eq_true.1 hk'.2 j (List.mem_range.2 hjn)
        rw [hjun, hoj] at this
        simpa using this
      · rw [if_neg ha] at hc
        obtain ⟨v, hv, hK⟩ := hc
        exact anyC_first ho (Region.noSelect_spec hsel) hT hin hd l.length listed a inv (Region.free_spec ho hf) hr' (.inl ⟨hw, by simpa using ha, hv⟩) (anyC_order hsel hT l _ _ (inv.set hr' hin) hB' hK)
    · rw [if_neg hw] at hc
      exact anyC_first ho (Region.noSelect_spec hsel) hT hin hd l.length listed a inv (Region.free_spec ho hf) hr' (.inr ⟨by simpa using hw, rfl⟩) (anyC_order hsel hT l _ _ (inv.set hr' hin) hB' hc)

/-! ### It is sound -/
theorem upon_of_calm {o : Oper} {a : Act} {K : Act → World → Prop} {Q' : Exit → Act → World → Prop} {R : World → World → Prop} {w : World} {v : Value} {r : Result Next} (h : calmUpon P R w v r) (hK : ∀ w', R w w' → K (a.put o.dst v) w') : o.upon P a K Q' r := by
  cases r with
  | ok n w' =>
    cases n <;> simp only [calmUpon] at h <;> simp only [Oper.upon]
    case value u => obtain ⟨hb, rfl⟩ := h; exact hK _ hb
    case skip => obtain ⟨hb, rfl⟩ := h; exact hK _ hb
    case enter f args => exact h.mono fun e w'' ⟨he, hb⟩ => by subst he; exact hK _ hb
    case row row args => exact h.mono fun u w'' ⟨he, hb⟩ => by subst he; exact hK _ hb
  | halt x w' => simp only [calmUpon] at h

/-- What the new variables hold: each lies in a block of its own, not an old one, as it was made. -/
def newOk (ops : Array Oper) (Z : TypeId → Value) (B n : Nat) (listed : Array Bool) (a : Act) (w : World) : Prop :=
  (∀ (i : Nat) (o : Oper) (e : TypeId) (d : Tmp), i < n → listed.getD i false = true → ops[i]? = some o → o.op = .alloc e → o.guard = none → o.dst = some d →
    ∃ b, a.tmps.getD d undef = .pointer (some ⟨b, 0, none⟩) ∧ B ≤ b ∧ w.heap[b]? = some (.cells (Z e).cells e)) ∧
  (∀ (i j : Nat) (o p : Oper) (e e' : TypeId) (d d' : Tmp) (b : Nat), i < n → j < n → i ≠ j → listed.getD i false = true → listed.getD j false = true → ops[i]? = some o → ops[j]? = some p →
    o.op = .alloc e → p.op = .alloc e' → o.guard = none → p.guard = none → o.dst = some d → p.dst = some d' → a.tmps.getD d undef = .pointer (some ⟨b, 0, none⟩) → a.tmps.getD d' undef ≠ .pointer (some ⟨b, 0, none⟩))

/-- The slots of new variables are written by nobody else, and are there. -/
def newSlots (ops : Array Oper) (n m : Nat) : Bool :=
  (List.range n).all fun i => match ops[i]? with
    | some o => !isAlloc o || (o.guard.isNone && match o.dst with
      | some d => decide (d < m) && (List.range n).all fun j => j == i || match ops[j]? with
        | some p => p.dst != some d
        | none => true
      | none => false)
    | none => true

theorem newSlots_spec {n m : Nat} (h : newSlots ops n m = true) {i : Nat} {o : Oper} {e : TypeId} (hi : i < n) (ho : ops[i]? = some o) (he : o.op = .alloc e) :
    o.guard = none ∧ ∃ d, o.dst = some d ∧ d < m ∧ ∀ j p, j < n → j ≠ i → ops[j]? = some p → p.dst ≠ some d := by
  have h1 := List.all_eq_true.1 h i (List.mem_range.2 hi)
  simp only [ho] at h1
  have ha : isAlloc o = true := by simp [isAlloc, he]
  simp only [ha, Bool.not_true, Bool.false_or, Bool.and_eq_true] at h1
  refine ⟨by simpa using h1.1, ?_⟩
  have h2 := h1.2
  cases hd : o.dst with
  | none => rw [hd] at h2; cases h2
  | some d =>
    rw [hd] at h2
    simp only [Bool.and_eq_true, decide_eq_true_eq] at h2
    refine ⟨d, rfl, h2.1, fun j p hj hne hp => ?_⟩
    have h3 := List.all_eq_true.1 h2.2 j (List.mem_range.2 hj)
    simp only [hp, Bool.or_eq_true, beq_iff_eq] at h3
    rcases h3 with h3 | h3
    · exact absurd h3 hne
    · simpa using h3

theorem tmps_put_size (a : Act) (d : Option Tmp) (v : Value) : (a.put d v).tmps.size = a.tmps.size := by cases d <;> simp [Act.put]
theorem tmps_put_ne (a : Act) (d : Option Tmp) (v : Value) (k : Tmp) (h : d ≠ some k) : (a.put d v).tmps.getD k undef = a.tmps.getD k undef := by
  cases d with
  | none => rfl
  | some d =>
    have : d ≠ k := fun e => h (by rw [e])
    simp [Act.put, Array.getElem?_setIfInBounds_ne this]
theorem tmps_put_same (a : Act) (d : Tmp) (v : Value) (h : d < a.tmps.size) : (a.put (some d) v).tmps.getD d undef = v := by
  simp [Act.put, h]

theorem newOk_step {Z : TypeId → Value} {B n m j : Nat} {oj : Oper} {listed : Array Bool} {a : Act} {w w' : World} {v : Value} (hs : newSlots ops n m = true) (hjn : j < n) (hoj : ops[j]? = some oj)
    (hna : isAlloc oj = false) (hb : Below w.heap.size w w') (h : newOk ops Z B n listed a w) : newOk ops Z B n (listed.setIfInBounds j true) (a.put oj.dst v) w' := by
  have ne : ∀ (i : Nat) (o : Oper) (e : TypeId) (d : Tmp), i < n → ops[i]? = some o → o.op = .alloc e → o.dst = some d → j ≠ i ∧ oj.dst ≠ some d := by
    intro i o e d hi ho he hd
    have hij : j ≠ i := fun hij => by
      subst hij
      rw [hoj] at ho
      obtain rfl := Option.some.inj ho
      simp [isAlloc, he] at hna
    obtain ⟨_, d', hd', _, hall⟩ := newSlots_spec hs hi ho he
    rw [hd] at hd'
    obtain rfl := Option.some.inj hd'
    exact ⟨hij, hall j oj hjn hij hoj⟩
  refine ⟨fun i o e d hi hl ho he hg hd => ?_, fun i k o p e e' d d' b hi hk hne hl hl' ho hp he he' hg hg' hd hd' hb1 => ?_⟩
  · obtain ⟨h1, h2⟩ := ne i o e d hi ho he hd
    rw [getD_set_ne false h1] at hl
    obtain ⟨b, hb1, hb2, hb3⟩ := h.1 i o e d hi hl ho he hg hd
    refine ⟨b, by rw [tmps_put_ne _ _ _ _ h2]; exact hb1, hb2, ?_⟩
    rw [hb.block b (Array.getElem?_eq_some_iff.1 hb3).1]
    exact hb3
  · obtain ⟨h1, h2⟩ := ne i o e d hi ho he hd
    obtain ⟨h3, h4⟩ := ne k p e' d' hk hp he' hd'
    rw [getD_set_ne false h1] at hl
    rw [getD_set_ne false h3] at hl'
    rw [tmps_put_ne _ _ _ _ h2] at hb1
    rw [tmps_put_ne _ _ _ _ h4]
    exact h.2 i k o p e e' d d' b hi hk hne hl hl' ho hp he he' hg hg' hd hd' hb1

theorem newOk_alloc {Z : TypeId → Value} {B n j : Nat} {oj : Oper} {ej : TypeId} {listed : Array Bool} {a : Act} {w : World} (hs : newSlots ops n a.tmps.size = true) (hjn : j < n) (hoj : ops[j]? = some oj)
    (hej : oj.op = .alloc ej) (hB : B ≤ w.heap.size) (h : newOk ops Z B n listed a w) :
    newOk ops Z B n (listed.setIfInBounds j true) (a.put oj.dst (.pointer (some ⟨w.heap.size, 0, none⟩))) (w.alloc (.cells (Z ej).cells ej)) := by
  obtain ⟨_, dj, hdj, hdl, hall⟩ := newSlots_spec hs hjn hoj hej
  have other : ∀ (i : Nat) (o : Oper) (d : Tmp), i < n → i ≠ j → ops[i]? = some o → o.dst = some d → oj.dst ≠ some d := by
    intro i o d hi hij ho hd he
    rw [hdj] at he
    obtain rfl := Option.some.inj he
    exact hall i o hi hij ho hd
  have mine : (a.put oj.dst (.pointer (some ⟨w.heap.size, 0, none⟩))).tmps.getD dj undef = .pointer (some ⟨w.heap.size, 0, none⟩) := by rw [hdj]; exact tmps_put_same _ _ _ hdl
  refine ⟨fun i o e d hi hl ho he hg hd => ?_, fun i k o p e e' d d' b hi hk hne hl hl' ho hp he he' hg hg' hd hd' hb1 => ?_⟩
  · by_cases hij : i = j
    · subst hij
      rw [hoj] at ho
      obtain rfl := Option.some.inj ho
      rw [hdj] at hd
      obtain rfl := Option.some.inj hd
      rw [hej] at he
      obtain rfl : ej = e := by cases he; rfl
      refine ⟨w.heap.size, mine, hB, ?_⟩
      show (w.heap.push _)[w.heap.size]? = _
      simp
    · rw [getD_set_ne false (Ne.symm hij)] at hl
      obtain ⟨b, hb1, hb2, hb3⟩ := h.1 i o e d hi hl ho he hg hd
      refine ⟨b, by rw [tmps_put_ne _ _ _ _ (other i o d hi hij ho hd)]; exact hb1, hb2, ?_⟩
      rw [Below.heap_alloc w _ b (Array.getElem?_eq_some_iff.1 hb3).1]
      exact hb3
  · by_cases hij : i = j
    · subst hij
      rw [hoj] at ho
      obtain rfl := Option.some.inj ho
      rw [hdj] at hd
      obtain rfl := Option.some.inj hd
      rw [mine] at hb1
      have hb : w.heap.size = b := by simpa using hb1
      have hki : k ≠ i := Ne.symm hne
      rw [getD_set_ne false hne] at hl'
      obtain ⟨b', hb1', _, hb3'⟩ := h.1 k p e' d' hk hl' hp he' hg' hd'
      rw [tmps_put_ne _ _ _ _ (other k p d' hk hki hp hd'), hb1']
      intro hc
      have h1 : b' = b := by simpa using hc
      have := (Array.getElem?_eq_some_iff.1 hb3').1
      omega
    · by_cases hkj : k = j
      · subst hkj
        rw [hoj] at hp
        obtain rfl := Option.some.inj hp
        rw [hdj] at hd'
        obtain rfl := Option.some.inj hd'
        rw [mine]
        rw [getD_set_ne false (Ne.symm hij)] at hl
        obtain ⟨b', hb1', _, hb3'⟩ := h.1 i o e d hi hl ho he hg hd
        rw [tmps_put_ne _ _ _ _ (other i o d hi hij ho hd), hb1'] at hb1
        intro hc
        have h1 : w.heap.size = b := by simpa using hc
        have h2 : b' = b := by simpa using hb1
        have := (Array.getElem?_eq_some_iff.1 hb3').1
        omega
      · rw [getD_set_ne false (Ne.symm hij)] at hl
        rw [getD_set_ne false (Ne.symm hkj)] at hl'
        rw [tmps_put_ne _ _ _ _ (other i o d hi hij ho hd)] at hb1
        rw [tmps_put_ne _ _ _ _ (other k p d' hk hkj hp hd')]
        exact h.2 i k o p e e' d d' b hi hk hne hl hl' ho hp he he' hg hg' hd hd' hb1
end

section
variable {P : Program} {ops : Array Oper} {md : Region.Mode}
/-- The class of worlds: what was there at the start is as it was. -/
def Old (w0 w : World) : Prop := Below w0.heap.size w0 w
theorem Old.step {w0 w w' : World} (h : Old w0 w) (hb : Below w.heap.size w w') : Old w0 w' := Below.trans h (hb.mono h.size)

theorem wpAny_of_anyC {Z : TypeId → Value} {C : Cl} {B n g m : Nat} {L : Array Bool → Act → Prop} {Q' : Exit → Act → World → Prop} (hs : newSlots ops n m = true)
    (hZ : ∀ (i : Nat) (o : Oper) (e : TypeId), ops[i]? = some o → o.op = .alloc e → ∀ w, (zeroValue e).run P w = .ok (Z e) w)
    (hstep : ∀ w w', C.C w → C.R w w' → C.C w') (hrb : ∀ w w', C.R w w' → Below w.heap.size w w') (hcb : ∀ w, C.C w → B ≤ w.heap.size)
    (halloc : ∀ (i : Nat) (o : Oper) (e : TypeId), ops[i]? = some o → o.op = .alloc e → ∀ w, C.C w → C.C (w.alloc (.cells (Z e).cells e)))
    (hL : ∀ listed a w, L listed a → a.tmps.size = m → C.C w → newOk ops Z B n listed a w → wpAny P md ops Q' g listed a w) :
    ∀ (f : Nat) (listed : Array Bool) (a : Act) (w : World), anyC P md ops C n L f listed a → a.tmps.size = m → C.C w → newOk ops Z B n listed a w → wpAny P md ops Q' (f + g) listed a w
  | 0, listed, a, w, h, hm, hC, hN => by rw [Nat.zero_add]; exact hL _ _ _ h hm hC hN
  | f + 1, listed, a, w, h, hm, hC, hN => by
    rw [show f + 1 + g = (f + g) + 1 by omega]
    refine ⟨fun h0 => absurd h0 h.1, fun i hi => ?_⟩
    obtain ⟨hin, hc⟩ := h.2 i hi
    obtain ⟨_, o, ho, _⟩ := mem_ready.1 hi
    unfold cOp at hc
    simp only [ho] at hc
    unfold wpOp
    simp only [ho]
    by_cases hw : Region.wanted o (yielded ops a.tmps) = true
    · rw [if_pos hw] at hc
      rw [if_pos hw]
      refine .inl ?_
      by_cases ha : isAlloc o = true
      · rw [if_pos ha] at hc
        obtain ⟨e, he⟩ : ∃ e, o.op = .alloc e := by
          unfold isAlloc at ha
          split at ha
          · rename_i e he; exact ⟨e, he⟩
          · cases ha
        have hr : (execOp a.eval o).run P w = .ok (.value (.pointer (some ⟨w.heap.size, 0, none⟩))) (w.alloc (.cells (Z e).cells e)) := by
          have hz := hZ i o e ho he w
          simp [execOp, he, hz, go_sem]
        unfold Oper.wp
        rw [hr]
        simp only [Oper.upon]
        exact wpAny_of_anyC hs hZ hstep hrb hcb halloc hL f _ _ _ (hc _) (by rw [tmps_put_size]; exact hm) (halloc i o e ho he w hC) (newOk_alloc (by rw [hm]; exact hs) hin ho he (hcb w hC) hN)
      · rw [if_neg ha] at hc
        obtain ⟨v, hv, hK⟩ := hc
        unfold Oper.wp
        exact upon_of_calm (hv w hC) fun w' hb => wpAny_of_anyC hs hZ hstep hrb hcb halloc hL f _ _ _ hK (by rw [tmps_put_size]; exact hm) (hstep _ _ hC hb) (newOk_step hs hin ho (by simpa using ha) (hrb _ _ hb) hN)
    · rw [if_neg hw] at hc
      rw [if_neg hw]
      have hna : isAlloc o = false := by
        cases ha : isAlloc o with
        | false => rfl
        | true =>
          unfold isAlloc at ha
          split at ha
          · rename_i e he
            have := (newSlots_spec hs hin ho he).1
            rw [Region.wanted, this] at hw
            exact absurd rfl hw
          · cases ha
      exact wpAny_of_anyC hs hZ hstep hrb hcb halloc hL f _ _ _ hc (by rw [tmps_put_size]; exact hm) hC (newOk_step hs hin ho hna (Below.refl _ _) hN)

/-- The types of the new variables. -/
def allocTypes (ops : Array Oper) : List TypeId := ops.toList.filterMap fun o => match o.op with | .alloc e => some e | _ => none

/-- The closed check of a region: its first n operations are the head. -/
def calmB (ops : Array Oper) (n m : Nat) : Bool :=
  Region.noSelect ops && decide (n ≤ ops.size) && tailLast .any ops n && newSlots ops n m && decide ((headOrder ops n).length = n) && orderOk .any ops n (ops.size - n) (headOrder ops n) (Array.replicate ops.size false)

theorem wp_region_cl {C : Cl} {id : Nat} {Q : Exit → Act → World → Prop} {a : Act} {w : World} {l : List Oper} (n m : Nat) (L : List Nat) (T : List TypeId) (Z : TypeId → Value) (hm : P.follows .mixedOrders = true) (hB : calmB l.toArray n m = true)
    (hL : headOrder l.toArray n = L) (hT : allocTypes l.toArray = T) (hZ : ∀ e, e ∈ T → ∀ w, (zeroValue e).run P w = .ok (Z e) w) (ham : a.tmps.size = m)
    (hstep : ∀ w w', C.C w → C.R w w' → C.C w') (hrb : ∀ w w', C.R w w' → Below w.heap.size w w') (hcb : ∀ w', C.C w' → w.heap.size ≤ w'.heap.size)
    (halloc : ∀ e, e ∈ T → ∀ w, C.C w → C.C (w.alloc (.cells (Z e).cells e))) (h0 : C.C w.drew)
    (h : wpC P l.toArray C (fun a' => ∀ w', C.C w' → newOk l.toArray Z w.heap.size n (Array.replicate l.toArray.size true) a' w' → wpList P l.toArray Q (l.drop n) a' w') L a) :
    (Code.region id l.toArray true).wp P Q a w := by
  subst ham hL hT
  have memT : ∀ (i : Nat) (o : Oper) (e : TypeId), l.toArray[i]? = some o → o.op = .alloc e → e ∈ allocTypes l.toArray := fun i o e ho he =>
    List.mem_filterMap.2 ⟨o, Array.mem_toList_iff.2 (Array.mem_of_getElem? ho), by simp [he]⟩
  simp only [calmB, Bool.and_eq_true, decide_eq_true_eq] at hB
  obtain ⟨⟨⟨⟨⟨hsel, hn⟩, hT⟩, hs⟩, hlen⟩, hord⟩ := hB
  have inv0 : HeadInv .any l.toArray n (Array.replicate l.toArray.size false) :=
    ⟨by simp, fun j oj _ hl => (by rw [getD_replicate_false] at hl; cases hl), fun t _ ht => getD_in (by simpa using ht) (getD_replicate_false _ _)⟩
  have H := anyC_order (C := C) (g := l.toArray.size - n) hsel hT (headOrder l.toArray n) _ a inv0 hord h
  refine wp_region_any hm ?_
  have hdl : (l.drop n).length = l.toArray.size - n := by simp
  have := wpAny_of_anyC (Q' := Q) (g := l.toArray.size - n) (B := w.heap.size) (m := a.tmps.size) hs (fun i o e ho he => hZ e (memT i o e ho he)) hstep hrb hcb (fun i o e ho he => halloc e (memT i o e ho he)) (fun listed a' w' hL hm' hC hN => by
    have hall : ∀ i, i < n → listed.getD i false = true := fun i hi => List.all_eq_true.1 hL.1.2 i (List.mem_range.2 hi)
    have := wpAny_of_seq (md := .any) (Q' := Q) (l.drop n) n listed a' w' (fun j => by simp [List.getElem?_drop]) (by rw [hdl]; exact hL.1.1) (hL.2 w' hC ⟨fun i o e d hi _ ho he hg hd => hN.1 i o e d hi (hall i hi) ho he hg hd, fun i k o p e e' d d' b hi hk hne _ _ ho hp he he' hg hg' hd hd' hb => hN.2 i k o p e e' d d' b hi hk hne (hall i hi) (hall k hk) ho hp he he' hg hg' hd hd' hb⟩)
    rw [hdl] at this
    exact this) _ _ a w.drew H rfl h0 ⟨fun i o e d hi hl => (by rw [getD_replicate_false] at hl; cases hl), fun i k o p e e' d d' b _ _ _ hl => (by rw [getD_replicate_false] at hl; cases hl)⟩
  rw [hlen] at this
  have hnn : n + (l.toArray.size - n) = l.toArray.size := by omega
  rw [hnn] at this
  exact this

/-- What was there at the start is as it was. -/
def clOld (w0 : World) : Cl := ⟨Old w0, fun w w' => Below w.heap.size w w'⟩
/-- The world is the very one. -/
def clSame (w0 : World) : Cl := ⟨fun w => w = w0, fun w w' => w' = w⟩

/-- **A region that draws its order, in one walk.** The head in the walk's order, each operation at every world that has the old blocks; then the tail, in every such world, with the new variables wherever they lie. -/
theorem wp_region_calm {id : Nat} {Q : Exit → Act → World → Prop} {a : Act} {w : World} {l : List Oper} (n m : Nat) (L : List Nat) (T : List TypeId) (Z : TypeId → Value) (hm : P.follows .mixedOrders = true) (hB : calmB l.toArray n m = true)
    (hL : headOrder l.toArray n = L) (hT : allocTypes l.toArray = T) (hZ : ∀ e, e ∈ T → ∀ w, (zeroValue e).run P w = .ok (Z e) w) (ham : a.tmps.size = m)
    (h : wpC P l.toArray (clOld w.drew) (fun a' => ∀ w', Old w.drew w' → newOk l.toArray Z w.heap.size n (Array.replicate l.toArray.size true) a' w' → wpList P l.toArray Q (l.drop n) a' w') L a) :
    (Code.region id l.toArray true).wp P Q a w :=
  wp_region_cl (C := clOld w.drew) n m L T Z hm hB hL hT hZ ham (fun _ _ h hb => Old.step h hb) (fun _ _ h => h) (fun _ h => h.size) (fun _ _ w' h => Old.step h ((Below.refl _ w').alloc (Nat.le_refl _) _)) (Below.refl _ _) h

/-- A region whose head only reads: the world is the one behind the draw. -/
theorem wp_region_same {id : Nat} {Q : Exit → Act → World → Prop} {a : Act} {w : World} {l : List Oper} (n m : Nat) (L : List Nat) (hm : P.follows .mixedOrders = true) (hB : calmB l.toArray n m = true)
    (hL : headOrder l.toArray n = L) (hT : allocTypes l.toArray = []) (ham : a.tmps.size = m)
    (h : wpC P l.toArray (clSame w.drew) (fun a' => wpList P l.toArray Q (l.drop n) a' w.drew) L a) :
    (Code.region id l.toArray true).wp P Q a w := by
  refine wp_region_cl (C := clSame w.drew) n m L [] (fun _ => .bool false) hm hB hL hT (fun _ h => by cases h) ham (fun w1 w2 h hb => ?_) (fun w1 w2 h => ?_) (fun w1 h => ?_) (fun _ h => by cases h) rfl ?_
  · have h1 : w1 = w.drew := h
    have h2 : w2 = w1 := hb
    rw [h2, h1]; rfl
  · have h2 : w2 = w1 := h
    rw [h2]; exact Below.refl _ _
  · have h1 : w1 = w.drew := h
    rw [h1]; exact Nat.le_refl _
  · refine wpC_mono (fun a' h w' hw' _ => ?_) _ _ h
    have h1 : w' = w.drew := hw'
    rw [h1]; exact h
end
/-! ### The walk's steps -/
section
variable {P : Program} {ops : Array Oper} {C : Cl} {Q : Act → Prop} {i : Nat} {rest : List Nat} {a : Act} {o : Oper} {v : Value} {d : Tmp}
theorem calm_of_wp (hd : o.dst = some d) (hl : d < a.tmps.size) (h : ∀ w, C.C w → ∀ N : Value → List Deferred → World → Prop, (∀ w', C.R w w' → N v a.defers w') → o.wp P a w (fun a' w' => N (slotL a'.tmps.toList d) a'.defers w') (fun _ _ _ => False)) : calm P o a C v := by
  have same : ∀ u, slotL (a.put o.dst u).tmps.toList d = u := fun u => by rw [slotL_tmps, hd]; exact tmps_put_same _ _ _ hl
  intro w hC
  have H := h w hC (fun u ds w' => u = v ∧ ds = a.defers ∧ C.R w w') (fun w' hb => ⟨rfl, rfl, hb⟩)
  unfold Oper.wp at H
  generalize (execOp a.eval o).run P w = r at *
  cases r with
  | ok n w' =>
    cases n <;> simp only [Oper.upon] at H <;> simp only [calmUpon]
    case value u => exact ⟨H.2.2, (same u).symm.trans H.1⟩
    case skip => exact ⟨H.2.2, ((same undef).symm.trans H.1).symm⟩
    case defer dd =>
      have h1 := H.2.1
      simp [hd, Act.put] at h1
    case enter f args =>
      refine Calls.mono H fun e w'' he => ?_
      cases e with
      | returned u => exact ⟨by rw [← he.1, same u], he.2.2⟩
      | panicked c => exact he.elim
      | outgrown => obtain ⟨_, _, hf⟩ := he; exact hf.elim
    case row row args => exact Rows.mono H fun u w'' he => ⟨(same u).symm.trans he.1, he.2.2⟩
  | halt x w' => cases x <;> simp only [Oper.upon] at H

def nth : List Oper → Nat → Option Oper
  | [], _ => none
  | o :: _, 0 => some o
  | _ :: l, n + 1 => nth l n
theorem nth_eq : ∀ (l : List Oper) (i : Nat), nth l i = l.toArray[i]?
  | [], _ => by simp [nth]
  | _ :: _, 0 => by simp [nth]
  | _ :: l, n + 1 => by have := nth_eq l n; simp [nth] at this ⊢; exact this
theorem wpC_calm {l : List Oper} (ho : nth l i = some o) (hw : Region.wanted o (yielded l.toArray a.tmps) = true) (hna : isAlloc o = false) (hd : o.dst = some d) (hl : d + 1 ≤ a.tmps.size)
    (h : ∃ v, (∀ w, C.C w → ∀ N : Value → List Deferred → World → Prop, (∀ w', C.R w w' → N v a.defers w') → o.wp P a w (fun a' w' => N (slotL a'.tmps.toList d) a'.defers w') (fun _ _ _ => False)) ∧ wpC P l.toArray C Q rest (a.put (some d) v)) : wpC P l.toArray C Q (i :: rest) a := by
  rw [nth_eq] at ho
  obtain ⟨v, h1, h2⟩ := h
  rw [← hd] at h2
  unfold wpC cOp
  simp only [ho, hw, if_true, hna]
  exact ⟨v, calm_of_wp hd hl h1, h2⟩
theorem wpC_skip {l : List Oper} (ho : nth l i = some o) (hw : Region.wanted o (yielded l.toArray a.tmps) = false) (hd : o.dst = some d) (h2 : wpC P l.toArray C Q rest (a.put (some d) undef)) : wpC P l.toArray C Q (i :: rest) a := by
  rw [nth_eq] at ho
  rw [← hd] at h2
  unfold wpC cOp
  simp only [ho, hw]
  exact h2
theorem wpC_alloc {l : List Oper} (ho : nth l i = some o) (hw : Region.wanted o (yielded l.toArray a.tmps) = true) (ha : isAlloc o = true) (hd : o.dst = some d) (h2 : ∀ b : Nat, wpC P l.toArray C Q rest (a.put (some d) (.pointer (some ⟨b, 0, none⟩)))) : wpC P l.toArray C Q (i :: rest) a := by
  rw [nth_eq] at ho
  rw [← hd] at h2
  unfold wpC cOp
  simp only [ho, hw, if_true, ha]
  exact h2
theorem wpC_nil (h : Q a) : wpC P ops C Q [] a := h
end

section
variable {P : Program} {Q : Act → Prop} {i : Nat} {rest : List Nat} {a : Act} {o : Oper} {v : Value} {d : Tmp}
/-- The two steps that the walks take. -/
theorem calm_step {w0 : World} {l : List Oper} (ho : nth l i = some o) (hw : Region.wanted o (yielded l.toArray a.tmps) = true) (hna : isAlloc o = false) (hd : o.dst = some d) (hl : d + 1 ≤ a.tmps.size)
    (h : ∃ v, (∀ w, Old w0 w → ∀ N : Value → List Deferred → World → Prop, (∀ w', Below w.heap.size w w' → N v a.defers w') → o.wp P a w (fun a' w' => N (slotL a'.tmps.toList d) a'.defers w') (fun _ _ _ => False)) ∧ wpC P l.toArray (clOld w0) Q rest (a.put (some d) v)) : wpC P l.toArray (clOld w0) Q (i :: rest) a :=
  wpC_calm ho hw hna hd hl h
theorem same_step {w0 : World} {l : List Oper} (ho : nth l i = some o) (hw : Region.wanted o (yielded l.toArray a.tmps) = true) (hna : isAlloc o = false) (hd : o.dst = some d) (hl : d + 1 ≤ a.tmps.size)
    (h : ∃ v, (∀ N : Value → List Deferred → World → Prop, (∀ w', w' = w0 → N v a.defers w') → o.wp P a w0 (fun a' w' => N (slotL a'.tmps.toList d) a'.defers w') (fun _ _ _ => False)) ∧ wpC P l.toArray (clSame w0) Q rest (a.put (some d) v)) : wpC P l.toArray (clSame w0) Q (i :: rest) a := by
  obtain ⟨v, h1, h2⟩ := h
  refine wpC_calm ho hw hna hd hl ⟨v, fun w hC N hN => ?_, h2⟩
  have e : w = w0 := hC
  rw [e] at hN ⊢
  exact h1 N hN
end
end Go.Proofs.YthjeiaildabadaaGreat
/- A region that draws its order, operation by operation: each yields a value that its own word allows, whatever came before it; so the order does not matter. -/
namespace Go.Proofs.YthjeiaildabadaaGreat
set_option linter.unusedSimpArgs false
set_option linter.unusedVariables false
open Go Go.RowKit

abbrev Word := Value → World → Prop
/-- What is asked of an operation's run at w: it yields a value that V allows; R holds. -/
def stepUpon (P : Program) (R : World → World → Prop) (V : Word) (w : World) : Result Next → Prop
  | .ok (.value u) w' => R w w' ∧ V u w'
  | .ok .skip w' => R w w' ∧ V undef w'
  | .ok (.enter f args) w' => Calls P f args w' (fun e w'' => ∃ u, e = .returned u ∧ R w w'' ∧ V u w'')
  | .ok (.row row args) w' => Rows P row args w' (fun u w'' => R w w'' ∧ V u w'')
  | _ => False
theorem upon_of_step {P : Program} {o : Oper} {a : Act} {K : Act → World → Prop} {Q' : Exit → Act → World → Prop} {R : World → World → Prop} {w : World} {V : Word} {r : Result Next}
    (h : stepUpon P R V w r) (hK : ∀ u w', R w w' → V u w' → K (a.put o.dst u) w') : o.upon P a K Q' r := by
  cases r with
  | ok n w' =>
    cases n <;> simp only [stepUpon] at h <;> simp only [Oper.upon]
    case value u => exact hK _ _ h.1 h.2
    case skip => exact hK _ _ h.1 h.2
    case enter f args => exact h.mono fun e w'' ⟨u, he, hb, hv⟩ => by subst he; exact hK _ _ hb hv
    case row row args => exact h.mono fun u w'' ⟨hb, hv⟩ => hK _ _ hb hv
  | halt x w' => simp only [stepUpon] at h
theorem stepUpon_mono {P : Program} {R : World → World → Prop} {V V' : Word} {w : World} {r : Result Next} (hV : ∀ u w', R w w' → V u w' → V' u w') (h : stepUpon P R V w r) : stepUpon P R V' w r := by
  cases r with
  | ok n w' =>
    cases n <;> simp only [stepUpon] at h ⊢
    case value u => exact ⟨h.1, hV _ _ h.1 h.2⟩
    case skip => exact ⟨h.1, hV _ _ h.1 h.2⟩
    case enter f args => exact h.mono fun e w'' ⟨u, he, hb, hv⟩ => ⟨u, he, hb, hV _ _ hb hv⟩
    case row row args => exact h.mono fun u w'' ⟨hb, hv⟩ => ⟨hb, hV _ _ hb hv⟩
  | halt x w' => simp only [stepUpon] at h

/-- What is known of a slot: its value, or a word that it meets. -/
inductive Ent where
  | ex (v : Value)
  | re (q : Word)
abbrev Env := List (Nat × Ent)
def lk : Env → Nat → Option Ent
  | [], _ => none
  | (e, x) :: l, d => bif Nat.beq d e then some x else lk l d
theorem lk_cons (e : Nat) (x : Ent) (l : Env) (d : Nat) : lk ((e, x) :: l) d = if d = e then some x else lk l d := by
  show (bif Nat.beq d e then some x else lk l d) = _
  by_cases h : d = e
  · subst h; simp
  · rw [if_neg h]
    cases hb : Nat.beq d e with
    | true => exact absurd (Nat.eq_of_beq_eq_true hb) h
    | false => rfl
/-- The word of a slot. -/
def known (E : Env) (L : List Value) (d : Nat) : Word := fun v w =>
  match lk E d with
  | some (.ex u) => v = u
  | some (.re q) => q v w
  | none => v = slotL L d

variable {P : Program} {ops : Array Oper} {C : Cl} {md : Region.Mode}
/-- The step that an operation takes in a state. -/
def stepAt (P : Program) (ops : Array Oper) (C : Cl) (o : Oper) (V : Word) (a : Act) (w : World) : Prop :=
  if Region.wanted o (yielded ops a.tmps) = true then stepUpon P C.R V w ((execOp a.eval o).run P w) else V undef w
/-- In every state that is as known, the operation takes its step. -/
def obl (P : Program) (ops : Array Oper) (C : Cl) (o : Oper) (E : Env) (L : List Value) (V : Word) : Prop :=
  ∀ (a : Act) (w : World), C.C w → (∀ d ∈ o.looksAt ops, known E L d (a.tmps.getD d undef) w) → stepAt P ops C o V a w
/-- A word that lasts. -/
def lasts (C : Cl) (q : Word) : Prop := ∀ v w w', C.C w → C.R w w' → q v w → q v w'
def entWord : Ent → Word
  | .ex v => fun u _ => u = v
  | .re q => q
def entOk (C : Cl) : Ent → Prop
  | .ex _ => True
  | .re q => lasts C q
/-- The operations in the text's order, each with what is known of the slot that it writes. -/
def chain (P : Program) (ops : Array Oper) (C : Cl) (L : List Value) : List Oper → Env → (Env → Prop) → Prop
  | [], E, K => K E
  | o :: rest, E, K => ∃ d x, o.dst = some d ∧ entOk C x ∧ obl P ops C o E L (entWord x) ∧ chain P ops C L rest ((d, x) :: E) K
/-- No operation looks at a slot that it or a later one writes; none writes what a later one writes. -/
def chainOk (ops : Array Oper) : List Oper → Bool
  | [] => true
  | o :: rest => (o :: rest).all (fun p => match p.dst with | some e => !(o.looksAt ops).contains e | none => false) && rest.all (fun p => p.dst != o.dst) && chainOk ops rest

theorem known_ext {E E' : Env} {L : List Value} {d : Nat} {v : Value} {w : World} (h : lk E d = lk E' d) : known E L d v w ↔ known E' L d v w := by
  unfold known; rw [h]

theorem chain_sound {L : List Value} {K : Env → Prop} : ∀ (l : List Oper) (E : Env), chainOk ops l = true → (∀ d x, lk E d = some x → entOk C x) → chain P ops C L l E K →
    ∃ F, K F ∧ (∀ d x, lk F d = some x → entOk C x) ∧ (∀ d, (∀ o ∈ l, o.dst ≠ some d) → lk F d = lk E d) ∧
      (∀ o ∈ l, ∀ d, o.dst = some d → obl P ops C o F L (known F L d))
  | [], E, _, hE, h => ⟨E, h, hE, fun _ _ => rfl, fun _ h => by cases h⟩
  | o :: rest, E, hok, hE, ⟨d, x, hd, hx, ho, hr⟩ => by
    simp only [chainOk, Bool.and_eq_true] at hok
    obtain ⟨⟨hlook, hdst⟩, hrest⟩ := hok
    have hE' : ∀ e y, lk ((d, x) :: E) e = some y → entOk C y := fun e y he => by
      rw [lk_cons] at he
      split at he
      · cases he; exact hx
      · exact hE e y he
    obtain ⟨F, hK, hF, hsame, hobl⟩ := chain_sound rest _ hrest hE' hr
    have hno : ∀ p ∈ o :: rest, ∀ e ∈ o.looksAt ops, p.dst ≠ some e := fun p hp e he hpe => by
      have := List.all_eq_true.1 hlook p hp
      rw [hpe] at this
      simp only [Bool.not_eq_true', List.contains_eq_mem, decide_eq_false_iff_not] at this
      exact this he
    have hd2 : ∀ p ∈ rest, p.dst ≠ some d := fun p hp hpe => by
      have := List.all_eq_true.1 hdst p hp
      rw [hpe, hd] at this
      simp at this
    have hFd : lk F d = some x := by rw [hsame d hd2, lk_cons, if_pos rfl]
    refine ⟨F, hK, hF, fun e he => ?_, fun p hp e hpe => ?_⟩
    · rw [hsame e fun p hp => he p (List.mem_cons_of_mem _ hp), lk_cons, if_neg]
      rintro rfl; exact he o (List.mem_cons_self) hd
    · rcases List.mem_cons.1 hp with rfl | hp'
      · rw [hd] at hpe
        obtain rfl := Option.some.inj hpe
        intro a w hw hk
        have hk' : ∀ e ∈ p.looksAt ops, known E L e (a.tmps.getD e undef) w := fun e he => by
          refine (known_ext ?_).1 (hk e he)
          rw [hsame e fun p' hp' => hno p' (List.mem_cons_of_mem _ hp') e he, lk_cons, if_neg]
          rintro rfl; exact hno p List.mem_cons_self e he hd
        have h1 := ho a w hw hk'
        have hVV : ∀ u w', entWord x u w' → known F L d u w' := fun u w' hu => by
          unfold known; rw [hFd]
          cases x with
          | ex v => exact hu
          | re q => exact hu
        unfold stepAt at h1 ⊢
        split
        · rename_i hwd; rw [if_pos hwd] at h1; exact stepUpon_mono (fun u w' _ => hVV u w') h1
        · rename_i hwd; rw [if_neg hwd] at h1; exact hVV _ _ h1
      · exact hobl p hp' e hpe

/-! ### Whatever order -/
/-- How many of the first n are still to come. -/
def todo (listed : Array Bool) (n : Nat) : Nat := (List.range n).countP fun j => !listed.getD j true
theorem todo_succ (listed : Array Bool) (n : Nat) : todo listed (n + 1) = todo listed n + (if listed.getD n true = true then 0 else 1) := by
  unfold todo
  rw [List.range_succ, List.countP_append, List.countP_singleton]
  cases listed.getD n true <;> rfl
theorem todo_set {listed : Array Bool} {i : Nat} (hi : listed.getD i true = false) : ∀ n, (n ≤ i → todo (listed.setIfInBounds i true) n = todo listed n) ∧ (i < n → todo (listed.setIfInBounds i true) n + 1 = todo listed n)
  | 0 => ⟨fun _ => rfl, fun h => absurd h (by omega)⟩
  | n + 1 => by
    obtain ⟨h1, h2⟩ := todo_set hi n
    have hlt : i < listed.size := by
      rcases Nat.lt_or_ge i listed.size with h' | h'
      · exact h'
      · simp [Array.getElem?_eq_none h'] at hi
    rw [todo_succ, todo_succ]
    refine ⟨fun h => ?_, fun h => ?_⟩
    · rw [h1 (by omega), getD_set_ne true (by omega)]
    · by_cases hin : i < n
      · have := h2 hin
        rw [getD_set_ne true (by omega)]; omega
      · obtain rfl : i = n := by omega
        rw [h1 (Nat.le_refl _), hi]
        have : (listed.setIfInBounds i true).getD i true = true := by simp [hlt]
        rw [this]; simp
theorem todo_zero {listed : Array Bool} : ∀ {n : Nat}, todo listed n = 0 → ∀ j, j < n → listed.getD j true = true
  | 0, _, j, hj => absurd hj (by omega)
  | n + 1, h, j, hj => by
    rw [todo_succ] at h
    by_cases hjn : j < n
    · exact todo_zero (by omega) j hjn
    · obtain rfl : j = n := by omega
      cases hx : listed.getD j true with
      | true => rfl
      | false => rw [hx] at h; simp at h
theorem todo_pos {listed : Array Bool} : ∀ {n : Nat}, todo listed n ≠ 0 → ∃ i, i < n ∧ listed.getD i true = false ∧ ∀ j, j < i → listed.getD j true = true
  | 0, h => absurd rfl h
  | n + 1, h => by
    by_cases h0 : todo listed n = 0
    · rw [todo_succ, h0] at h
      cases hx : listed.getD n true with
      | true => rw [hx] at h; simp at h
      | false => exact ⟨n, by omega, hx, todo_zero h0⟩
    · obtain ⟨i, hi, h1, h2⟩ := todo_pos h0
      exact ⟨i, by omega, h1, h2⟩

/-- Each operation of the head waits only for earlier ones, and for all those that write what it looks at; it writes a slot. -/
def depsOk (md : Region.Mode) (ops : Array Oper) (n m : Nat) : Bool :=
  (List.range n).all fun i => match ops[i]? with
    | some o => (match o.dst with | some d => decide (d < m) | none => false) && o.after.all (fun e => !Region.binds md e || decide (e.on < i)) &&
        (o.looksAt ops).all (fun d => (List.range n).all fun j => match ops[j]? with
          | some p => p.dst != some d || o.after.any (fun e => Region.binds md e && e.on == j)
          | none => true) &&
        (List.range n).all (fun j => j == i || match ops[j]? with
          | some p => p.dst != o.dst
          | none => true)
    | none => false
theorem depsOk_spec {n m : Nat} (h : depsOk md ops n m = true) {i : Nat} (hi : i < n) : ∃ o d, ops[i]? = some o ∧ o.dst = some d ∧ d < m ∧ (∀ e ∈ o.after, Region.binds md e = true → e.on < i) ∧
    (∀ d ∈ o.looksAt ops, ∀ j p, j < n → ops[j]? = some p → p.dst = some d → ∃ e ∈ o.after, Region.binds md e = true ∧ e.on = j) ∧
    (∀ j p, j < n → j ≠ i → ops[j]? = some p → p.dst ≠ o.dst) := by
  have h1 := List.all_eq_true.1 h i (List.mem_range.2 hi)
  cases ho : ops[i]? with
  | none => rw [ho] at h1; cases h1
  | some o =>
    rw [ho] at h1
    simp only [Bool.and_eq_true] at h1
    obtain ⟨⟨⟨hd, ha⟩, hl⟩, hs⟩ := h1
    cases hdd : o.dst with
    | none => rw [hdd] at hd; cases hd
    | some d =>
      rw [hdd] at hd
      refine ⟨o, d, rfl, hdd, of_decide_eq_true hd, fun e he hb => ?_, fun x hx j p hj hp hpd => ?_, fun j p hj hji hp => ?_⟩
      · have := Array.all_eq_true_iff_forall_mem.1 ha e he
        simp only [Bool.or_eq_true, Bool.not_eq_true', decide_eq_true_eq] at this
        exact this.resolve_left (by simp [hb])
      · have := List.all_eq_true.1 (List.all_eq_true.1 hl x hx) j (List.mem_range.2 hj)
        rw [hp] at this
        simp only [Bool.or_eq_true, bne_iff_ne, ne_eq] at this
        rcases this with h' | h'
        · exact absurd hpd h'
        · obtain ⟨e, he, hb⟩ := Array.any_eq_true'.1 h'
          simp only [Bool.and_eq_true, beq_iff_eq] at hb
          exact ⟨e, he, hb.1, hb.2⟩
      · have := List.all_eq_true.1 hs j (List.mem_range.2 hj)
        rw [hp] at this
        simp only [Bool.or_eq_true, beq_iff_eq, bne_iff_ne, ne_eq] at this
        exact fun h => this.resolve_left hji (by rw [h])

/-- The state: what has come up is as known, the rest as it was. -/
structure Inv (ops : Array Oper) (C : Cl) (E : Env) (L : List Value) (n m : Nat) (ds : List Deferred) (listed : Array Bool) (a : Act) (w : World) : Prop where
  cl : C.C w
  size : a.tmps.size = m
  defers : a.defers = ds
  come : ∀ i o d, i < n → ops[i]? = some o → o.dst = some d → listed.getD i false = true → known E L d (a.tmps.getD d undef) w
  other : ∀ d, (∀ i o, i < n → ops[i]? = some o → o.dst ≠ some d) → a.tmps.getD d undef = slotL L d

theorem getD_or {listed : Array Bool} {j : Nat} (h : listed.getD j true = true) (hj : j < listed.size) : listed.getD j false = true := by
  simp [hj] at h ⊢; exact h

theorem wpAny_inv {E : Env} {L : List Value} {n m g : Nat} {ds : List Deferred} {Q' : Exit → Act → World → Prop} (hn : n ≤ ops.size) (hT : tailLast md ops n = true) (hdep : depsOk md ops n m = true)
    (hE : ∀ d x, lk E d = some x → entOk C x) (hEo : ∀ d, (∀ i o, i < n → ops[i]? = some o → o.dst ≠ some d) → lk E d = none)
    (hobl : ∀ i o d, i < n → ops[i]? = some o → o.dst = some d → obl P ops C o E L (known E L d)) (hstep : ∀ w w', C.C w → C.R w w' → C.C w')
    (hend : ∀ listed a w, HeadInv md ops n listed → (∀ j, j < n → listed.getD j true = true) → Inv ops C E L n m ds listed a w → wpAny P md ops Q' g listed a w) :
    ∀ (f : Nat) (listed : Array Bool) (a : Act) (w : World), todo listed n = f → HeadInv md ops n listed → Inv ops C E L n m ds listed a w → wpAny P md ops Q' (f + g) listed a w
  | 0, listed, a, w, hf, hH, hI => by rw [Nat.zero_add]; exact hend listed a w hH (todo_zero hf) hI
  | f + 1, listed, a, w, hf, hH, hI => by
    obtain ⟨i0, hi0, hun0, hlow⟩ := todo_pos (listed := listed) (n := n) (by omega)
    have hr0 : i0 ∈ Region.ready md ops listed := by
      obtain ⟨o, d, ho, _, _, hbe, _⟩ := depsOk_spec hdep hi0
      exact mem_ready.2 ⟨hun0, o, ho, fun e he hb => getD_or (hlow e.on (hbe e he hb)) (by rw [hH.size]; have := hbe e he hb; omega)⟩
    rw [show f + 1 + g = (f + g) + 1 by omega]
    refine ⟨fun h0 => (by rw [h0] at hr0; cases hr0), fun i hi => ?_⟩
    have hin : i < n := ready_head hT hH i0 hi0 hun0 i hi
    obtain ⟨hun, o, ho, hall⟩ := mem_ready.1 hi
    obtain ⟨o', d, ho', hd, hdm, _, hlooks, hdst⟩ := depsOk_spec hdep hin
    obtain rfl : o = o' := Option.some.inj (ho.symm.trans ho')
    have hk : ∀ e ∈ o.looksAt ops, known E L e (a.tmps.getD e undef) w := fun e he => by
      by_cases hw : ∃ j p, j < n ∧ ops[j]? = some p ∧ p.dst = some e
      · obtain ⟨j, p, hj, hp, hpe⟩ := hw
        obtain ⟨x, hx, hb, hxj⟩ := hlooks e he j p hj hp hpe
        exact hI.come j p e hj hp hpe (by rw [← hxj]; exact hall x hx hb)
      · have hno : ∀ j p, j < n → ops[j]? = some p → p.dst ≠ some e := fun j p hj hp hpe => hw ⟨j, p, hj, hp, hpe⟩
        unfold known; rw [hEo e hno]; exact hI.other e hno
    have hst := hobl i o d hin ho hd a w hI.cl hk
    have next : ∀ u w', C.C w' → (∀ v e, known E L e v w → known E L e v w') → known E L d u w' → Inv ops C E L n m ds (listed.setIfInBounds i true) (a.put o.dst u) w' := fun u w' hc hkeep hu => by
      refine ⟨hc, by rw [tmps_put_size]; exact hI.size, by rw [hd]; exact hI.defers, fun j p e hj hp hpe hl => ?_, fun e he => ?_⟩
      · by_cases hij : i = j
        · subst hij
          obtain rfl : o = p := Option.some.inj (ho.symm.trans hp)
          rw [hd] at hpe ⊢
          obtain rfl := Option.some.inj hpe
          rw [tmps_put_same _ _ _ (by rw [hI.size]; exact hdm)]; exact hu
        · rw [getD_set_ne false hij] at hl
          rw [tmps_put_ne _ _ _ _ (fun h => hdst j p hj (Ne.symm hij) hp (hpe.trans h.symm))]
          exact hkeep _ _ (hI.come j p e hj hp hpe hl)
      · rw [tmps_put_ne _ _ _ _ (fun h => he i o hin ho h)]; exact hI.other e he
    unfold wpOp
    simp only [ho]
    unfold stepAt at hst
    have hcnt : todo (listed.setIfInBounds i true) n = f := by have := (todo_set hun n).2 hin; omega
    by_cases hw : Region.wanted o (yielded ops a.tmps) = true
    · rw [if_pos hw] at hst
      rw [if_pos hw]
      refine .inl ?_
      unfold Oper.wp
      refine upon_of_step hst fun u w' hR hV => wpAny_inv hn hT hdep hE hEo hobl hstep hend f _ _ w' hcnt (hH.set hi hin) (next u w' (hstep _ _ hI.cl hR) (fun v e hv => ?_) hV)
      unfold known at hv ⊢
      cases hx : lk E e with
      | none => rw [hx] at hv; exact hv
      | some y =>
        rw [hx] at hv
        cases y with
        | ex v' => exact hv
        | re q => exact hE e _ hx v w w' hI.cl hR hv
    · rw [if_neg hw] at hst
      rw [if_neg hw]
      exact wpAny_inv hn hT hdep hE hEo hobl hstep hend f _ _ w hcnt (hH.set hi hin) (next undef w hI.cl (fun _ _ h => h) hst)

/-- The closed check of a region. -/
def invB (l : List Oper) (n m : Nat) : Bool :=
  Region.noSelect l.toArray && decide (n ≤ l.length) && tailLast .any l.toArray n && depsOk .any l.toArray n m && chainOk l.toArray (l.take n) &&
    Region.seqB .any l.toArray (l.length - n) n (Array.replicate n true ++ Array.replicate (l.length - n) false)

theorem wp_region_inv {C : Cl} {id : Nat} {Q : Exit → Act → World → Prop} {ds : List Deferred} {L : List Value} {w : World} {l : List Oper} (n m : Nat) (hm : P.follows .mixedOrders = true) (hB : invB l n m = true) (hLm : L.length = m)
    (hstep : ∀ w w', C.C w → C.R w w' → C.C w') (h0 : C.C w.drew)
    (h : chain P l.toArray C L (l.take n) [] (fun E => ∀ a' w', C.C w' → a'.defers = ds → a'.tmps.size = m → (∀ d, known E L d (a'.tmps.getD d undef) w') → wpList P l.toArray Q (l.drop n) a' w')) :
    (Code.region id l.toArray true).wp P Q ⟨L.toArray, ds⟩ w := by
  simp only [invB, Bool.and_eq_true, decide_eq_true_eq] at hB
  obtain ⟨⟨⟨⟨⟨hsel, hn⟩, hT⟩, hdep⟩, hch⟩, hseq⟩ := hB
  obtain ⟨E, hK, hE, hEo, hobl⟩ := chain_sound (ops := l.toArray) (l.take n) [] hch (fun d x h => by cases h) h
  have hsz : l.toArray.size = l.length := by simp
  have memT : ∀ i o, i < n → l.toArray[i]? = some o → o ∈ l.take n := fun i o hi ho => by
    have : (l.take n)[i]? = some o := by rw [List.getElem?_take, if_pos hi]; simpa using ho
    exact List.mem_of_getElem? this
  have hnone : ∀ d, (∀ i o, i < n → l.toArray[i]? = some o → o.dst ≠ some d) → lk E d = none := fun d hd => by
    rw [hEo d fun o ho => ?_]; rfl
    obtain ⟨i, hi⟩ := List.getElem?_of_mem ho
    rw [List.getElem?_take] at hi
    split at hi
    · rename_i hin; exact hd i o hin (by simpa using hi)
    · cases hi
  refine wp_region_any hm ?_
  have H := wpAny_inv (P := P) (md := .any) (Q' := Q) (g := l.length - n) (ds := ds) (m := m) (n := n) (C := C) (E := E) (L := L) (by rw [hsz]; exact hn) hT hdep hE hnone (fun i o d hi ho hd => hobl o (memT i o hi ho) d hd) hstep
    (fun listed a w' hH hall hI => by
      have hlist : listed = Array.replicate n true ++ Array.replicate (l.length - n) false := by
        apply Array.ext_getElem?
        intro j
        have hs := hH.size
        rw [hsz] at hs
        by_cases hj : j < n
        · have h1 := hall j hj
          have hjs : j < listed.size := by omega
          rw [Array.getElem?_append_left (by simpa using hj)]
          simp [hjs, hj] at h1 ⊢; exact h1
        · by_cases hj2 : j < l.length
          · have h1 := hH.tail j (by omega) (by rw [hsz]; exact hj2)
            have hjs : j < listed.size := by omega
            rw [Array.getElem?_append_right (by simpa using (by omega : n ≤ j))]
            simp [hjs] at h1 ⊢
            rw [Array.getElem?_replicate, if_pos (by omega), h1]
          · rw [Array.getElem?_eq_none (by omega), Array.getElem?_eq_none (by simp; omega)]
      have hdl : (l.drop n).length = l.length - n := by simp
      have := wpAny_of_seq (md := .any) (P := P) (ops := l.toArray) (Q' := Q) (l.drop n) n listed a w' (fun j => by simp [List.getElem?_drop]) (by rw [hdl, hlist]; exact hseq) (hK a w' hI.cl hI.defers hI.size (fun d => by
        by_cases hw : ∃ j p, j < n ∧ l.toArray[j]? = some p ∧ p.dst = some d
        · obtain ⟨j, p, hj, hp, hpe⟩ := hw
          exact hI.come j p d hj hp hpe (getD_or (hall j hj) (by have := hH.size; rw [hsz] at this; omega))
        · have hno : ∀ j p, j < n → l.toArray[j]? = some p → p.dst ≠ some d := fun j p hj hp hpe => hw ⟨j, p, hj, hp, hpe⟩
          unfold known; rw [hnone d hno]; exact hI.other d hno))
      rw [hdl] at this; exact this)
    n (Array.replicate l.toArray.size false) ⟨L.toArray, ds⟩ w.drew (by
      have : ∀ k, k ≤ l.length → todo (Array.replicate l.toArray.size false) k = k := fun k => by
        induction k with
        | zero => intro _; rfl
        | succ k ih => intro hk; rw [todo_succ, ih (by omega)]; simp [show k < l.length by omega]
      exact this n hn)
    ⟨by simp, fun j oj _ hl => (by rw [getD_replicate_false] at hl; cases hl), fun t _ ht => getD_in (by simpa using ht) (getD_replicate_false _ _)⟩
    ⟨h0, by simpa using hLm, rfl, fun i o d _ _ _ hl => (by rw [getD_replicate_false] at hl; cases hl), fun d _ => (by rw [slotL_eq]; simp)⟩
  have hnn : n + (l.length - n) = l.toArray.size := by rw [hsz]; omega
  rw [hnn] at H
  exact H

/-! ### The steps that a walk takes -/
/-- What an operand says. -/
def evE (E : Env) (L : List Value) : Operand → Value
  | .tmp d => match lk E d with
    | some (.ex v) => v
    | some (.re _) => undef
    | none => slotL L d
  | .const v => v
  | .global g => .pointer (some ⟨g, 0, none⟩)
  | .func f => .func (.func f) #[] #[]
theorem evE_tmp (E : Env) (L : List Value) (d : Nat) : evE E L (.tmp d) = match lk E d with
    | some (.ex v) => v
    | some (.re _) => undef
    | none => slotL L d := rfl
/-- No slot that it looks at is known by a word alone. -/
def exB (ops : Array Oper) (o : Oper) (E : Env) : Bool := (o.looksAt ops).all fun d => match lk E d with | some (.re _) => false | _ => true
/-- It is wanted, as far as is known. -/
def wantB (ops : Array Oper) (o : Oper) (E : Env) (L : List Value) : Bool :=
  match o.guard with
  | none => true
  | some (g, want) => match (ops[g]?).bind (·.dst) with
    | some d => (match lk E d with
      | some (.ex (.bool b)) => b == want
      | some _ => false
      | none => match slotL L d with
        | .bool b => b == want
        | _ => false)
    | none => false
theorem yielded_of {tmps : Array Value} {g d : Nat} {b : Bool} (hg : (ops[g]?).bind (·.dst) = some d) (h : tmps.getD d undef = .bool b) : yielded ops tmps g = some b := by
  unfold yielded
  rw [hg]
  rw [Array.getD_eq_getD_getElem?] at h
  simp only [Option.bind_some]
  cases hx : tmps[d]? with
  | none => rw [hx] at h; cases h
  | some v => rw [hx] at h; obtain rfl : v = .bool b := h; rfl
theorem wanted_of {o : Oper} {E : Env} {L : List Value} {a : Act} {w : World} (hw : wantB ops o E L = true) (hk : ∀ d ∈ o.looksAt ops, known E L d (a.tmps.getD d undef) w) : Region.wanted o (yielded ops a.tmps) = true := by
  unfold wantB at hw
  unfold Region.wanted
  cases hg : o.guard with
  | none => rfl
  | some gw =>
    obtain ⟨g, want⟩ := gw
    rw [hg] at hw
    simp only at hw
    split at hw
    · rename_i d hd
      have hk1 := hk d (List.mem_append_right _ (by rw [hg]; simp [hd]))
      unfold known at hk1
      split at hw
      · rename_i b hb
        rw [hb] at hk1
        have := yielded_of (ops := ops) hd hk1
        simp only [this]
        simpa using hw
      · cases hw
      · rename_i hb
        rw [hb] at hk1
        split at hw
        · rename_i b hb2
          rw [hb2] at hk1
          have := yielded_of (ops := ops) hd hk1
          simp only [this]
          simpa using hw
        · cases hw
    · cases hw
theorem eval_of {o : Oper} {E : Env} {L : List Value} {a : Act} {w : World} (he : exB ops o E = true) (hk : ∀ d ∈ o.looksAt ops, known E L d (a.tmps.getD d undef) w) : ∀ x ∈ o.op.operands, a.eval x = evE E L x := fun x hx => by
  cases x with
  | tmp d =>
    have hd : d ∈ o.looksAt ops := List.mem_append_left _ (List.mem_filterMap.2 ⟨.tmp d, by simpa using hx, rfl⟩)
    have h1 := List.all_eq_true.1 he d hd
    have hk1 := hk d hd
    unfold known at hk1
    show a.tmps.getD d undef = evE E L (.tmp d)
    rw [evE_tmp]
    split at h1
    · cases h1
    · rename_i hne
      cases hx : lk E d with
      | none => rw [hx] at hk1; exact hk1
      | some y =>
        cases y with
        | ex v => rw [hx] at hk1; exact hk1
        | re q => exact absurd hx (hne q)
  | const v => rfl
  | global g => rfl
  | func f => rfl
theorem obl_ex {o : Oper} {E : Env} {L : List Value} {V : Word} (hsel : ∀ cs b, o.op ≠ .select cs b) (hw : wantB ops o E L = true) (he : exB ops o E = true)
    (h : ∀ w, C.C w → stepUpon P C.R V w ((execOp (evE E L) o).run P w)) : obl P ops C o E L V := fun a w hc hk => by
  unfold stepAt
  rw [if_pos (wanted_of hw hk), execOp_congr o hsel (eval_of he hk)]
  exact h w hc
/-- One slot is known by a word alone. -/
theorem obl_re {o : Oper} {E : Env} {L : List Value} {V : Word} (d : Nat) (q : Word) (hsel : ∀ cs b, o.op ≠ .select cs b) (hw : wantB ops o E L = true) (hq : lk E d = some (.re q)) (hd : (o.looksAt ops).contains d = true)
    (he : ∀ x, exB ops o ((d, .ex x) :: E) = true)
    (h : ∀ x w, C.C w → q x w → stepUpon P C.R V w ((execOp (evE ((d, .ex x) :: E) L) o).run P w)) : obl P ops C o E L V := fun a w hc hk => by
  have hqx : q (a.tmps.getD d undef) w := by
    have := hk d (by simpa using hd)
    unfold known at this; rw [hq] at this; exact this
  have hk' : ∀ e ∈ o.looksAt ops, known ((d, .ex (a.tmps.getD d undef)) :: E) L e (a.tmps.getD e undef) w := fun e he => by
    unfold known
    rw [lk_cons]
    by_cases hed : e = d
    · subst hed; rw [if_pos rfl]
    · rw [if_neg hed]; exact hk e he
  unfold stepAt
  rw [if_pos (wanted_of hw hk), execOp_congr o hsel (eval_of (he _) hk')]
  exact h _ w hc hqx
end Go.Proofs.YthjeiaildabadaaGreat
