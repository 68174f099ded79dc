/- Sets, Next, zones. -/
import Derived.Test.YtilfiadkhohfiaaGreatDoorProg
import Derived.StillTail
import Derived.Below
import Derived.WalkKit
import Derived.KernelRfl
import Derived.WalkLawsBesides
import Derived.WalkSpells
import Derived.Laws.Bits64b
import Derived.Laws.BitsLemmas
import Derived.Lib.Hide
import Derived.Test.YtilfiadkhohfiaaGreatDoorPe
import Derived.Lib.LaidTab
import Derived.Lib.ItoaNum
/- One theorem about a region that draws its order: its operations yield the same values in every order, if each yields one value in every world that agrees with the first one on all old blocks. New variables (alloc) may come anywhere; a forced tail comes last. -/
namespace Go.Proofs.YtilfiadkhohfiaaGreatDoor
set_option linter.unusedSimpArgs false
set_option linter.unusedVariables false
open Go Go.RowKit

/-- The value of a slot, read along the list. -/
def slotL : List Value → Nat → Value
  | [], _ => undef
  | v :: _, 0 => v
  | _ :: l, n + 1 => slotL l n
theorem slotL_zero (v : Value) (l : List Value) : slotL (v :: l) 0 = v := rfl
theorem slotL_succ (v : Value) (l : List Value) (n : Nat) : slotL (v :: l) (n + 1) = slotL l n := rfl
theorem slotL_eq : ∀ (l : List Value) (n : Nat), slotL l n = (l[n]?).getD undef
  | [], _ => rfl
  | _ :: _, 0 => rfl
  | _ :: l, n + 1 => by rw [slotL_succ, slotL_eq l n]; simp
theorem slotL_tmps (a : Act) (d : Nat) : slotL a.tmps.toList d = a.tmps.getD d undef := by
  rw [slotL_eq]; simp

/-- What is asked of an operation's run at w: it yields v, and what lies below stays. -/
def calmUpon (P : Program) (R : World → World → Prop) (w : World) (v : Value) : Result Next → Prop
  | .ok (.value u) w' => R w w' ∧ u = v
  | .ok .skip w' => R w w' ∧ v = undef
  | .ok (.enter f args) w' => Calls P f args w' (fun e w'' => e = .returned v ∧ R w w'')
  | .ok (.row row args) w' => Rows P row args w' (fun u w'' => u = v ∧ R w w'')
  | _ => False
/-- A class of worlds, and what an operation may do to them. -/
structure Cl where
  C : World → Prop
  R : World → World → Prop
def calm (P : Program) (o : Oper) (a : Act) (C : Cl) (v : Value) : Prop := ∀ w, C.C w → calmUpon P C.R w v ((execOp a.eval o).run P w)
def isAlloc (o : Oper) : Bool := match o.op with | .alloc _ => true | _ => false

def cOp (P : Program) (ops : Array Oper) (C : Cl) (i : Nat) (K : Act → Prop) (a : Act) : Prop :=
  match ops[i]? with
  | none => K a
  | some o => if Region.wanted o (yielded ops a.tmps) then (if isAlloc o then ∀ b : Nat, K (a.put o.dst (.pointer (some ⟨b, 0, none⟩))) else ∃ v, calm P o a C v ∧ K (a.put o.dst v)) else K (a.put o.dst undef)

section
variable {P : Program} {ops : Array Oper} {C : Cl} {md : Region.Mode}

theorem cOp_mono {i : Nat} {a : Act} {K K' : Act → Prop} (h : ∀ a, K a → K' a) (hh : cOp P ops C i K a) : cOp P ops C i K' a := by
  unfold cOp at *
  split
  · rename_i ho; simp only [ho] at hh; exact h _ hh
  · rename_i o ho
    simp only [ho] at hh
    split
    · rename_i hw
      simp only [hw, if_true] at hh
      split
      · rename_i ha; simp only [ha, if_true] at hh; exact fun b => h _ (hh b)
      · rename_i ha
        simp only [ha] at hh
        obtain ⟨v, hv, hk⟩ := hh
        exact ⟨v, hv, h _ hk⟩
    · rename_i hw; simp only [hw] at hh; exact h _ hh

/-- Whatever comes up of the first n operations; then L. -/
def anyC (P : Program) (md : Region.Mode) (ops : Array Oper) (C : Cl) (n : Nat) (L : Array Bool → Act → Prop) : Nat → Array Bool → Act → Prop
  | 0, listed, a => L listed a
  | f + 1, listed, a => Region.ready md ops listed ≠ [] ∧ ∀ i ∈ Region.ready md ops listed, i < n ∧ cOp P ops C i (anyC P md ops C n L f (listed.setIfInBounds i true)) a

/-- In state a, operation o leaves v. -/
def leaves (P : Program) (ops : Array Oper) (C : Cl) (o : Oper) (v : Value) (a : Act) : Prop :=
  (Region.wanted o (yielded ops a.tmps) = true ∧ isAlloc o = false ∧ calm P o a C v) ∨ (Region.wanted o (yielded ops a.tmps) = false ∧ v = undef)

theorem leaves_same {o : Oper} {v : Value} {a a' : Act} (hy : leaves P ops C o v a) (he : execOp a'.eval o = execOp a.eval o)
    (hw : Region.wanted o (yielded ops a'.tmps) = Region.wanted o (yielded ops a.tmps)) : leaves P ops C o v a' := by
  unfold leaves calm at *
  rw [he, hw]
  exact hy

theorem cOp_of_leaves {i : Nat} {o : Oper} {v : Value} {a : Act} (hi : ops[i]? = some o) (hy : leaves P ops C o v a) {K : Act → Prop} (h : K (a.put o.dst v)) : cOp P ops C i K a := by
  unfold cOp
  simp only [hi]
  rcases hy with ⟨hw, ha, hv⟩ | ⟨hw, rfl⟩
  · simp only [hw, if_true, ha]; exact ⟨v, hv, h⟩
  · simp only [hw]; exact h

theorem cOp_put {i j : Nat} {oi oj : Oper} {v : Value} (_hi : ops[i]? = some oi) (hj : ops[j]? = some oj) (hap : oi.apart ops oj = true)
    (hsi : ∀ cs b, oi.op ≠ .select cs b) (hsj : ∀ cs b, oj.op ≠ .select cs b) {K : Act → Prop} {a : Act}
    (hy : leaves P ops C oi v a) (h : cOp P ops C j K (a.put oi.dst v)) :
    cOp P ops C j (fun a' => leaves P ops C oi v a' ∧ K (a'.put oi.dst v)) a := by
  obtain ⟨h1, h2, h3⟩ := Oper.apart_spec hap
  have keep : ∀ u, leaves P ops C oi v (a.put oj.dst u) := fun u =>
    leaves_same hy (execOp_put oi hsi a oj.dst u h3) (wanted_put oi a oj.dst u h3)
  unfold cOp at *
  simp only [hj] at *
  rw [wanted_put oj a oi.dst v h1] at h
  split
  · rename_i hw
    simp only [hw, if_true] at h
    split
    · rename_i ha
      simp only [ha, if_true] at h
      exact fun b => ⟨keep _, by rw [← Act.put_comm a v _ h2]; exact h b⟩
    · rename_i ha
      simp only [ha] at h
      obtain ⟨u, hu, hn⟩ := h
      refine ⟨u, fun w hw' => ?_, keep u, by rw [← Act.put_comm a v u h2]; exact hn⟩
      have := hu w hw'
      rwa [execOp_put oj hsj a oi.dst v h1] at this
  · rename_i hw
    simp only [hw] at h
    exact ⟨keep _, by rw [← Act.put_comm a v undef h2]; exact h⟩

/-- Nothing of the tail may come up while an operation of the head is left. -/
def tailLast (md : Region.Mode) (ops : Array Oper) (n : Nat) : Bool := decide (n = ops.size) || (decide (n < ops.size) && Region.sinkB md ops n && Region.chainB md ops n)

theorem ready_head {n : Nat} {listed : Array Bool} (hT : tailLast md ops n = true) (inv : HeadInv md ops n listed) (i : Nat) (hin : i < n) (hun : listed.getD i true = false) :
    ∀ j ∈ Region.ready md ops listed, j < n := by
  intro j hj
  simp only [tailLast, Bool.or_eq_true, Bool.and_eq_true, decide_eq_true_eq] at hT
  rcases hT with hT | ⟨⟨hn, hs⟩, hc⟩
  · obtain ⟨_, o, ho, _⟩ := mem_ready.1 hj
    have := (Array.getElem?_eq_some_iff.1 ho).1
    omega
  · rcases Nat.lt_or_ge j n with h | h
    · exact h
    · exact absurd hj (tail_waits hs hc hn inv _ i rfl hin hun j h)

theorem not_waits {i : Nat} {oj : Oper} {listed : Array Bool} (hun : listed.getD i true = false) (hall : ∀ e ∈ oj.after, Region.binds md e = true → listed.getD e.on false = true) :
    ∀ e ∈ oj.after, Region.binds md e = true → e.on ≠ i := fun e he hb heq => by
  have h1 := hall e he hb
  rw [heq, getD_both hun] at h1
  cases h1

theorem anyC_first {n i : Nat} {oi : Oper} {v : Value} {L : Array Bool → Act → Prop} (hi : ops[i]? = some oi) (hsel : ∀ (j : Nat) (o : Oper) cs b, ops[j]? = some o → o.op ≠ .select cs b)
    (hT : tailLast md ops n = true) (hin : i < n) (hdone : ∀ listed a, L listed a → ∀ j ∈ Region.ready md ops listed, n ≤ j) :
    ∀ (f : Nat) (listed : Array Bool) (a : Act), HeadInv md ops n listed →
      (∀ j oj, ops[j]? = some oj → j ≠ i → listed.getD j true = false → (∀ e ∈ oj.after, Region.binds md e = true → e.on ≠ i) → oi.apart ops oj = true) →
      i ∈ Region.ready md ops listed → leaves P ops C oi v a →
      anyC P md ops C n L f (listed.setIfInBounds i true) (a.put oi.dst v) → anyC P md ops C n L (f + 1) listed a := by
  intro f
  induction f with
  | zero =>
    intro listed a inv _ hr hy H
    have hun := (mem_ready.1 hr).1
    refine ⟨fun h => (by rw [h] at hr; cases hr), fun j hj => ⟨ready_head hT inv i hin hun j hj, ?_⟩⟩
    have hjn := ready_head hT inv i hin hun j hj
    by_cases hji : j = i
    · subst hji; exact cOp_of_leaves hi hy H
    · have := hdone _ _ H j (ready_mono hj hji)
      omega
  | succ f ih =>
    intro listed a inv hfree hr hy H
    have hun := (mem_ready.1 hr).1
    refine ⟨fun h => (by rw [h] at hr; cases hr), fun j hj => ⟨ready_head hT inv i hin hun j hj, ?_⟩⟩
    have hjn := ready_head hT inv i hin hun j hj
    by_cases hji : j = i
    · subst hji; exact cOp_of_leaves hi hy H
    · have h1 := (H.2 j (ready_mono hj hji)).2
      obtain ⟨hjun, oj, hoj, hall⟩ := mem_ready.1 hj
      have h2 := cOp_put hi hoj (hfree j oj hoj hji hjun (not_waits hun hall)) (fun cs b => hsel i oi cs b hi) (fun cs b => hsel j oj cs b hoj) hy h1
      have hfree' : ∀ k ok, ops[k]? = some ok → k ≠ i → (listed.setIfInBounds j true).getD k true = false →
          (∀ e ∈ ok.after, Region.binds md e = true → e.on ≠ i) → oi.apart ops ok = true := fun k ok hk hki hun hno => by
        refine hfree k ok hk hki ?_ hno
        by_cases hjk : j = k
        · subst hjk; exact hjun
        · rw [getD_set_ne true hjk] at hun; exact hun
      refine cOp_mono (fun a' h3 => ih (listed.setIfInBounds j true) a' (inv.set hj hjn) hfree' (ready_mono hr (Ne.symm hji)) h3.1 ?_) h2
      rw [Array.setIfInBounds_comm _ _ hji]
      exact h3.2

/-- The operations of the head that are left are all new variables (or not wanted): they may be taken in any order. -/
theorem cOp_putA {j : Nat} {oi oj : Oper} (hj : ops[j]? = some oj) (ha : isAlloc oj = true) (hap : oi.apart ops oj = true)
    {K : Act → Prop} {a : Act} (h : ∀ b : Nat, cOp P ops C j K (a.put oi.dst (.pointer (some ⟨b, 0, none⟩)))) :
    cOp P ops C j (fun a' => ∀ b : Nat, K (a'.put oi.dst (.pointer (some ⟨b, 0, none⟩)))) a := by
  obtain ⟨h1, h2, h3⟩ := Oper.apart_spec hap
  unfold cOp at *
  simp only [hj] at *
  by_cases hw : Region.wanted oj (yielded ops a.tmps) = true
  · rw [if_pos hw, if_pos ha]
    intro c b
    have := h b
    rw [wanted_put oj a oi.dst _ h1, if_pos hw, if_pos ha] at this
    rw [← Act.put_comm a _ _ h2]
    exact this c
  · rw [if_neg hw]
    intro b
    have := h b
    rw [wanted_put oj a oi.dst _ h1, if_neg hw] at this
    rw [← Act.put_comm a _ undef h2]
    exact this

theorem wanted_apart {oi oj : Oper} (hap : oi.apart ops oj = true) (a : Act) (u : Value) : Region.wanted oi (yielded ops (a.put oj.dst u).tmps) = Region.wanted oi (yielded ops a.tmps) :=
  wanted_put oi a oj.dst u (Oper.apart_spec hap).2.2

theorem anyC_firstA {n i : Nat} {oi : Oper} {L : Array Bool → Act → Prop} (hi : ops[i]? = some oi) (hal : isAlloc oi = true)
    (hT : tailLast md ops n = true) (hin : i < n) (hdone : ∀ listed a, L listed a → ∀ j ∈ Region.ready md ops listed, n ≤ j) :
    ∀ (f : Nat) (listed : Array Bool) (a : Act), HeadInv md ops n listed →
      (∀ j oj, ops[j]? = some oj → j ≠ i → listed.getD j true = false → (∀ e ∈ oj.after, Region.binds md e = true → e.on ≠ i) → oi.apart ops oj = true) →
      (∀ j oj, ops[j]? = some oj → j < n → listed.getD j true = false → isAlloc oj = true) →
      i ∈ Region.ready md ops listed → Region.wanted oi (yielded ops a.tmps) = true →
      (∀ b : Nat, anyC P md ops C n L f (listed.setIfInBounds i true) (a.put oi.dst (.pointer (some ⟨b, 0, none⟩)))) → anyC P md ops C n L (f + 1) listed a := by
  intro f
  induction f with
  | zero =>
    intro listed a inv _ _ hr hw H
    have hun := (mem_ready.1 hr).1
    refine ⟨fun h => (by rw [h] at hr; cases hr), fun j hj => ⟨ready_head hT inv i hin hun j hj, ?_⟩⟩
    have hjn := ready_head hT inv i hin hun j hj
    by_cases hji : j = i
    · subst hji; unfold cOp; simp only [hi, hw, if_true, hal]; exact H
    · have := hdone _ _ (H 0) j (ready_mono hj hji)
      omega
  | succ f ih =>
    intro listed a inv hfree hallA hr hw H
    have hun := (mem_ready.1 hr).1
    refine ⟨fun h => (by rw [h] at hr; cases hr), fun j hj => ⟨ready_head hT inv i hin hun j hj, ?_⟩⟩
    have hjn := ready_head hT inv i hin hun j hj
    by_cases hji : j = i
    · subst hji; unfold cOp; simp only [hi, hw, if_true, hal]; exact H
    · obtain ⟨hjun, oj, hoj, hall⟩ := mem_ready.1 hj
      have hap := hfree j oj hoj hji hjun (not_waits hun hall)
      have h2 := cOp_putA hoj (hallA j oj hoj hjn hjun) hap (fun b => ((H b).2 j (ready_mono hj hji)).2)
      have hfree' : ∀ k ok, ops[k]? = some ok → k ≠ i → (listed.setIfInBounds j true).getD k true = false →
          (∀ e ∈ ok.after, Region.binds md e = true → e.on ≠ i) → oi.apart ops ok = true := fun k ok hk hki hun hno => by
        refine hfree k ok hk hki ?_ hno
        by_cases hjk : j = k
        · subst hjk; exact hjun
        · rw [getD_set_ne true hjk] at hun; exact hun
      have hallA' : ∀ k ok, ops[k]? = some ok → k < n → (listed.setIfInBounds j true).getD k true = false → isAlloc ok = true := fun k ok hk hkn hun => by
        refine hallA k ok hk hkn ?_
        by_cases hjk : j = k
        · subst hjk; exact hjun
        · rw [getD_set_ne true hjk] at hun; exact hun
      have hK : ∀ a' : Act, (Region.wanted oi (yielded ops a'.tmps) = true ∧ ∀ b : Nat, anyC P md ops C n L f ((listed.setIfInBounds i true).setIfInBounds j true) (a'.put oi.dst (.pointer (some ⟨b, 0, none⟩)))) →
          anyC P md ops C n L (f + 1) (listed.setIfInBounds j true) a' := fun a' ⟨h0, h3⟩ =>
        ih (listed.setIfInBounds j true) a' (inv.set hj hjn) hfree' hallA' (ready_mono hr (Ne.symm hji)) h0 (by rw [Array.setIfInBounds_comm _ _ hji]; exact h3)
      have ha := hallA j oj hoj hjn hjun
      unfold cOp at h2 ⊢
      simp only [hoj] at h2 ⊢
      by_cases hwj : Region.wanted oj (yielded ops a.tmps) = true
      · rw [if_pos hwj, if_pos ha] at h2
        rw [if_pos hwj, if_pos ha]
        exact fun c => hK _ ⟨by rw [wanted_apart hap]; exact hw, h2 c⟩
      · rw [if_neg hwj] at h2
        rw [if_neg hwj]
        exact hK _ ⟨by rw [wanted_apart hap]; exact hw, h2⟩

/-- The order in which the walk takes the operations of the head: first all but the new variables, then these. -/
def headOrder (ops : Array Oper) (n : Nat) : List Nat :=
  (List.range n).filter (fun i => !((ops[i]?).map isAlloc).getD false) ++ (List.range n).filter (fun i => ((ops[i]?).map isAlloc).getD false)

/-- The walk in an order: each operation that is no new variable yields one value; a new variable lies anywhere. -/
def wpC (P : Program) (ops : Array Oper) (C : Cl) (Q : Act → Prop) : List Nat → Act → Prop
  | [], a => Q a
  | i :: rest, a => cOp P ops C i (wpC P ops C Q rest) a

theorem wpC_mono {Q Q' : Act → Prop} (h : ∀ a, Q a → Q' a) : ∀ (l : List Nat) (a : Act), wpC P ops C Q l a → wpC P ops C Q' l a
  | [], _, hh => h _ hh
  | _ :: l, _, hh => cOp_mono (fun a' => wpC_mono h l a') hh

/-- At each step the next one may come up, is free, and, if it is a new variable, all others of the head that are left are, too. -/
def orderOk (md : Region.Mode) (ops : Array Oper) (n g : Nat) : List Nat → Array Bool → Bool
  | [], listed => Region.seqB md ops g n listed && (List.range n).all fun j => listed.getD j false
  | i :: rest, listed => decide (i < n) && (Region.ready md ops listed).contains i && Region.free md ops listed i &&
      (match ops[i]? with
       | some o => !isAlloc o || (o.guard.isNone && (List.range n).all fun j => listed.getD j true || ((ops[j]?).map isAlloc).getD false)
       | none => false) && orderOk md ops n g rest (listed.setIfInBounds i true)

theorem anyC_order {n g : Nat} {Lq : Act → Prop} (hsel : Region.noSelect ops = true) (hT : tailLast md ops n = true) :
    ∀ (l : List Nat) (listed : Array Bool) (a : Act), HeadInv md ops n listed → orderOk md ops n g l listed = true → wpC P ops C Lq l a →
    anyC P md ops C n (fun listed' a' => (Region.seqB md ops g n listed' = true ∧ ((List.range n).all fun j => listed'.getD j false) = true) ∧ Lq a') l.length listed a
  | [], listed, a, _, hB, h => ⟨by simpa only [orderOk, Bool.and_eq_true] using hB, h⟩
  | i :: l, listed, a, inv, hB, h => by
    simp only [orderOk, Bool.and_eq_true, decide_eq_true_eq] at hB
    obtain ⟨⟨⟨⟨hin, hr⟩, hf⟩, hk⟩, hB'⟩ := hB
    have hr' : i ∈ Region.ready md ops listed := by simpa using hr
    obtain ⟨_, o, ho, _⟩ := mem_ready.1 hr'
    simp only [ho, Bool.or_eq_true] at hk
    have hd : ∀ listed' a', ((Region.seqB md ops g n listed' = true ∧ ((List.range n).all fun j => listed'.getD j false) = true) ∧ Lq a') → ∀ j ∈ Region.ready md ops listed', n ≤ j := fun listed' a' hL => seqB_ready hL.1.1
    have hc : cOp P ops C i (wpC P ops C Lq l) a := h
    unfold cOp at hc
    simp only [ho] at hc
    by_cases hw : Region.wanted o (yielded ops a.tmps) = true
    · rw [if_pos hw] at hc
      by_cases ha : isAlloc o = true
      · rw [if_pos ha] at hc
        have hk' : o.guard.isNone = true ∧ ((List.range n).all fun j => listed.getD j true || ((ops[j]?).map isAlloc).getD false) = true := by
          rcases hk with hk | hk
          · rw [ha] at hk; cases hk
          · simpa using hk
        refine anyC_firstA ho ha hT hin hd l.length listed a inv (Region.free_spec ho hf) ?_ hr' hw (fun b => anyC_order hsel hT l _ _ (inv.set hr' hin) hB' (hc b))
        intro j oj hoj hjn hjun
        have := List.all_eq_true.1 hk'.2 j (List.mem_range.2 hjn)
        rw [hjun, hoj] at this
        simpa using this
      · rw [if_neg ha] at hc
        obtain ⟨v, hv, hK⟩ := hc
        exact anyC_first ho (Region.noSelect_spec hsel) hT hin hd l.length listed a inv (Region.free_spec ho hf) hr' (.inl ⟨hw, by simpa using ha, hv⟩) (anyC_order hsel hT l _ _ (inv.set hr' hin) hB' hK)
    · rw [if_neg hw] at hc
      exact anyC_first ho (Region.noSelect_spec hsel) hT hin hd l.length listed a inv (Region.free_spec ho hf) hr' (.inr ⟨by simpa using hw, rfl⟩) (anyC_order hsel hT l _ _ (inv.set hr' hin) hB' hc)

/-! ### It is sound -/
theorem upon_of_calm {o : Oper} {a : Act} {K : Act → World → Prop} {Q' : Exit → Act → World → Prop} {R : World → World → Prop} {w : World} {v : Value} {r : Result Next} (h : calmUpon P R w v r) (hK : ∀ w', R w w' → K (a.put o.dst v) w') : o.upon P a K Q' r := by
  cases r with
  | ok n w' =>
    cases n <;> simp only [calmUpon] at h <;> simp only [Oper.upon]
    case value u => obtain ⟨hb, rfl⟩ := h; exact hK _ hb
    case skip => obtain ⟨hb, rfl⟩ := h; exact hK _ hb
    case enter f args => exact h.mono fun e w'' ⟨he, hb⟩ => by subst he; exact hK _ hb
    case row row args => exact h.mono fun u w'' ⟨he, hb⟩ => by subst he; exact hK _ hb
  | halt x w' => simp only [calmUpon] at h

/-- What the new variables hold: each lies in a block of its own, not an old one, as it was made. -/
def newOk (ops : Array Oper) (Z : TypeId → Value) (B n : Nat) (listed : Array Bool) (a : Act) (w : World) : Prop :=
  (∀ (i : Nat) (o : Oper) (e : TypeId) (d : Tmp), i < n → listed.getD i false = true → ops[i]? = some o → o.op = .alloc e → o.guard = none → o.dst = some d →
    ∃ b, a.tmps.getD d undef = .pointer (some ⟨b, 0, none⟩) ∧ B ≤ b ∧ w.heap[b]? = some (.cells (Z e).cells e)) ∧
  (∀ (i j : Nat) (o p : Oper) (e e' : TypeId) (d d' : Tmp) (b : Nat), i < n → j < n → i ≠ j → listed.getD i false = true → listed.getD j false = true → ops[i]? = some o → ops[j]? = some p →
    o.op = .alloc e → p.op = .alloc e' → o.guard = none → p.guard = none → o.dst = some d → p.dst = some d' → a.tmps.getD d undef = .pointer (some ⟨b, 0, none⟩) → a.tmps.getD d' undef ≠ .pointer (some ⟨b, 0, none⟩))

/-- The slots of new variables are written by nobody else, and are there. -/
def newSlots (ops : Array Oper) (n m : Nat) : Bool :=
  (List.range n).all fun i => match ops[i]? with
    | some o => !isAlloc o || (o.guard.isNone && match o.dst with
      | some d => decide (d < m) && (List.range n).all fun j => j == i || match ops[j]? with
        | some p => p.dst != some d
        | none => true
      | none => false)
    | none => true

theorem newSlots_spec {n m : Nat} (h : newSlots ops n m = true) {i : Nat} {o : Oper} {e : TypeId} (hi : i < n) (ho : ops[i]? = some o) (he : o.op = .alloc e) :
    o.guard = none ∧ ∃ d, o.dst = some d ∧ d < m ∧ ∀ j p, j < n → j ≠ i → ops[j]? = some p → p.dst ≠ some d := by
  have h1 := List.all_eq_true.1 h i (List.mem_range.2 hi)
  simp only [ho] at h1
  have ha : isAlloc o = true := by simp [isAlloc, he]
  simp only [ha, Bool.not_true, Bool.false_or, Bool.and_eq_true] at h1
  refine ⟨by simpa using h1.1, ?_⟩
  have h2 := h1.2
  cases hd : o.dst with
  | none => rw [hd] at h2; cases h2
  | some d =>
    rw [hd] at h2
    simp only [Bool.and_eq_true, decide_eq_true_eq] at h2
    refine ⟨d, rfl, h2.1, fun j p hj hne hp => ?_⟩
    have h3 := List.all_eq_true.1 h2.2 j (List.mem_range.2 hj)
    simp only [hp, Bool.or_eq_true, beq_iff_eq] at h3
    rcases h3 with h3 | h3
    · exact absurd h3 hne
    · simpa using h3

theorem tmps_put_size (a : Act) (d : Option Tmp) (v : Value) : (a.put d v).tmps.size = a.tmps.size := by cases d <;> simp [Act.put]
theorem tmps_put_ne (a : Act) (d : Option Tmp) (v : Value) (k : Tmp) (h : d ≠ some k) : (a.put d v).tmps.getD k undef = a.tmps.getD k undef := by
  cases d with
  | none => rfl
  | some d =>
    have : d ≠ k := fun e => h (by rw [e])
    simp [Act.put, Array.getElem?_setIfInBounds_ne this]
theorem tmps_put_same (a : Act) (d : Tmp) (v : Value) (h : d < a.tmps.size) : (a.put (some d) v).tmps.getD d undef = v := by
  simp [Act.put, h]

theorem newOk_step {Z : TypeId → Value} {B n m j : Nat} {oj : Oper} {listed : Array Bool} {a : Act} {w w' : World} {v : Value} (hs : newSlots ops n m = true) (hjn : j < n) (hoj : ops[j]? = some oj)
    (hna : isAlloc oj = false) (hb : Below w.heap.size w w') (h : newOk ops Z B n listed a w) : newOk ops Z B n (listed.setIfInBounds j true) (a.put oj.dst v) w' := by
  have ne : ∀ (i : Nat) (o : Oper) (e : TypeId) (d : Tmp), i < n → ops[i]? = some o → o.op = .alloc e → o.dst = some d → j ≠ i ∧ oj.dst ≠ some d := by
    intro i o e d hi ho he hd
    have hij : j ≠ i := fun hij => by
      subst hij
      rw [hoj] at ho
      obtain rfl := Option.some.inj ho
      simp [isAlloc, he] at hna
    obtain ⟨_, d', hd', _, hall⟩ := newSlots_spec hs hi ho he
    rw [hd] at hd'
    obtain rfl := Option.some.inj hd'
    exact ⟨hij, hall j oj hjn hij hoj⟩
  refine ⟨fun i o e d hi hl ho he hg hd => ?_, fun i k o p e e' d d' b hi hk hne hl hl' ho hp he he' hg hg' hd hd' hb1 => ?_⟩
  · obtain ⟨h1, h2⟩ := ne i o e d hi ho he hd
    rw [getD_set_ne false h1] at hl
    obtain ⟨b, hb1, hb2, hb3⟩ := h.1 i o e d hi hl ho he hg hd
    refine ⟨b, by rw [tmps_put_ne _ _ _ _ h2]; exact hb1, hb2, ?_⟩
    rw [hb.block b (Array.getElem?_eq_some_iff.1 hb3).1]
    exact hb3
  · obtain ⟨h1, h2⟩ := ne i o e d hi ho he hd
    obtain ⟨h3, h4⟩ := ne k p e' d' hk hp he' hd'
    rw [getD_set_ne false h1] at hl
    rw [getD_set_ne false h3] at hl'
    rw [tmps_put_ne _ _ _ _ h2] at hb1
    rw [tmps_put_ne _ _ _ _ h4]
    exact h.2 i k o p e e' d d' b hi hk hne hl hl' ho hp he he' hg hg' hd hd' hb1

theorem newOk_alloc {Z : TypeId → Value} {B n j : Nat} {oj : Oper} {ej : TypeId} {listed : Array Bool} {a : Act} {w : World} (hs : newSlots ops n a.tmps.size = true) (hjn : j < n) (hoj : ops[j]? = some oj)
    (hej : oj.op = .alloc ej) (hB : B ≤ w.heap.size) (h : newOk ops Z B n listed a w) :
    newOk ops Z B n (listed.setIfInBounds j true) (a.put oj.dst (.pointer (some ⟨w.heap.size, 0, none⟩))) (w.alloc (.cells (Z ej).cells ej)) := by
  obtain ⟨_, dj, hdj, hdl, hall⟩ := newSlots_spec hs hjn hoj hej
  have other : ∀ (i : Nat) (o : Oper) (d : Tmp), i < n → i ≠ j → ops[i]? = some o → o.dst = some d → oj.dst ≠ some d := by
    intro i o d hi hij ho hd he
    rw [hdj] at he
    obtain rfl := Option.some.inj he
    exact hall i o hi hij ho hd
  have mine : (a.put oj.dst (.pointer (some ⟨w.heap.size, 0, none⟩))).tmps.getD dj undef = .pointer (some ⟨w.heap.size, 0, none⟩) := by rw [hdj]; exact tmps_put_same _ _ _ hdl
  refine ⟨fun i o e d hi hl ho he hg hd => ?_, fun i k o p e e' d d' b hi hk hne hl hl' ho hp he he' hg hg' hd hd' hb1 => ?_⟩
  · by_cases hij : i = j
    · subst hij
      rw [hoj] at ho
      obtain rfl := Option.some.inj ho
      rw [hdj] at hd
      obtain rfl := Option.some.inj hd
      rw [hej] at he
      obtain rfl : ej = e := by cases he; rfl
      refine ⟨w.heap.size, mine, hB, ?_⟩
      show (w.heap.push _)[w.heap.size]? = _
      simp
    · rw [getD_set_ne false (Ne.symm hij)] at hl
      obtain ⟨b, hb1, hb2, hb3⟩ := h.1 i o e d hi hl ho he hg hd
      refine ⟨b, by rw [tmps_put_ne _ _ _ _ (other i o d hi hij ho hd)]; exact hb1, hb2, ?_⟩
      rw [Below.heap_alloc w _ b (Array.getElem?_eq_some_iff.1 hb3).1]
      exact hb3
  · by_cases hij : i = j
    · subst hij
      rw [hoj] at ho
      obtain rfl := Option.some.inj ho
      rw [hdj] at hd
      obtain rfl := Option.some.inj hd
      rw [mine] at hb1
      have hb : w.heap.size = b := by simpa using hb1
      have hki : k ≠ i := Ne.symm hne
      rw [getD_set_ne false hne] at hl'
      obtain ⟨b', hb1', _, hb3'⟩ := h.1 k p e' d' hk hl' hp he' hg' hd'
      rw [tmps_put_ne _ _ _ _ (other k p d' hk hki hp hd'), hb1']
      intro hc
      have h1 : b' = b := by simpa using hc
      have := (Array.getElem?_eq_some_iff.1 hb3').1
      omega
    · by_cases hkj : k = j
      · subst hkj
        rw [hoj] at hp
        obtain rfl := Option.some.inj hp
        rw [hdj] at hd'
        obtain rfl := Option.some.inj hd'
        rw [mine]
        rw [getD_set_ne false (Ne.symm hij)] at hl
        obtain ⟨b', hb1', _, hb3'⟩ := h.1 i o e d hi hl ho he hg hd
        rw [tmps_put_ne _ _ _ _ (other i o d hi hij ho hd), hb1'] at hb1
        intro hc
        have h1 : w.heap.size = b := by simpa using hc
        have h2 : b' = b := by simpa using hb1
        have := (Array.getElem?_eq_some_iff.1 hb3').1
        omega
      · rw [getD_set_ne false (Ne.symm hij)] at hl
        rw [getD_set_ne false (Ne.symm hkj)] at hl'
        rw [tmps_put_ne _ _ _ _ (other i o d hi hij ho hd)] at hb1
        rw [tmps_put_ne _ _ _ _ (other k p d' hk hkj hp hd')]
        exact h.2 i k o p e e' d d' b hi hk hne hl hl' ho hp he he' hg hg' hd hd' hb1
end

section
variable {P : Program} {ops : Array Oper} {md : Region.Mode}
/-- The class of worlds: what was there at the start is as it was. -/
def Old (w0 w : World) : Prop := Below w0.heap.size w0 w
theorem Old.step {w0 w w' : World} (h : Old w0 w) (hb : Below w.heap.size w w') : Old w0 w' := Below.trans h (hb.mono h.size)

theorem wpAny_of_anyC {Z : TypeId → Value} {C : Cl} {B n g m : Nat} {L : Array Bool → Act → Prop} {Q' : Exit → Act → World → Prop} (hs : newSlots ops n m = true)
    (hZ : ∀ (i : Nat) (o : Oper) (e : TypeId), ops[i]? = some o → o.op = .alloc e → ∀ w, (zeroValue e).run P w = .ok (Z e) w)
    (hstep : ∀ w w', C.C w → C.R w w' → C.C w') (hrb : ∀ w w', C.R w w' → Below w.heap.size w w') (hcb : ∀ w, C.C w → B ≤ w.heap.size)
    (halloc : ∀ (i : Nat) (o : Oper) (e : TypeId), ops[i]? = some o → o.op = .alloc e → ∀ w, C.C w → C.C (w.alloc (.cells (Z e).cells e)))
    (hL : ∀ listed a w, L listed a → a.tmps.size = m → C.C w → newOk ops Z B n listed a w → wpAny P md ops Q' g listed a w) :
    ∀ (f : Nat) (listed : Array Bool) (a : Act) (w : World), anyC P md ops C n L f listed a → a.tmps.size = m → C.C w → newOk ops Z B n listed a w → wpAny P md ops Q' (f + g) listed a w
  | 0, listed, a, w, h, hm, hC, hN => by rw [Nat.zero_add]; exact hL _ _ _ h hm hC hN
  | f + 1, listed, a, w, h, hm, hC, hN => by
    rw [show f + 1 + g = (f + g) + 1 by omega]
    refine ⟨fun h0 => absurd h0 h.1, fun i hi => ?_⟩
    obtain ⟨hin, hc⟩ := h.2 i hi
    obtain ⟨_, o, ho, _⟩ := mem_ready.1 hi
    unfold cOp at hc
    simp only [ho] at hc
    unfold wpOp
    simp only [ho]
    by_cases hw : Region.wanted o (yielded ops a.tmps) = true
    · rw [if_pos hw] at hc
      rw [if_pos hw]
      refine .inl ?_
      by_cases ha : isAlloc o = true
      · rw [if_pos ha] at hc
        obtain ⟨e, he⟩ : ∃ e, o.op = .alloc e := by
          unfold isAlloc at ha
          split at ha
          · rename_i e he; exact ⟨e, he⟩
          · cases ha
        have hr : (execOp a.eval o).run P w = .ok (.value (.pointer (some ⟨w.heap.size, 0, none⟩))) (w.alloc (.cells (Z e).cells e)) := by
          have hz := hZ i o e ho he w
          simp [execOp, he, hz, go_sem]
        unfold Oper.wp
        rw [hr]
        simp only [Oper.upon]
        exact wpAny_of_anyC hs hZ hstep hrb hcb halloc hL f _ _ _ (hc _) (by rw [tmps_put_size]; exact hm) (halloc i o e ho he w hC) (newOk_alloc (by rw [hm]; exact hs) hin ho he (hcb w hC) hN)
      · rw [if_neg ha] at hc
        obtain ⟨v, hv, hK⟩ := hc
        unfold Oper.wp
        exact upon_of_calm (hv w hC) fun w' hb => wpAny_of_anyC hs hZ hstep hrb hcb halloc hL f _ _ _ hK (by rw [tmps_put_size]; exact hm) (hstep _ _ hC hb) (newOk_step hs hin ho (by simpa using ha) (hrb _ _ hb) hN)
    · rw [if_neg hw] at hc
      rw [if_neg hw]
      have hna : isAlloc o = false := by
        cases ha : isAlloc o with
        | false => rfl
        | true =>
          unfold isAlloc at ha
          split at ha
          · rename_i e he
            have := (newSlots_spec hs hin ho he).1
            rw [Region.wanted, this] at hw
            exact absurd rfl hw
          · cases ha
      exact wpAny_of_anyC hs hZ hstep hrb hcb halloc hL f _ _ _ hc (by rw [tmps_put_size]; exact hm) hC (newOk_step hs hin ho hna (Below.refl _ _) hN)

/-- The types of the new variables. -/
def allocTypes (ops : Array Oper) : List TypeId := ops.toList.filterMap fun o => match o.op with | .alloc e => some e | _ => none

/-- The closed check of a region: its first n operations are the head. -/
def calmB (ops : Array Oper) (n m : Nat) : Bool :=
  Region.noSelect ops && decide (n ≤ ops.size) && tailLast .any ops n && newSlots ops n m && decide ((headOrder ops n).length = n) && orderOk .any ops n (ops.size - n) (headOrder ops n) (Array.replicate ops.size false)

theorem wp_region_cl {C : Cl} {id : Nat} {Q : Exit → Act → World → Prop} {a : Act} {w : World} {l : List Oper} (n m : Nat) (L : List Nat) (T : List TypeId) (Z : TypeId → Value) (hm : P.follows .mixedOrders = true) (hB : calmB l.toArray n m = true)
    (hL : headOrder l.toArray n = L) (hT : allocTypes l.toArray = T) (hZ : ∀ e, e ∈ T → ∀ w, (zeroValue e).run P w = .ok (Z e) w) (ham : a.tmps.size = m)
    (hstep : ∀ w w', C.C w → C.R w w' → C.C w') (hrb : ∀ w w', C.R w w' → Below w.heap.size w w') (hcb : ∀ w', C.C w' → w.heap.size ≤ w'.heap.size)
    (halloc : ∀ e, e ∈ T → ∀ w, C.C w → C.C (w.alloc (.cells (Z e).cells e))) (h0 : C.C w.drew)
    (h : wpC P l.toArray C (fun a' => ∀ w', C.C w' → newOk l.toArray Z w.heap.size n (Array.replicate l.toArray.size true) a' w' → wpList P l.toArray Q (l.drop n) a' w') L a) :
    (Code.region id l.toArray true).wp P Q a w := by
  subst ham hL hT
  have memT : ∀ (i : Nat) (o : Oper) (e : TypeId), l.toArray[i]? = some o → o.op = .alloc e → e ∈ allocTypes l.toArray := fun i o e ho he =>
    List.mem_filterMap.2 ⟨o, Array.mem_toList_iff.2 (Array.mem_of_getElem? ho), by simp [he]⟩
  simp only [calmB, Bool.and_eq_true, decide_eq_true_eq] at hB
  obtain ⟨⟨⟨⟨⟨hsel, hn⟩, hT⟩, hs⟩, hlen⟩, hord⟩ := hB
  have inv0 : HeadInv .any l.toArray n (Array.replicate l.toArray.size false) :=
    ⟨by simp, fun j oj _ hl => (by rw [getD_replicate_false] at hl; cases hl), fun t _ ht => getD_in (by simpa using ht) (getD_replicate_false _ _)⟩
  have H := anyC_order (C := C) (g := l.toArray.size - n) hsel hT (headOrder l.toArray n) _ a inv0 hord h
  refine wp_region_any hm ?_
  have hdl : (l.drop n).length = l.toArray.size - n := by simp
  have := wpAny_of_anyC (Q' := Q) (g := l.toArray.size - n) (B := w.heap.size) (m := a.tmps.size) hs (fun i o e ho he => hZ e (memT i o e ho he)) hstep hrb hcb (fun i o e ho he => halloc e (memT i o e ho he)) (fun listed a' w' hL hm' hC hN => by
    have hall : ∀ i, i < n → listed.getD i false = true := fun i hi => List.all_eq_true.1 hL.1.2 i (List.mem_range.2 hi)
    have := wpAny_of_seq (md := .any) (Q' := Q) (l.drop n) n listed a' w' (fun j => by simp [List.getElem?_drop]) (by rw [hdl]; exact hL.1.1) (hL.2 w' hC ⟨fun i o e d hi _ ho he hg hd => hN.1 i o e d hi (hall i hi) ho he hg hd, fun i k o p e e' d d' b hi hk hne _ _ ho hp he he' hg hg' hd hd' hb => hN.2 i k o p e e' d d' b hi hk hne (hall i hi) (hall k hk) ho hp he he' hg hg' hd hd' hb⟩)
    rw [hdl] at this
    exact this) _ _ a w.drew H rfl h0 ⟨fun i o e d hi hl => (by rw [getD_replicate_false] at hl; cases hl), fun i k o p e e' d d' b _ _ _ hl => (by rw [getD_replicate_false] at hl; cases hl)⟩
  rw [hlen] at this
  have hnn : n + (l.toArray.size - n) = l.toArray.size := by omega
  rw [hnn] at this
  exact this

/-- What was there at the start is as it was. -/
def clOld (w0 : World) : Cl := ⟨Old w0, fun w w' => Below w.heap.size w w'⟩
/-- The world is the very one. -/
def clSame (w0 : World) : Cl := ⟨fun w => w = w0, fun w w' => w' = w⟩

/-- **A region that draws its order, in one walk.** The head in the walk's order, each operation at every world that has the old blocks; then the tail, in every such world, with the new variables wherever they lie. -/
theorem wp_region_calm {id : Nat} {Q : Exit → Act → World → Prop} {a : Act} {w : World} {l : List Oper} (n m : Nat) (L : List Nat) (T : List TypeId) (Z : TypeId → Value) (hm : P.follows .mixedOrders = true) (hB : calmB l.toArray n m = true)
    (hL : headOrder l.toArray n = L) (hT : allocTypes l.toArray = T) (hZ : ∀ e, e ∈ T → ∀ w, (zeroValue e).run P w = .ok (Z e) w) (ham : a.tmps.size = m)
    (h : wpC P l.toArray (clOld w.drew) (fun a' => ∀ w', Old w.drew w' → newOk l.toArray Z w.heap.size n (Array.replicate l.toArray.size true) a' w' → wpList P l.toArray Q (l.drop n) a' w') L a) :
    (Code.region id l.toArray true).wp P Q a w :=
  wp_region_cl (C := clOld w.drew) n m L T Z hm hB hL hT hZ ham (fun _ _ h hb => Old.step h hb) (fun _ _ h => h) (fun _ h => h.size) (fun _ _ w' h => Old.step h ((Below.refl _ w').alloc (Nat.le_refl _) _)) (Below.refl _ _) h

/-- A region whose head only reads: the world is the one behind the draw. -/
theorem wp_region_same {id : Nat} {Q : Exit → Act → World → Prop} {a : Act} {w : World} {l : List Oper} (n m : Nat) (L : List Nat) (hm : P.follows .mixedOrders = true) (hB : calmB l.toArray n m = true)
    (hL : headOrder l.toArray n = L) (hT : allocTypes l.toArray = []) (ham : a.tmps.size = m)
    (h : wpC P l.toArray (clSame w.drew) (fun a' => wpList P l.toArray Q (l.drop n) a' w.drew) L a) :
    (Code.region id l.toArray true).wp P Q a w := by
  refine wp_region_cl (C := clSame w.drew) n m L [] (fun _ => .bool false) hm hB hL hT (fun _ h => by cases h) ham (fun w1 w2 h hb => ?_) (fun w1 w2 h => ?_) (fun w1 h => ?_) (fun _ h => by cases h) rfl ?_
  · have h1 : w1 = w.drew := h
    have h2 : w2 = w1 := hb
    rw [h2, h1]; rfl
  · have h2 : w2 = w1 := h
    rw [h2]; exact Below.refl _ _
  · have h1 : w1 = w.drew := h
    rw [h1]; exact Nat.le_refl _
  · refine wpC_mono (fun a' h w' hw' _ => ?_) _ _ h
    have h1 : w' = w.drew := hw'
    rw [h1]; exact h
end
/-! ### The walk's steps -/
section
variable {P : Program} {ops : Array Oper} {C : Cl} {Q : Act → Prop} {i : Nat} {rest : List Nat} {a : Act} {o : Oper} {v : Value} {d : Tmp}
theorem calm_of_wp (hd : o.dst = some d) (hl : d < a.tmps.size) (h : ∀ w, C.C w → ∀ N : Value → List Deferred → World → Prop, (∀ w', C.R w w' → N v a.defers w') → o.wp P a w (fun a' w' => N (slotL a'.tmps.toList d) a'.defers w') (fun _ _ _ => False)) : calm P o a C v := by
  have same : ∀ u, slotL (a.put o.dst u).tmps.toList d = u := fun u => by rw [slotL_tmps, hd]; exact tmps_put_same _ _ _ hl
  intro w hC
  have H := h w hC (fun u ds w' => u = v ∧ ds = a.defers ∧ C.R w w') (fun w' hb => ⟨rfl, rfl, hb⟩)
  unfold Oper.wp at H
  generalize (execOp a.eval o).run P w = r at *
  cases r with
  | ok n w' =>
    cases n <;> simp only [Oper.upon] at H <;> simp only [calmUpon]
    case value u => exact ⟨H.2.2, (same u).symm.trans H.1⟩
    case skip => exact ⟨H.2.2, ((same undef).symm.trans H.1).symm⟩
    case defer dd =>
      have h1 := H.2.1
      simp [hd, Act.put] at h1
    case enter f args =>
      refine Calls.mono H fun e w'' he => ?_
      cases e with
      | returned u => exact ⟨by rw [← he.1, same u], he.2.2⟩
      | panicked c => exact he.elim
      | outgrown => obtain ⟨_, _, hf⟩ := he; exact hf.elim
    case row row args => exact Rows.mono H fun u w'' he => ⟨(same u).symm.trans he.1, he.2.2⟩
  | halt x w' => cases x <;> simp only [Oper.upon] at H

def nth : List Oper → Nat → Option Oper
  | [], _ => none
  | o :: _, 0 => some o
  | _ :: l, n + 1 => nth l n
theorem nth_eq : ∀ (l : List Oper) (i : Nat), nth l i = l.toArray[i]?
  | [], _ => by simp [nth]
  | _ :: _, 0 => by simp [nth]
  | _ :: l, n + 1 => by have := nth_eq l n; simp [nth] at this ⊢; exact this
theorem wpC_calm {l : List Oper} (ho : nth l i = some o) (hw : Region.wanted o (yielded l.toArray a.tmps) = true) (hna : isAlloc o = false) (hd : o.dst = some d) (hl : d + 1 ≤ a.tmps.size)
    (h : ∃ v, (∀ w, C.C w → ∀ N : Value → List Deferred → World → Prop, (∀ w', C.R w w' → N v a.defers w') → o.wp P a w (fun a' w' => N (slotL a'.tmps.toList d) a'.defers w') (fun _ _ _ => False)) ∧ wpC P l.toArray C Q rest (a.put (some d) v)) : wpC P l.toArray C Q (i :: rest) a := by
  rw [nth_eq] at ho
  obtain ⟨v, h1, h2⟩ := h
  rw [← hd] at h2
  unfold wpC cOp
  simp only [ho, hw, if_true, hna]
  exact ⟨v, calm_of_wp hd hl h1, h2⟩
theorem wpC_skip {l : List Oper} (ho : nth l i = some o) (hw : Region.wanted o (yielded l.toArray a.tmps) = false) (hd : o.dst = some d) (h2 : wpC P l.toArray C Q rest (a.put (some d) undef)) : wpC P l.toArray C Q (i :: rest) a := by
  rw [nth_eq] at ho
  rw [← hd] at h2
  unfold wpC cOp
  simp only [ho, hw]
  exact h2
theorem wpC_alloc {l : List Oper} (ho : nth l i = some o) (hw : Region.wanted o (yielded l.toArray a.tmps) = true) (ha : isAlloc o = true) (hd : o.dst = some d) (h2 : ∀ b : Nat, wpC P l.toArray C Q rest (a.put (some d) (.pointer (some ⟨b, 0, none⟩)))) : wpC P l.toArray C Q (i :: rest) a := by
  rw [nth_eq] at ho
  rw [← hd] at h2
  unfold wpC cOp
  simp only [ho, hw, if_true, ha]
  exact h2
theorem wpC_nil (h : Q a) : wpC P ops C Q [] a := h
end

section
variable {P : Program} {Q : Act → Prop} {i : Nat} {rest : List Nat} {a : Act} {o : Oper} {v : Value} {d : Tmp}
/-- The two steps that the walks take. -/
theorem calm_step {w0 : World} {l : List Oper} (ho : nth l i = some o) (hw : Region.wanted o (yielded l.toArray a.tmps) = true) (hna : isAlloc o = false) (hd : o.dst = some d) (hl : d + 1 ≤ a.tmps.size)
    (h : ∃ v, (∀ w, Old w0 w → ∀ N : Value → List Deferred → World → Prop, (∀ w', Below w.heap.size w w' → N v a.defers w') → o.wp P a w (fun a' w' => N (slotL a'.tmps.toList d) a'.defers w') (fun _ _ _ => False)) ∧ wpC P l.toArray (clOld w0) Q rest (a.put (some d) v)) : wpC P l.toArray (clOld w0) Q (i :: rest) a :=
  wpC_calm ho hw hna hd hl h
theorem same_step {w0 : World} {l : List Oper} (ho : nth l i = some o) (hw : Region.wanted o (yielded l.toArray a.tmps) = true) (hna : isAlloc o = false) (hd : o.dst = some d) (hl : d + 1 ≤ a.tmps.size)
    (h : ∃ v, (∀ N : Value → List Deferred → World → Prop, (∀ w', w' = w0 → N v a.defers w') → o.wp P a w0 (fun a' w' => N (slotL a'.tmps.toList d) a'.defers w') (fun _ _ _ => False)) ∧ wpC P l.toArray (clSame w0) Q rest (a.put (some d) v)) : wpC P l.toArray (clSame w0) Q (i :: rest) a := by
  obtain ⟨v, h1, h2⟩ := h
  refine wpC_calm ho hw hna hd hl ⟨v, fun w hC N hN => ?_, h2⟩
  have e : w = w0 := hC
  rw [e] at hN ⊢
  exact h1 N hN
end
end Go.Proofs.YtilfiadkhohfiaaGreatDoor
/- Sets of numbers from 0 to 255 as natural numbers below 2^256: plain mathematics, no Go. -/
namespace Go.Proofs.YtilfiadkhohfiaaGreatDoor
set_option linter.unusedSimpArgs false
set_option linter.unusedVariables false

/-- The i-th word of a set. -/
def word (N i : Nat) : Nat := N / 2 ^ (64 * i) % 18446744073709551616
/-- What is in N and not in M. -/
def diff (N M : Nat) : Nat := N ^^^ (N &&& M)

theorem testBit_word (N i k : Nat) : (word N i).testBit k = (decide (k < 64) && N.testBit (64 * i + k)) := by
  unfold word
  rw [show 18446744073709551616 = 2 ^ 64 from rfl, Nat.testBit_mod_two_pow, Nat.testBit_div_two_pow, Nat.add_comm k]
theorem word_lt (N i : Nat) : word N i < 18446744073709551616 := Nat.mod_lt _ (by decide)
theorem word_lt' (N i : Nat) : word N i < 2 ^ 64 := word_lt N i
theorem testBit_diff (N M k : Nat) : (diff N M).testBit k = (N.testBit k && !M.testBit k) := by
  unfold diff
  rw [Nat.testBit_xor, Nat.testBit_and]
  cases N.testBit k <;> cases M.testBit k <;> rfl
theorem diff_lt {N M : Nat} {n : Nat} (h : N < 2 ^ n) : diff N M < 2 ^ n :=
  Nat.xor_lt_two_pow h (Nat.lt_of_le_of_lt Nat.and_le_left h)

theorem word_or (N M i : Nat) : word (N ||| M) i = word N i ||| word M i := by
  apply Nat.eq_of_testBit_eq; intro k
  simp only [testBit_word, Nat.testBit_or]
  cases decide (k < 64) <;> simp
theorem word_and (N M i : Nat) : word (N &&& M) i = word N i &&& word M i := by
  apply Nat.eq_of_testBit_eq; intro k
  simp only [testBit_word, Nat.testBit_and]
  cases decide (k < 64) <;> simp
theorem word_diff (N M i : Nat) : word (diff N M) i = diff (word N i) (word M i) := by
  apply Nat.eq_of_testBit_eq; intro k
  simp only [testBit_word, testBit_diff]
  cases decide (k < 64) <;> simp
theorem word_pow (m i : Nat) (h : m / 64 = i) : word (2 ^ m) i = 2 ^ (m % 64) := by
  apply Nat.eq_of_testBit_eq; intro k
  rw [testBit_word, Nat.testBit_two_pow, Nat.testBit_two_pow]
  by_cases hk : k < 64
  · simp only [hk, decide_true, Bool.true_and, decide_eq_decide]; omega
  · simp only [hk, decide_false, Bool.false_and]
    symm; rw [decide_eq_false_iff_not]; omega
theorem word_pow_ne (m i : Nat) (h : m / 64 ≠ i) : word (2 ^ m) i = 0 := by
  apply Nat.eq_of_testBit_eq; intro k
  rw [testBit_word, Nat.testBit_two_pow]
  simp only [Nat.zero_testBit, Bool.and_eq_false_iff, decide_eq_false_iff_not]
  omega
theorem diff_zero (N : Nat) : diff N 0 = N := by unfold diff; simp
theorem word_zero (i : Nat) : word 0 i = 0 := by unfold word; simp
/-- Whoever has the same words is the same. -/
theorem eq_of_words {N M : Nat} (hN : N < 2 ^ 256) (hM : M < 2 ^ 256) (h : ∀ i, i < 4 → word N i = word M i) : N = M := by
  apply Nat.eq_of_testBit_eq; intro k
  by_cases hk : k < 256
  · have h1 := congrArg (fun x => x.testBit (k % 64)) (h (k / 64) (by omega))
    simp only [testBit_word] at h1
    rw [show 64 * (k / 64) + k % 64 = k from by omega] at h1
    simpa [show k % 64 < 64 from by omega] using h1
  · rw [Nat.testBit_lt_two_pow (Nat.lt_of_lt_of_le hN (Nat.pow_le_pow_right (by decide) (by omega))), Nat.testBit_lt_two_pow (Nat.lt_of_lt_of_le hM (Nat.pow_le_pow_right (by decide) (by omega)))]
/-- Four words make a set. -/
def ofWords (a b c d : Nat) : Nat := a + 2 ^ 64 * b + 2 ^ 128 * c + 2 ^ 192 * d
theorem ofWords_lt {a b c d : Nat} (ha : a < 18446744073709551616) (hb : b < 18446744073709551616) (hc : c < 18446744073709551616) (hd : d < 18446744073709551616) : ofWords a b c d < 2 ^ 256 := by
  unfold ofWords; omega
theorem word_ofWords {a b c d : Nat} (ha : a < 18446744073709551616) (hb : b < 18446744073709551616) (hc : c < 18446744073709551616) (hd : d < 18446744073709551616) :
    word (ofWords a b c d) 0 = a ∧ word (ofWords a b c d) 1 = b ∧ word (ofWords a b c d) 2 = c ∧ word (ofWords a b c d) 3 = d := by
  unfold ofWords word
  refine ⟨?_, ?_, ?_, ?_⟩ <;> omega

theorem bit_of_word (N m : Nat) : N.testBit m = (word N (m / 64)).testBit (m % 64) := by
  rw [testBit_word, show 64 * (m / 64) + m % 64 = m from by omega]
  simp [show m % 64 < 64 from by omega]
end Go.Proofs.YtilfiadkhohfiaaGreatDoor
/- Words for the walks over package bits: sets as numbers below 2^256. -/
namespace Go.Proofs.YtilfiadkhohfiaaGreatDoor
set_option linter.unusedSimpArgs false
set_option linter.unusedVariables false
open Go Go.RowKit

theorem bcell {W w1 : World} (hb : Below W.heap.size W w1) : (∀ b o, b < W.heap.size → w1.cell? ⟨b, o, none⟩ = W.cell? ⟨b, o, none⟩) ∧ (∀ b o, b < W.heap.size → w1.frozen? ⟨b, o, none⟩ = W.frozen? ⟨b, o, none⟩) :=
  ⟨fun b o h => hb.cell (p := ⟨b, o, none⟩) h, fun b o h => hb.frozen (p := ⟨b, o, none⟩) h⟩

theorem old_cells {W w1 : World} (hb : Old W w1) : (∀ b o, b < W.heap.size → w1.cell? ⟨b, o, none⟩ = W.cell? ⟨b, o, none⟩) ∧ (∀ b o, b < W.heap.size → w1.frozen? ⟨b, o, none⟩ = W.frozen? ⟨b, o, none⟩) := bcell hb

/-- The words of a set, as cells. -/
def setL (N : Nat) : List Value := [.int .u64 ↑(word N 0), .int .u64 ↑(word N 1), .int .u64 ↑(word N 2), .int .u64 ↑(word N 3)]
/-- A set as a value of Go. -/
def setV (N : Nat) : Value := .agg #[.int .u64 ↑(word N 0), .int .u64 ↑(word N 1), .int .u64 ↑(word N 2), .int .u64 ↑(word N 3)]
theorem setL_get (N i : Nat) (h : i < 4) : [Value.int .u64 ↑(word N 0), Value.int .u64 ↑(word N 1), Value.int .u64 ↑(word N 2), Value.int .u64 ↑(word N 3)][i]? = some (.int .u64 (word N i)) := by
  match i, h with
  | 0, _ => rfl
  | 1, _ => rfl
  | 2, _ => rfl
  | 3, _ => rfl
theorem setL_set (N M i : Nat) (v : Int) (hi : i < 4) (hv : v = (word M i : Int)) (h : ∀ j, j < 4 → j ≠ i → word M j = word N j) :
    [Value.int .u64 ↑(word N 0), Value.int .u64 ↑(word N 1), Value.int .u64 ↑(word N 2), Value.int .u64 ↑(word N 3)].set i (.int .u64 v) = [Value.int .u64 ↑(word M 0), Value.int .u64 ↑(word M 1), Value.int .u64 ↑(word M 2), Value.int .u64 ↑(word M 3)] := by
  subst hv
  match i, hi with
  | 0, _ => simp [h 1 (by decide) (by decide), h 2 (by decide) (by decide), h 3 (by decide) (by decide)]
  | 1, _ => simp [h 0 (by decide) (by decide), h 2 (by decide) (by decide), h 3 (by decide) (by decide)]
  | 2, _ => simp [h 0 (by decide) (by decide), h 1 (by decide) (by decide), h 3 (by decide) (by decide)]
  | 3, _ => simp [h 0 (by decide) (by decide), h 1 (by decide) (by decide), h 2 (by decide) (by decide)]
theorem wrap_pow (k : Nat) (h : k < 64) : IntKind.u64.wrap (2 ^ k) = ((2 ^ k : Nat) : Int) := by
  have h1 : 2 ^ k < 18446744073709551616 := Nat.lt_of_lt_of_le (Nat.pow_lt_pow_right (by decide) h) (by decide)
  have h2 : ((2 ^ k : Nat) : Int) = (2 : Int) ^ k := by simp
  rw [← h2]
  generalize 2 ^ k = p at h1
  exact IntWalk.u64_in _ (by omega)
theorem bits_andNot_u64_nat (a b : Nat) (ha : a < 18446744073709551616) (hb : b < 18446744073709551616) :
    bits .andNot .u64 (a : Int) (b : Int) = ((diff a b : Nat) : Int) := by
  have hx : diff a b < 2 ^ 64 := diff_lt (by omega)
  have h1 : (BitVec.ofInt 64 (a : Int)).toNat = a := by
    rw [BitVec.ofInt_natCast, BitVec.toNat_ofNat]; exact Nat.mod_eq_of_lt (by omega)
  have h2 : (BitVec.ofInt 64 (b : Int)).toNat = b := by
    rw [BitVec.ofInt_natCast, BitVec.toNat_ofNat]; exact Nat.mod_eq_of_lt (by omega)
  have h3 : (BitVec.ofInt 64 (a : Int) &&& ~~~BitVec.ofInt 64 (b : Int)).toNat = diff a b := by
    apply Nat.eq_of_testBit_eq; intro k
    rw [testBit_diff, BitVec.testBit_toNat, BitVec.getLsbD_and, BitVec.getLsbD_not, ← BitVec.testBit_toNat, ← BitVec.testBit_toNat, h1, h2]
    by_cases hk : k < 64
    · simp [hk]
    · rw [Nat.testBit_lt_two_pow (x := a) (i := k) (Nat.lt_of_lt_of_le (show a < 2 ^ 64 by omega) (Nat.pow_le_pow_right (by decide) (by omega)))]
      simp
  show IntKind.u64.wrap ((BitVec.ofInt 64 (a : Int) &&& ~~~BitVec.ofInt 64 (b : Int)).toNat : Int) = _
  rw [h3, IntKind.wrap_u64]
  omega
theorem two_pow_lt {k : Nat} (h : k < 64) : 2 ^ k < 18446744073709551616 := Nat.lt_of_lt_of_le (Nat.pow_lt_pow_right (by decide) h) (by decide)
/-- What With stores. -/
theorem setL_with (N m : Nat) (hm : m < 256) :
    [Value.int .u64 ↑(word N 0), Value.int .u64 ↑(word N 1), Value.int .u64 ↑(word N 2), Value.int .u64 ↑(word N 3)].set (m / 64) (.int .u64 (bits .or .u64 (word N (m / 64)) (IntKind.u64.wrap (2 ^ (m % 64))))) =
      [Value.int .u64 ↑(word (N ||| 2 ^ m) 0), Value.int .u64 ↑(word (N ||| 2 ^ m) 1), Value.int .u64 ↑(word (N ||| 2 ^ m) 2), Value.int .u64 ↑(word (N ||| 2 ^ m) 3)] := by
  refine setL_set _ _ _ _ (by omega) ?_ (fun j _ hj => ?_)
  · rw [wrap_pow _ (by omega), bits_or_u64_nat _ _ (word_lt _ _) (two_pow_lt (by omega)), word_or, word_pow _ _ rfl]
  · rw [word_or, word_pow_ne _ _ (Ne.symm hj), Nat.or_zero]
/-- What Without stores. -/
theorem setL_without (N m : Nat) (hm : m < 256) :
    [Value.int .u64 ↑(word N 0), Value.int .u64 ↑(word N 1), Value.int .u64 ↑(word N 2), Value.int .u64 ↑(word N 3)].set (m / 64) (.int .u64 (bits .andNot .u64 (word N (m / 64)) (IntKind.u64.wrap (2 ^ (m % 64))))) =
      [Value.int .u64 ↑(word (diff N (2 ^ m)) 0), Value.int .u64 ↑(word (diff N (2 ^ m)) 1), Value.int .u64 ↑(word (diff N (2 ^ m)) 2), Value.int .u64 ↑(word (diff N (2 ^ m)) 3)] := by
  refine setL_set _ _ _ _ (by omega) ?_ (fun j _ hj => ?_)
  · rw [wrap_pow _ (by omega), bits_andNot_u64_nat _ _ (word_lt _ _) (two_pow_lt (by omega)), word_diff, word_pow _ _ rfl]
  · rw [word_diff, word_pow_ne _ _ (Ne.symm hj), diff_zero]
/-- What Has reads. -/
theorem has_bit (N m : Nat) : (bits .and .u64 ((word N (m / 64) : Int) / 2 ^ (m % 64)) 1 == 1) = N.testBit m := by
  have h1 : ((word N (m / 64) : Int) / 2 ^ (m % 64)) = ((word N (m / 64) / 2 ^ (m % 64) : Nat) : Int) := by
    rw [Int.natCast_ediv]; simp
  rw [h1, show (1 : Int) = ((1 : Nat) : Int) from rfl, bits_and_u64_nat _ _ (Nat.lt_of_le_of_lt (Nat.div_le_self _ _) (word_lt _ _)) (by decide), bit_of_word N m]
  rw [Nat.testBit, Nat.shiftRight_eq_div_pow, Nat.and_comm]
  have hx : 1 &&& word N (m / 64) / 2 ^ (m % 64) = 0 ∨ 1 &&& word N (m / 64) / 2 ^ (m % 64) = 1 := by
    rw [Nat.and_comm, Nat.and_one_is_mod]; omega
  rcases hx with hx | hx <;> rw [hx] <;> rfl
def Tryz.zv25 : Value := .agg #[.int .u64 0, .int .u64 0, .int .u64 0, .int .u64 0]

theorem isMember_yes (n : Int) (w : World) (h : 0 ≤ n) (h1 : n ≤ 255) :
    Calls Tryz.prog 245 #[.int .i64 n] w fun e w' => e = .returned (.bool true) ∧ w = w' := by
  go_enter Tryz.func245, Tryz.ntmps245
  go_wp2
  go_ret
  exact ⟨by simp, rfl⟩

/-! ### Equality of sets -/
/-- All four words are the same. -/
def eqS (N M : Nat) : Bool := (word N 0 == word M 0) && (word N 1 == word M 1) && (word N 2 == word M 2) && (word N 3 == word M 3)
theorem eqS_eq {N M : Nat} (hN : N < 2 ^ 256) (hM : M < 2 ^ 256) : eqS N M = (N == M) := by
  rw [Bool.eq_iff_iff]
  simp only [eqS, Bool.and_eq_true, beq_iff_eq]
  constructor
  · rintro ⟨⟨⟨h0, h1⟩, h2⟩, h3⟩
    refine eq_of_words hN hM fun i hi => ?_
    match i, hi with
    | 0, _ => exact h0
    | 1, _ => exact h1
    | 2, _ => exact h2
    | 3, _ => exact h3
  · rintro rfl; exact ⟨⟨⟨rfl, rfl⟩, rfl⟩, rfl⟩
theorem eqS_zero {N : Nat} (hN : N < 2 ^ 256) : eqS N 0 = (N == 0) := eqS_eq hN (by decide)
theorem run_part_u64 (cs : Array Value) (k : Nat) (v : Value) (h : cs[k]? = some v) (w : World) : (part 22 cs k).run Tryz.prog w = .ok v w := by
  simp [part, Tryz.isAgg22, Tryz.sizeOf22, h, go_sem]
theorem equalIn_set (a0 a1 a2 a3 b0 b1 b2 b3 : Int) (w : World) :
    (Op.equalIn 10000 24 (.agg #[.int .u64 a0, .int .u64 a1, .int .u64 a2, .int .u64 a3]) (.agg #[.int .u64 b0, .int .u64 b1, .int .u64 b2, .int .u64 b3])).run Tryz.prog w = .ok ((a0 == b0) && (a1 == b1) && (a2 == b2) && (a3 == b3)) w := by
  have he : ∀ (a b : Int) (w : World), (Op.equalIn 9999 22 (.int .u64 a) (.int .u64 b)).run Tryz.prog w = .ok (a == b) w := fun a b w => run_equalIn_int w 9998 _ _ _ a b Tryz.underlying22
  rw [show (10000 : Nat) = 9999 + 1 from rfl]
  generalize (9999 : Nat) = d at *
  simp only [Op.equalIn, Sem.run_bind, run_underlying Tryz.underlying24, Result.andThen_ok, Tryz.sizeOf22]
  rw [Std.Legacy.Range.forIn_eq_forIn_range']
  have p0 : ∀ (x y z t : Value) (w : World), (part 22 #[x, y, z, t] 0).run Tryz.prog w = .ok x w := fun x y z t w => run_part_u64 _ _ _ rfl w
  have p1 : ∀ (x y z t : Value) (w : World), (part 22 #[x, y, z, t] 1).run Tryz.prog w = .ok y w := fun x y z t w => run_part_u64 _ _ _ rfl w
  have p2 : ∀ (x y z t : Value) (w : World), (part 22 #[x, y, z, t] 2).run Tryz.prog w = .ok z w := fun x y z t w => run_part_u64 _ _ _ rfl w
  have p3 : ∀ (x y z t : Value) (w : World), (part 22 #[x, y, z, t] 3).run Tryz.prog w = .ok t w := fun x y z t w => run_part_u64 _ _ _ rfl w
  have hs : Std.Legacy.Range.size [:4] = 4 := rfl
  simp only [hs, List.range'_succ, List.range'_zero, Nat.reduceAdd, Nat.zero_add, List.forIn_cons, List.forIn_nil, Sem.run_bind, Nat.reduceMul, p0, p1, p2, p3, he, Result.andThen_ok]
  by_cases h0 : a0 == b0 <;> by_cases h1 : a1 == b1 <;> by_cases h2 : a2 == b2 <;> by_cases h3 : a3 == b3 <;>
    simp [h0, h1, h2, h3, p0, p1, p2, p3, he]
theorem cast_beq (a b : Nat) : ((a : Int) == (b : Int)) = (a == b) := by
  rw [Bool.eq_iff_iff]; simp only [beq_iff_eq]; omega
/-- '==' of two sets, in the walks' own spelling. -/
theorem equalIn_words (N M : Nat) (w : World) :
    (Op.equalIn 10000 24 (.agg #[.int .u64 ↑(word N 0), .int .u64 ↑(word N 1), .int .u64 ↑(word N 2), .int .u64 ↑(word N 3)]) (.agg #[.int .u64 ↑(word M 0), .int .u64 ↑(word M 1), .int .u64 ↑(word M 2), .int .u64 ↑(word M 3)])).run Tryz.prog w = .ok (eqS N M) w := by
  rw [equalIn_set]; simp only [eqS, cast_beq]
theorem equalIn_zero (N : Nat) (w : World) :
    (Op.equalIn 10000 24 (.agg #[.int .u64 ↑(word N 0), .int .u64 ↑(word N 1), .int .u64 ↑(word N 2), .int .u64 ↑(word N 3)]) (.agg #[.int .u64 0, .int .u64 0, .int .u64 0, .int .u64 0])).run Tryz.prog w = .ok (eqS N 0) w := by
  have h := equalIn_words N 0 w
  simp only [word_zero] at h
  exact h
theorem index_set0 (x y z t : Value) (w : World) : (Instr.index 24 (.agg #[x, y, z, t]) (.int .i64 0)).run Tryz.prog w = .ok x w := by kernel_rfl
theorem index_set1 (x y z t : Value) (w : World) : (Instr.index 24 (.agg #[x, y, z, t]) (.int .i64 1)).run Tryz.prog w = .ok y w := by kernel_rfl
theorem index_set2 (x y z t : Value) (w : World) : (Instr.index 24 (.agg #[x, y, z, t]) (.int .i64 2)).run Tryz.prog w = .ok z w := by kernel_rfl
theorem index_set3 (x y z t : Value) (w : World) : (Instr.index 24 (.agg #[x, y, z, t]) (.int .i64 3)).run Tryz.prog w = .ok t w := by kernel_rfl

/-! ### Blocks that are known whole -/
/-- Block b is a row of just these cells. -/
def Blk (w : World) (b : Nat) (cs : Array Value) (t : TypeId) : Prop := w.heap[b]? = some (.cells cs t (0, 0))
theorem Blk.lt {w : World} {b : Nat} {cs : Array Value} {t : TypeId} (h : Blk w b cs t) : b < w.heap.size := (Array.getElem?_eq_some_iff.1 h).1
theorem Blk.cell {w : World} {b : Nat} {cs : Array Value} {t : TypeId} (h : Blk w b cs t) (i : Nat) : w.cell? ⟨b, i, none⟩ = cs[i]? := by
  unfold Blk at h; simp [World.cell?, h]
theorem Blk.frozen {w : World} {b : Nat} {cs : Array Value} {t : TypeId} (h : Blk w b cs t) (i : Nat) : w.frozen? ⟨b, i, none⟩ = false := by
  unfold Blk at h; simp [World.frozen?, h]
theorem Blk.below {B : Nat} {w w' : World} {b : Nat} {cs : Array Value} {t : TypeId} (h : Blk w b cs t) (hb : Below B w w') (hB : b < B) : Blk w' b cs t := by
  unfold Blk at *; rw [hb.block b hB]; exact h
theorem Blk.drew {w : World} {b : Nat} {cs : Array Value} {t : TypeId} (h : Blk w b cs t) : Blk w.drew b cs t := h
theorem Blk.drewN {w : World} {b : Nat} {cs : Array Value} {t : TypeId} (h : Blk w b cs t) (n : Nat) : Blk (w.drewN n) b cs t := h
theorem Blk.alloc {w : World} {b : Nat} {cs : Array Value} {t : TypeId} (h : Blk w b cs t) (o : Obj) : Blk (w.alloc o) b cs t := by
  unfold Blk at *; rw [Below.heap_alloc w o b (Array.getElem?_eq_some_iff.1 h).1]; exact h
theorem Blk.new (w : World) (cs : Array Value) (t : TypeId) : Blk (w.alloc (.cells cs t)) w.heap.size cs t := by
  show (w.heap.push _)[w.heap.size]? = _
  simp
theorem Blk.set {w : World} {b : Nat} {cs : Array Value} {t : TypeId} (h : Blk w b cs t) (i : Nat) (v : Value) : Blk (w.setCell ⟨b, i, none⟩ v) b (cs.setIfInBounds i v) t := by
  unfold Blk at *
  simp [World.setCell, Array.getElem?_modify, h]
theorem Blk.other {w : World} {b : Nat} {cs : Array Value} {t : TypeId} (h : Blk w b cs t) (a : Addr) (v : Value) (hne : b ≠ a.block) : Blk (w.setCell a v) b cs t := by
  unfold Blk at *; rw [Below.heap_setCell w a v b hne]; exact h
/-- The four cells of a set's block. -/
def setA (N : Nat) : Array Value := #[.int .u64 ↑(word N 0), .int .u64 ↑(word N 1), .int .u64 ↑(word N 2), .int .u64 ↑(word N 3)]
theorem Blk.set4 {w : World} {b N : Nat} {t : TypeId} (h : Blk w b (setA N) t) :
    w.cell? ⟨b, 0, none⟩ = some (.int .u64 ↑(word N 0)) ∧ w.cell? ⟨b, 1, none⟩ = some (.int .u64 ↑(word N 1)) ∧ w.cell? ⟨b, 2, none⟩ = some (.int .u64 ↑(word N 2)) ∧ w.cell? ⟨b, 3, none⟩ = some (.int .u64 ↑(word N 3)) ∧ ∀ i, w.frozen? ⟨b, i, none⟩ = false :=
  ⟨h.cell 0, h.cell 1, h.cell 2, h.cell 3, h.frozen⟩
theorem setA_zero : setA 0 = #[.int .u64 0, .int .u64 0, .int .u64 0, .int .u64 0] := by simp [setA, word_zero]
theorem Blk.put4 {w : World} {b : Nat} {cs : Array Value} {t : TypeId} (h : Blk w b cs t) (hs : cs.size = 4) (x y z u : Value) :
    Blk ((((w.setCell ⟨b, 0, none⟩ x).setCell ⟨b, 1, none⟩ y).setCell ⟨b, 2, none⟩ z).setCell ⟨b, 3, none⟩ u) b #[x, y, z, u] t := by
  have := (((h.set 0 x).set 1 y).set 2 z).set 3 u
  obtain ⟨l⟩ := cs
  match l, hs with
  | [p, q, r, s], _ => simpa using this
theorem Blk.newS (w : World) (t : TypeId) : Blk (w.alloc (.cells #[.int .u64 0, .int .u64 0, .int .u64 0, .int .u64 0] t)) w.heap.size (setA 0) t := by
  rw [setA_zero]; exact Blk.new _ _ _
theorem Blk.newW (w : World) (N : Nat) (t : TypeId) : Blk (w.alloc (.cells #[.int .u64 ↑(word N 0), .int .u64 ↑(word N 1), .int .u64 ↑(word N 2), .int .u64 ↑(word N 3)] t)) w.heap.size (setA N) t := Blk.new _ _ _
theorem Blk.putS {w : World} {b N : Nat} {t : TypeId} (h : Blk w b (setA N) t) (M : Nat) :
    Blk ((((w.setCell ⟨b, 0, none⟩ (.int .u64 ↑(word M 0))).setCell ⟨b, 1, none⟩ (.int .u64 ↑(word M 1))).setCell ⟨b, 2, none⟩ (.int .u64 ↑(word M 2))).setCell ⟨b, 3, none⟩ (.int .u64 ↑(word M 3))) b (setA M) t :=
  h.put4 rfl _ _ _ _
theorem Blk.putZ {w : World} {b N : Nat} {t : TypeId} (h : Blk w b (setA N) t) :
    Blk ((((w.setCell ⟨b, 0, none⟩ (.int .u64 0)).setCell ⟨b, 1, none⟩ (.int .u64 0)).setCell ⟨b, 2, none⟩ (.int .u64 0)).setCell ⟨b, 3, none⟩ (.int .u64 0)) b (setA 0) t := by
  rw [setA_zero]; exact h.put4 rfl _ _ _ _
theorem Blk.other4 {w : World} {b b' : Nat} {cs : Array Value} {t : TypeId} (h : Blk w b cs t) (hne : b ≠ b') (x y z u : Value) :
    Blk ((((w.setCell ⟨b', 0, none⟩ x).setCell ⟨b', 1, none⟩ y).setCell ⟨b', 2, none⟩ z).setCell ⟨b', 3, none⟩ u) b cs t :=
  (((h.other ⟨b', 0, none⟩ x hne).other ⟨b', 1, none⟩ y hne).other ⟨b', 2, none⟩ z hne).other ⟨b', 3, none⟩ u hne
theorem below_put4 {B : Nat} {w w' : World} {b : Nat} (h : Below B w w') (hb : B ≤ b) (x y z u : Value) :
    Below B w ((((w'.setCell ⟨b, 0, none⟩ x).setCell ⟨b, 1, none⟩ y).setCell ⟨b, 2, none⟩ z).setCell ⟨b, 3, none⟩ u) :=
  (((h.setCell (p := ⟨b, 0, none⟩) hb x).setCell (p := ⟨b, 1, none⟩) hb y).setCell (p := ⟨b, 2, none⟩) hb z).setCell (p := ⟨b, 3, none⟩) hb u

/-- A world's name, with what is known of it. -/
theorem named {p : World → Prop} {W : World} (C : World → Prop) (hC : C W) (h : ∀ V, C V → p V) : p W := h W hC
/-! ### A row of cells that a slice reads -/
/-- At a lie these cells (nowhere, if there are none). -/
def Cells (w : World) (a : Option Addr) (vs : List Value) : Prop := vs = [] ∨ ∃ b o, a = some ⟨b, o, none⟩ ∧ ∀ i v, vs[i]? = some v → w.cell? ⟨b, o + i, none⟩ = some v
theorem Cells.at {w : World} {a : Option Addr} {vs : List Value} (h : Cells w a vs) {i : Nat} (hi : i < vs.length) : ∃ b o, a = some ⟨b, o, none⟩ ∧ b < w.heap.size ∧ w.cell? ⟨b, o + i, none⟩ = some vs[i] := by
  rcases h with rfl | ⟨b, o, ha, hc⟩
  · simp at hi
  · have h1 := hc i vs[i] (List.getElem?_eq_getElem hi)
    exact ⟨b, o, ha, block_lt_of_cell h1, h1⟩
theorem Cells.below {w w' : World} {a : Option Addr} {vs : List Value} (h : Cells w a vs) (hb : Below w.heap.size w w') : Cells w' a vs := by
  rcases h with rfl | ⟨b, o, ha, hc⟩
  · exact .inl rfl
  · refine .inr ⟨b, o, ha, fun i v hi => ?_⟩
    have h1 := hc i v hi
    rw [hb.cell (block_lt_of_cell h1)]; exact h1
end Go.Proofs.YtilfiadkhohfiaaGreatDoor
/- Package bits: With, Without, Has, Union, Common, Minus. -/
namespace Go.Proofs.YtilfiadkhohfiaaGreatDoor
set_option linter.unusedSimpArgs false
set_option linter.unusedVariables false
open Go Go.RowKit
attribute [local go_sem] setV

theorem isMember_no (n : Int) (w : World) (h : n < 0 ∨ 255 < n) :
    Calls Tryz.prog 245 #[.int .i64 n] w fun e w' => e = .returned (.bool false) ∧ w = w' := by
  rcases h with h | h
  · go_enter Tryz.func245, Tryz.ntmps245
    go_wp2
    go_ret
    exact ⟨rfl, rfl⟩
  · have h0 : 0 ≤ n := by omega
    go_enter Tryz.func245, Tryz.ntmps245
    go_wp2
    go_ret
    exact ⟨by simp; omega, rfl⟩

theorem has_in (N m : Nat) (w : World) (hm : m < 256) :
    Calls Tryz.prog 223 #[setV N, .int .i64 m] w fun e w' => e = .returned (.bool (N.testBit m)) ∧ Below w.heap.size w w' := by
  have hs := setL_get N (m/64) (by omega)
  have hb := has_bit N m
  go_enter Tryz.func223, Tryz.ntmps223
  simp only [setV]
  go_wp2_with (first | (go_at_call 245; refine (isMember_yes _ _ (by omega) (by omega)).mono ?_; rintro e w' ⟨rfl, rfl⟩) )
  go_ret
  exact ⟨by simp only [Array.getD_eq_getD_getElem?]; simp, (Below.refl _ _).alloc (Nat.le_refl _) _⟩
theorem has_out (N : Nat) (n : Int) (w : World) (h : n < 0 ∨ 255 < n) :
    Calls Tryz.prog 223 #[setV N, .int .i64 n] w fun e w' => e = .returned (.bool false) ∧ Below w.heap.size w w' := by
  go_enter Tryz.func223, Tryz.ntmps223
  simp only [setV]
  go_wp2_with (first | (go_at_call 245; refine (isMember_no _ _ h).mono ?_; rintro e w' ⟨rfl, rfl⟩) )
  go_ret
  exact ⟨rfl, (Below.refl _ _).alloc (Nat.le_refl _) _⟩

set_option maxRecDepth 100000 in
theorem with_in (N m : Nat) (w : World) (hm : m < 256) :
    Calls Tryz.prog 251 #[setV N, .int .i64 m] w fun e w' => e = .returned (.tuple #[setV (N ||| 2^m), .int .i64 0]) ∧ Below w.heap.size w w' := by
  have hs := setL_get N (m/64) (by omega)
  have hset := setL_with N m hm
  go_enter Tryz.func251, Tryz.ntmps251
  simp only [setV]
  go_wp2_with (first | (go_at_call 245; refine (isMember_yes _ _ (by omega) (by omega)).mono ?_; rintro e w' ⟨rfl, rfl⟩) )
  refine wp_region_same 9 20 [0, 1, 2, 3, 4, 5, 6, 7, 8] (by kernel_rfl) (by kernel_rfl) (by kernel_rfl) (by kernel_rfl) (by rfl) ?_
  (refine same_step rfl (by rfl) (by rfl) rfl (Nat.le_of_ble_eq_true rfl) ?_; apply Exists.intro; refine ⟨fun N hN => ?_, ?_⟩; (next => (go_wp2; all_goals rfl)); try simp only [Act.put, slotL_succ, slotL_zero, List.setIfInBounds_toArray, List.set_cons_zero, List.set_cons_succ])
  (refine same_step rfl (by rfl) (by rfl) rfl (Nat.le_of_ble_eq_true rfl) ?_; apply Exists.intro; refine ⟨fun N hN => ?_, ?_⟩; (next => (go_wp2; all_goals rfl)); try simp only [Act.put, slotL_succ, slotL_zero, List.setIfInBounds_toArray, List.set_cons_zero, List.set_cons_succ])
  (refine same_step rfl (by rfl) (by rfl) rfl (Nat.le_of_ble_eq_true rfl) ?_; apply Exists.intro; refine ⟨fun N hN => ?_, ?_⟩; (next => (go_wp2; all_goals rfl)); try simp only [Act.put, slotL_succ, slotL_zero, List.setIfInBounds_toArray, List.set_cons_zero, List.set_cons_succ])
  (refine same_step rfl (by rfl) (by rfl) rfl (Nat.le_of_ble_eq_true rfl) ?_; apply Exists.intro; refine ⟨fun N hN => ?_, ?_⟩; (next => (go_wp2; all_goals rfl)); try simp only [Act.put, slotL_succ, slotL_zero, List.setIfInBounds_toArray, List.set_cons_zero, List.set_cons_succ])
  (refine same_step rfl (by rfl) (by rfl) rfl (Nat.le_of_ble_eq_true rfl) ?_; apply Exists.intro; refine ⟨fun N hN => ?_, ?_⟩; (next => (go_wp2; all_goals rfl)); try simp only [Act.put, slotL_succ, slotL_zero, List.setIfInBounds_toArray, List.set_cons_zero, List.set_cons_succ])
  (refine same_step rfl (by rfl) (by rfl) rfl (Nat.le_of_ble_eq_true rfl) ?_; apply Exists.intro; refine ⟨fun N hN => ?_, ?_⟩; (next => (go_wp2; all_goals rfl)); try simp only [Act.put, slotL_succ, slotL_zero, List.setIfInBounds_toArray, List.set_cons_zero, List.set_cons_succ])
  (refine same_step rfl (by rfl) (by rfl) rfl (Nat.le_of_ble_eq_true rfl) ?_; apply Exists.intro; refine ⟨fun N hN => ?_, ?_⟩; (next => (go_wp2; all_goals rfl)); try simp only [Act.put, slotL_succ, slotL_zero, List.setIfInBounds_toArray, List.set_cons_zero, List.set_cons_succ])
  (refine same_step rfl (by rfl) (by rfl) rfl (Nat.le_of_ble_eq_true rfl) ?_; apply Exists.intro; refine ⟨fun N hN => ?_, ?_⟩; (next => (go_wp2; all_goals rfl)); try simp only [Act.put, slotL_succ, slotL_zero, List.setIfInBounds_toArray, List.set_cons_zero, List.set_cons_succ])
  (refine same_step rfl (by rfl) (by rfl) rfl (Nat.le_of_ble_eq_true rfl) ?_; apply Exists.intro; refine ⟨fun N hN => ?_, ?_⟩; (next => (go_wp2; all_goals rfl)); try simp only [Act.put, slotL_succ, slotL_zero, List.setIfInBounds_toArray, List.set_cons_zero, List.set_cons_succ])
  refine wpC_nil ?_
  simp only [List.drop_succ_cons, List.drop_zero, List.drop_nil]
  go_wp2
  refine bodyPost_ret (v := .tuple #[setV (N ||| 2^m), .int .i64 0]) (by simp [results, Tryz.results251, go_sem]) rfl ⟨rfl, ?_⟩
  exact (((Below.refl _ _).alloc (Nat.le_refl _) _).alloc (by simp) _).drew
theorem with_out (N : Nat) (n : Int) (w : World) (h : n < 0 ∨ 255 < n) :
    Calls Tryz.prog 251 #[setV N, .int .i64 n] w fun e w' => e = .returned (.tuple #[setV 0, .int .i64 1]) ∧ Below w.heap.size w w' := by
  go_enter Tryz.func251, Tryz.ntmps251
  simp only [setV]
  go_wp2_with (first | (go_at_call 245; refine (isMember_no _ _ h).mono ?_; rintro e w' ⟨rfl, rfl⟩) )
  refine bodyPost_ret (v := .tuple #[setV 0, .int .i64 1]) (by simp [results, Tryz.results251, go_sem, word_zero]) rfl ⟨rfl, ?_⟩
  exact (((Below.refl _ _).alloc (Nat.le_refl _) _).alloc (by simp) _)

end Go.Proofs.YtilfiadkhohfiaaGreatDoor
/- Package bits: Union, Common, Minus: the loop over the four words, round by round. -/
namespace Go.Proofs.YtilfiadkhohfiaaGreatDoor
set_option linter.unusedSimpArgs false
set_option linter.unusedVariables false
open Go Go.RowKit
attribute [local go_sem] setV

set_option maxRecDepth 100000 in
set_option maxHeartbeats 1000000 in
theorem union_any (N M : Nat) (w : World) :
    Calls Tryz.prog 172 #[setV N, setV M] w fun e w' => e = .returned (setV (N ||| M)) ∧ Below w.heap.size w w' := by
  have e0 : bits .or .u64 (word N 0) (word M 0) = (word (N ||| M) 0 : Int) := by rw [bits_or_u64_nat _ _ (word_lt _ _) (word_lt _ _), word_or]
  have e1 : bits .or .u64 (word N 1) (word M 1) = (word (N ||| M) 1 : Int) := by rw [bits_or_u64_nat _ _ (word_lt _ _) (word_lt _ _), word_or]
  have e2 : bits .or .u64 (word N 2) (word M 2) = (word (N ||| M) 2 : Int) := by rw [bits_or_u64_nat _ _ (word_lt _ _) (word_lt _ _), word_or]
  have e3 : bits .or .u64 (word N 3) (word M 3) = (word (N ||| M) 3 : Int) := by rw [bits_or_u64_nat _ _ (word_lt _ _) (word_lt _ _), word_or]
  go_enter Tryz.func172, Tryz.ntmps172
  simp only [setV]
  go_wp2
  refine wp_loop_rounds 5 ?_
  rw [rounds_succ]
  go_wp2
  refine wp_region_same 8 19 [0, 1, 2, 3, 4, 5, 6, 7] (by kernel_rfl) (by kernel_rfl) (by kernel_rfl) (by kernel_rfl) (by rfl) ?_
  (refine same_step rfl (by rfl) (by rfl) rfl (Nat.le_of_ble_eq_true rfl) ?_; apply Exists.intro; refine ⟨fun N hN => ?_, ?_⟩; (next => (go_wp2; all_goals rfl)); try simp only [Act.put, slotL_succ, slotL_zero, List.setIfInBounds_toArray, List.set_cons_zero, List.set_cons_succ])
  (refine same_step rfl (by rfl) (by rfl) rfl (Nat.le_of_ble_eq_true rfl) ?_; apply Exists.intro; refine ⟨fun N hN => ?_, ?_⟩; (next => (go_wp2; all_goals rfl)); try simp only [Act.put, slotL_succ, slotL_zero, List.setIfInBounds_toArray, List.set_cons_zero, List.set_cons_succ])
  (refine same_step rfl (by rfl) (by rfl) rfl (Nat.le_of_ble_eq_true rfl) ?_; apply Exists.intro; refine ⟨fun N hN => ?_, ?_⟩; (next => (go_wp2; all_goals rfl)); try simp only [Act.put, slotL_succ, slotL_zero, List.setIfInBounds_toArray, List.set_cons_zero, List.set_cons_succ])
  (refine same_step rfl (by rfl) (by rfl) rfl (Nat.le_of_ble_eq_true rfl) ?_; apply Exists.intro; refine ⟨fun N hN => ?_, ?_⟩; (next => (go_wp2; all_goals rfl)); try simp only [Act.put, slotL_succ, slotL_zero, List.setIfInBounds_toArray, List.set_cons_zero, List.set_cons_succ])
  (refine same_step rfl (by rfl) (by rfl) rfl (Nat.le_of_ble_eq_true rfl) ?_; apply Exists.intro; refine ⟨fun N hN => ?_, ?_⟩; (next => (go_wp2; all_goals rfl)); try simp only [Act.put, slotL_succ, slotL_zero, List.setIfInBounds_toArray, List.set_cons_zero, List.set_cons_succ])
  (refine same_step rfl (by rfl) (by rfl) rfl (Nat.le_of_ble_eq_true rfl) ?_; apply Exists.intro; refine ⟨fun N hN => ?_, ?_⟩; (next => (go_wp2; all_goals rfl)); try simp only [Act.put, slotL_succ, slotL_zero, List.setIfInBounds_toArray, List.set_cons_zero, List.set_cons_succ])
  (refine same_step rfl (by rfl) (by rfl) rfl (Nat.le_of_ble_eq_true rfl) ?_; apply Exists.intro; refine ⟨fun N hN => ?_, ?_⟩; (next => (go_wp2; all_goals rfl)); try simp only [Act.put, slotL_succ, slotL_zero, List.setIfInBounds_toArray, List.set_cons_zero, List.set_cons_succ])
  (refine same_step rfl (by rfl) (by rfl) rfl (Nat.le_of_ble_eq_true rfl) ?_; apply Exists.intro; refine ⟨fun N hN => ?_, ?_⟩; (next => (go_wp2; all_goals rfl)); try simp only [Act.put, slotL_succ, slotL_zero, List.setIfInBounds_toArray, List.set_cons_zero, List.set_cons_succ])
  refine wpC_nil ?_
  simp only [List.drop_succ_cons, List.drop_zero, List.drop_nil]
  go_wp2
  rw [rounds_succ]
  go_wp2
  refine wp_region_same 8 19 [0, 1, 2, 3, 4, 5, 6, 7] (by kernel_rfl) (by kernel_rfl) (by kernel_rfl) (by kernel_rfl) (by rfl) ?_
  (refine same_step rfl (by rfl) (by rfl) rfl (Nat.le_of_ble_eq_true rfl) ?_; apply Exists.intro; refine ⟨fun N hN => ?_, ?_⟩; (next => (go_wp2; all_goals rfl)); try simp only [Act.put, slotL_succ, slotL_zero, List.setIfInBounds_toArray, List.set_cons_zero, List.set_cons_succ])
  (refine same_step rfl (by rfl) (by rfl) rfl (Nat.le_of_ble_eq_true rfl) ?_; apply Exists.intro; refine ⟨fun N hN => ?_, ?_⟩; (next => (go_wp2; all_goals rfl)); try simp only [Act.put, slotL_succ, slotL_zero, List.setIfInBounds_toArray, List.set_cons_zero, List.set_cons_succ])
  (refine same_step rfl (by rfl) (by rfl) rfl (Nat.le_of_ble_eq_true rfl) ?_; apply Exists.intro; refine ⟨fun N hN => ?_, ?_⟩; (next => (go_wp2; all_goals rfl)); try simp only [Act.put, slotL_succ, slotL_zero, List.setIfInBounds_toArray, List.set_cons_zero, List.set_cons_succ])
  (refine same_step rfl (by rfl) (by rfl) rfl (Nat.le_of_ble_eq_true rfl) ?_; apply Exists.intro; refine ⟨fun N hN => ?_, ?_⟩; (next => (go_wp2; all_goals rfl)); try simp only [Act.put, slotL_succ, slotL_zero, List.setIfInBounds_toArray, List.set_cons_zero, List.set_cons_succ])
  (refine same_step rfl (by rfl) (by rfl) rfl (Nat.le_of_ble_eq_true rfl) ?_; apply Exists.intro; refine ⟨fun N hN => ?_, ?_⟩; (next => (go_wp2; all_goals rfl)); try simp only [Act.put, slotL_succ, slotL_zero, List.setIfInBounds_toArray, List.set_cons_zero, List.set_cons_succ])
  (refine same_step rfl (by rfl) (by rfl) rfl (Nat.le_of_ble_eq_true rfl) ?_; apply Exists.intro; refine ⟨fun N hN => ?_, ?_⟩; (next => (go_wp2; all_goals rfl)); try simp only [Act.put, slotL_succ, slotL_zero, List.setIfInBounds_toArray, List.set_cons_zero, List.set_cons_succ])
  (refine same_step rfl (by rfl) (by rfl) rfl (Nat.le_of_ble_eq_true rfl) ?_; apply Exists.intro; refine ⟨fun N hN => ?_, ?_⟩; (next => (go_wp2; all_goals rfl)); try simp only [Act.put, slotL_succ, slotL_zero, List.setIfInBounds_toArray, List.set_cons_zero, List.set_cons_succ])
  (refine same_step rfl (by rfl) (by rfl) rfl (Nat.le_of_ble_eq_true rfl) ?_; apply Exists.intro; refine ⟨fun N hN => ?_, ?_⟩; (next => (go_wp2; all_goals rfl)); try simp only [Act.put, slotL_succ, slotL_zero, List.setIfInBounds_toArray, List.set_cons_zero, List.set_cons_succ])
  refine wpC_nil ?_
  simp only [List.drop_succ_cons, List.drop_zero, List.drop_nil]
  go_wp2
  rw [rounds_succ]
  go_wp2
  refine wp_region_same 8 19 [0, 1, 2, 3, 4, 5, 6, 7] (by kernel_rfl) (by kernel_rfl) (by kernel_rfl) (by kernel_rfl) (by rfl) ?_
  (refine same_step rfl (by rfl) (by rfl) rfl (Nat.le_of_ble_eq_true rfl) ?_; apply Exists.intro; refine ⟨fun N hN => ?_, ?_⟩; (next => (go_wp2; all_goals rfl)); try simp only [Act.put, slotL_succ, slotL_zero, List.setIfInBounds_toArray, List.set_cons_zero, List.set_cons_succ])
  (refine same_step rfl (by rfl) (by rfl) rfl (Nat.le_of_ble_eq_true rfl) ?_; apply Exists.intro; refine ⟨fun N hN => ?_, ?_⟩; (next => (go_wp2; all_goals rfl)); try simp only [Act.put, slotL_succ, slotL_zero, List.setIfInBounds_toArray, List.set_cons_zero, List.set_cons_succ])
  (refine same_step rfl (by rfl) (by rfl) rfl (Nat.le_of_ble_eq_true rfl) ?_; apply Exists.intro; refine ⟨fun N hN => ?_, ?_⟩; (next => (go_wp2; all_goals rfl)); try simp only [Act.put, slotL_succ, slotL_zero, List.setIfInBounds_toArray, List.set_cons_zero, List.set_cons_succ])
  (refine same_step rfl (by rfl) (by rfl) rfl (Nat.le_of_ble_eq_true rfl) ?_; apply Exists.intro; refine ⟨fun N hN => ?_, ?_⟩; (next => (go_wp2; all_goals rfl)); try simp only [Act.put, slotL_succ, slotL_zero, List.setIfInBounds_toArray, List.set_cons_zero, List.set_cons_succ])
  (refine same_step rfl (by rfl) (by rfl) rfl (Nat.le_of_ble_eq_true rfl) ?_; apply Exists.intro; refine ⟨fun N hN => ?_, ?_⟩; (next => (go_wp2; all_goals rfl)); try simp only [Act.put, slotL_succ, slotL_zero, List.setIfInBounds_toArray, List.set_cons_zero, List.set_cons_succ])
  (refine same_step rfl (by rfl) (by rfl) rfl (Nat.le_of_ble_eq_true rfl) ?_; apply Exists.intro; refine ⟨fun N hN => ?_, ?_⟩; (next => (go_wp2; all_goals rfl)); try simp only [Act.put, slotL_succ, slotL_zero, List.setIfInBounds_toArray, List.set_cons_zero, List.set_cons_succ])
  (refine same_step rfl (by rfl) (by rfl) rfl (Nat.le_of_ble_eq_true rfl) ?_; apply Exists.intro; refine ⟨fun N hN => ?_, ?_⟩; (next => (go_wp2; all_goals rfl)); try simp only [Act.put, slotL_succ, slotL_zero, List.setIfInBounds_toArray, List.set_cons_zero, List.set_cons_succ])
  (refine same_step rfl (by rfl) (by rfl) rfl (Nat.le_of_ble_eq_true rfl) ?_; apply Exists.intro; refine ⟨fun N hN => ?_, ?_⟩; (next => (go_wp2; all_goals rfl)); try simp only [Act.put, slotL_succ, slotL_zero, List.setIfInBounds_toArray, List.set_cons_zero, List.set_cons_succ])
  refine wpC_nil ?_
  simp only [List.drop_succ_cons, List.drop_zero, List.drop_nil]
  go_wp2
  rw [rounds_succ]
  go_wp2
  refine wp_region_same 8 19 [0, 1, 2, 3, 4, 5, 6, 7] (by kernel_rfl) (by kernel_rfl) (by kernel_rfl) (by kernel_rfl) (by rfl) ?_
  (refine same_step rfl (by rfl) (by rfl) rfl (Nat.le_of_ble_eq_true rfl) ?_; apply Exists.intro; refine ⟨fun N hN => ?_, ?_⟩; (next => (go_wp2; all_goals rfl)); try simp only [Act.put, slotL_succ, slotL_zero, List.setIfInBounds_toArray, List.set_cons_zero, List.set_cons_succ])
  (refine same_step rfl (by rfl) (by rfl) rfl (Nat.le_of_ble_eq_true rfl) ?_; apply Exists.intro; refine ⟨fun N hN => ?_, ?_⟩; (next => (go_wp2; all_goals rfl)); try simp only [Act.put, slotL_succ, slotL_zero, List.setIfInBounds_toArray, List.set_cons_zero, List.set_cons_succ])
  (refine same_step rfl (by rfl) (by rfl) rfl (Nat.le_of_ble_eq_true rfl) ?_; apply Exists.intro; refine ⟨fun N hN => ?_, ?_⟩; (next => (go_wp2; all_goals rfl)); try simp only [Act.put, slotL_succ, slotL_zero, List.setIfInBounds_toArray, List.set_cons_zero, List.set_cons_succ])
  (refine same_step rfl (by rfl) (by rfl) rfl (Nat.le_of_ble_eq_true rfl) ?_; apply Exists.intro; refine ⟨fun N hN => ?_, ?_⟩; (next => (go_wp2; all_goals rfl)); try simp only [Act.put, slotL_succ, slotL_zero, List.setIfInBounds_toArray, List.set_cons_zero, List.set_cons_succ])
  (refine same_step rfl (by rfl) (by rfl) rfl (Nat.le_of_ble_eq_true rfl) ?_; apply Exists.intro; refine ⟨fun N hN => ?_, ?_⟩; (next => (go_wp2; all_goals rfl)); try simp only [Act.put, slotL_succ, slotL_zero, List.setIfInBounds_toArray, List.set_cons_zero, List.set_cons_succ])
  (refine same_step rfl (by rfl) (by rfl) rfl (Nat.le_of_ble_eq_true rfl) ?_; apply Exists.intro; refine ⟨fun N hN => ?_, ?_⟩; (next => (go_wp2; all_goals rfl)); try simp only [Act.put, slotL_succ, slotL_zero, List.setIfInBounds_toArray, List.set_cons_zero, List.set_cons_succ])
  (refine same_step rfl (by rfl) (by rfl) rfl (Nat.le_of_ble_eq_true rfl) ?_; apply Exists.intro; refine ⟨fun N hN => ?_, ?_⟩; (next => (go_wp2; all_goals rfl)); try simp only [Act.put, slotL_succ, slotL_zero, List.setIfInBounds_toArray, List.set_cons_zero, List.set_cons_succ])
  (refine same_step rfl (by rfl) (by rfl) rfl (Nat.le_of_ble_eq_true rfl) ?_; apply Exists.intro; refine ⟨fun N hN => ?_, ?_⟩; (next => (go_wp2; all_goals rfl)); try simp only [Act.put, slotL_succ, slotL_zero, List.setIfInBounds_toArray, List.set_cons_zero, List.set_cons_succ])
  refine wpC_nil ?_
  simp only [List.drop_succ_cons, List.drop_zero, List.drop_nil]
  go_wp2
  rw [rounds_succ]
  go_wp2
  refine bodyPost_ret (v := setV (N ||| M)) (by simp [results, Tryz.results172, go_sem]) rfl ⟨rfl, ?_⟩
  exact ((((Below.refl _ _).alloc (Nat.le_refl _) _).alloc (by simp) _).alloc (by simp; omega) _).drew.drew.drew.drew

set_option maxRecDepth 100000 in
set_option maxHeartbeats 1000000 in
theorem common_any (N M : Nat) (w : World) :
    Calls Tryz.prog 176 #[setV N, setV M] w fun e w' => e = .returned (setV (N &&& M)) ∧ Below w.heap.size w w' := by
  have e0 : bits .and .u64 (word N 0) (word M 0) = (word (N &&& M) 0 : Int) := by rw [bits_and_u64_nat _ _ (word_lt _ _) (word_lt _ _), word_and]
  have e1 : bits .and .u64 (word N 1) (word M 1) = (word (N &&& M) 1 : Int) := by rw [bits_and_u64_nat _ _ (word_lt _ _) (word_lt _ _), word_and]
  have e2 : bits .and .u64 (word N 2) (word M 2) = (word (N &&& M) 2 : Int) := by rw [bits_and_u64_nat _ _ (word_lt _ _) (word_lt _ _), word_and]
  have e3 : bits .and .u64 (word N 3) (word M 3) = (word (N &&& M) 3 : Int) := by rw [bits_and_u64_nat _ _ (word_lt _ _) (word_lt _ _), word_and]
  go_enter Tryz.func176, Tryz.ntmps176
  simp only [setV]
  go_wp2
  refine wp_loop_rounds 5 ?_
  rw [rounds_succ]
  go_wp2
  refine wp_region_same 8 19 [0, 1, 2, 3, 4, 5, 6, 7] (by kernel_rfl) (by kernel_rfl) (by kernel_rfl) (by kernel_rfl) (by rfl) ?_
  (refine same_step rfl (by rfl) (by rfl) rfl (Nat.le_of_ble_eq_true rfl) ?_; apply Exists.intro; refine ⟨fun N hN => ?_, ?_⟩; (next => (go_wp2; all_goals rfl)); try simp only [Act.put, slotL_succ, slotL_zero, List.setIfInBounds_toArray, List.set_cons_zero, List.set_cons_succ])
  (refine same_step rfl (by rfl) (by rfl) rfl (Nat.le_of_ble_eq_true rfl) ?_; apply Exists.intro; refine ⟨fun N hN => ?_, ?_⟩; (next => (go_wp2; all_goals rfl)); try simp only [Act.put, slotL_succ, slotL_zero, List.setIfInBounds_toArray, List.set_cons_zero, List.set_cons_succ])
  (refine same_step rfl (by rfl) (by rfl) rfl (Nat.le_of_ble_eq_true rfl) ?_; apply Exists.intro; refine ⟨fun N hN => ?_, ?_⟩; (next => (go_wp2; all_goals rfl)); try simp only [Act.put, slotL_succ, slotL_zero, List.setIfInBounds_toArray, List.set_cons_zero, List.set_cons_succ])
  (refine same_step rfl (by rfl) (by rfl) rfl (Nat.le_of_ble_eq_true rfl) ?_; apply Exists.intro; refine ⟨fun N hN => ?_, ?_⟩; (next => (go_wp2; all_goals rfl)); try simp only [Act.put, slotL_succ, slotL_zero, List.setIfInBounds_toArray, List.set_cons_zero, List.set_cons_succ])
  (refine same_step rfl (by rfl) (by rfl) rfl (Nat.le_of_ble_eq_true rfl) ?_; apply Exists.intro; refine ⟨fun N hN => ?_, ?_⟩; (next => (go_wp2; all_goals rfl)); try simp only [Act.put, slotL_succ, slotL_zero, List.setIfInBounds_toArray, List.set_cons_zero, List.set_cons_succ])
  (refine same_step rfl (by rfl) (by rfl) rfl (Nat.le_of_ble_eq_true rfl) ?_; apply Exists.intro; refine ⟨fun N hN => ?_, ?_⟩; (next => (go_wp2; all_goals rfl)); try simp only [Act.put, slotL_succ, slotL_zero, List.setIfInBounds_toArray, List.set_cons_zero, List.set_cons_succ])
  (refine same_step rfl (by rfl) (by rfl) rfl (Nat.le_of_ble_eq_true rfl) ?_; apply Exists.intro; refine ⟨fun N hN => ?_, ?_⟩; (next => (go_wp2; all_goals rfl)); try simp only [Act.put, slotL_succ, slotL_zero, List.setIfInBounds_toArray, List.set_cons_zero, List.set_cons_succ])
  (refine same_step rfl (by rfl) (by rfl) rfl (Nat.le_of_ble_eq_true rfl) ?_; apply Exists.intro; refine ⟨fun N hN => ?_, ?_⟩; (next => (go_wp2; all_goals rfl)); try simp only [Act.put, slotL_succ, slotL_zero, List.setIfInBounds_toArray, List.set_cons_zero, List.set_cons_succ])
  refine wpC_nil ?_
  simp only [List.drop_succ_cons, List.drop_zero, List.drop_nil]
  go_wp2
  rw [rounds_succ]
  go_wp2
  refine wp_region_same 8 19 [0, 1, 2, 3, 4, 5, 6, 7] (by kernel_rfl) (by kernel_rfl) (by kernel_rfl) (by kernel_rfl) (by rfl) ?_
  (refine same_step rfl (by rfl) (by rfl) rfl (Nat.le_of_ble_eq_true rfl) ?_; apply Exists.intro; refine ⟨fun N hN => ?_, ?_⟩; (next => (go_wp2; all_goals rfl)); try simp only [Act.put, slotL_succ, slotL_zero, List.setIfInBounds_toArray, List.set_cons_zero, List.set_cons_succ])
  (refine same_step rfl (by rfl) (by rfl) rfl (Nat.le_of_ble_eq_true rfl) ?_; apply Exists.intro; refine ⟨fun N hN => ?_, ?_⟩; (next => (go_wp2; all_goals rfl)); try simp only [Act.put, slotL_succ, slotL_zero, List.setIfInBounds_toArray, List.set_cons_zero, List.set_cons_succ])
  (refine same_step rfl (by rfl) (by rfl) rfl (Nat.le_of_ble_eq_true rfl) ?_; apply Exists.intro; refine ⟨fun N hN => ?_, ?_⟩; (next => (go_wp2; all_goals rfl)); try simp only [Act.put, slotL_succ, slotL_zero, List.setIfInBounds_toArray, List.set_cons_zero, List.set_cons_succ])
  (refine same_step rfl (by rfl) (by rfl) rfl (Nat.le_of_ble_eq_true rfl) ?_; apply Exists.intro; refine ⟨fun N hN => ?_, ?_⟩; (next => (go_wp2; all_goals rfl)); try simp only [Act.put, slotL_succ, slotL_zero, List.setIfInBounds_toArray, List.set_cons_zero, List.set_cons_succ])
  (refine same_step rfl (by rfl) (by rfl) rfl (Nat.le_of_ble_eq_true rfl) ?_; apply Exists.intro; refine ⟨fun N hN => ?_, ?_⟩; (next => (go_wp2; all_goals rfl)); try simp only [Act.put, slotL_succ, slotL_zero, List.setIfInBounds_toArray, List.set_cons_zero, List.set_cons_succ])
  (refine same_step rfl (by rfl) (by rfl) rfl (Nat.le_of_ble_eq_true rfl) ?_; apply Exists.intro; refine ⟨fun N hN => ?_, ?_⟩; (next => (go_wp2; all_goals rfl)); try simp only [Act.put, slotL_succ, slotL_zero, List.setIfInBounds_toArray, List.set_cons_zero, List.set_cons_succ])
  (refine same_step rfl (by rfl) (by rfl) rfl (Nat.le_of_ble_eq_true rfl) ?_; apply Exists.intro; refine ⟨fun N hN => ?_, ?_⟩; (next => (go_wp2; all_goals rfl)); try simp only [Act.put, slotL_succ, slotL_zero, List.setIfInBounds_toArray, List.set_cons_zero, List.set_cons_succ])
  (refine same_step rfl (by rfl) (by rfl) rfl (Nat.le_of_ble_eq_true rfl) ?_; apply Exists.intro; refine ⟨fun N hN => ?_, ?_⟩; (next => (go_wp2; all_goals rfl)); try simp only [Act.put, slotL_succ, slotL_zero, List.setIfInBounds_toArray, List.set_cons_zero, List.set_cons_succ])
  refine wpC_nil ?_
  simp only [List.drop_succ_cons, List.drop_zero, List.drop_nil]
  go_wp2
  rw [rounds_succ]
  go_wp2
  refine wp_region_same 8 19 [0, 1, 2, 3, 4, 5, 6, 7] (by kernel_rfl) (by kernel_rfl) (by kernel_rfl) (by kernel_rfl) (by rfl) ?_
  (refine same_step rfl (by rfl) (by rfl) rfl (Nat.le_of_ble_eq_true rfl) ?_; apply Exists.intro; refine ⟨fun N hN => ?_, ?_⟩; (next => (go_wp2; all_goals rfl)); try simp only [Act.put, slotL_succ, slotL_zero, List.setIfInBounds_toArray, List.set_cons_zero, List.set_cons_succ])
  (refine same_step rfl (by rfl) (by rfl) rfl (Nat.le_of_ble_eq_true rfl) ?_; apply Exists.intro; refine ⟨fun N hN => ?_, ?_⟩; (next => (go_wp2; all_goals rfl)); try simp only [Act.put, slotL_succ, slotL_zero, List.setIfInBounds_toArray, List.set_cons_zero, List.set_cons_succ])
  (refine same_step rfl (by rfl) (by rfl) rfl (Nat.le_of_ble_eq_true rfl) ?_; apply Exists.intro; refine ⟨fun N hN => ?_, ?_⟩; (next => (go_wp2; all_goals rfl)); try simp only [Act.put, slotL_succ, slotL_zero, List.setIfInBounds_toArray, List.set_cons_zero, List.set_cons_succ])
  (refine same_step rfl (by rfl) (by rfl) rfl (Nat.le_of_ble_eq_true rfl) ?_; apply Exists.intro; refine ⟨fun N hN => ?_, ?_⟩; (next => (go_wp2; all_goals rfl)); try simp only [Act.put, slotL_succ, slotL_zero, List.setIfInBounds_toArray, List.set_cons_zero, List.set_cons_succ])
  (refine same_step rfl (by rfl) (by rfl) rfl (Nat.le_of_ble_eq_true rfl) ?_; apply Exists.intro; refine ⟨fun N hN => ?_, ?_⟩; (next => (go_wp2; all_goals rfl)); try simp only [Act.put, slotL_succ, slotL_zero, List.setIfInBounds_toArray, List.set_cons_zero, List.set_cons_succ])
  (refine same_step rfl (by rfl) (by rfl) rfl (Nat.le_of_ble_eq_true rfl) ?_; apply Exists.intro; refine ⟨fun N hN => ?_, ?_⟩; (next => (go_wp2; all_goals rfl)); try simp only [Act.put, slotL_succ, slotL_zero, List.setIfInBounds_toArray, List.set_cons_zero, List.set_cons_succ])
  (refine same_step rfl (by rfl) (by rfl) rfl (Nat.le_of_ble_eq_true rfl) ?_; apply Exists.intro; refine ⟨fun N hN => ?_, ?_⟩; (next => (go_wp2; all_goals rfl)); try simp only [Act.put, slotL_succ, slotL_zero, List.setIfInBounds_toArray, List.set_cons_zero, List.set_cons_succ])
  (refine same_step rfl (by rfl) (by rfl) rfl (Nat.le_of_ble_eq_true rfl) ?_; apply Exists.intro; refine ⟨fun N hN => ?_, ?_⟩; (next => (go_wp2; all_goals rfl)); try simp only [Act.put, slotL_succ, slotL_zero, List.setIfInBounds_toArray, List.set_cons_zero, List.set_cons_succ])
  refine wpC_nil ?_
  simp only [List.drop_succ_cons, List.drop_zero, List.drop_nil]
  go_wp2
  rw [rounds_succ]
  go_wp2
  refine wp_region_same 8 19 [0, 1, 2, 3, 4, 5, 6, 7] (by kernel_rfl) (by kernel_rfl) (by kernel_rfl) (by kernel_rfl) (by rfl) ?_
  (refine same_step rfl (by rfl) (by rfl) rfl (Nat.le_of_ble_eq_true rfl) ?_; apply Exists.intro; refine ⟨fun N hN => ?_, ?_⟩; (next => (go_wp2; all_goals rfl)); try simp only [Act.put, slotL_succ, slotL_zero, List.setIfInBounds_toArray, List.set_cons_zero, List.set_cons_succ])
  (refine same_step rfl (by rfl) (by rfl) rfl (Nat.le_of_ble_eq_true rfl) ?_; apply Exists.intro; refine ⟨fun N hN => ?_, ?_⟩; (next => (go_wp2; all_goals rfl)); try simp only [Act.put, slotL_succ, slotL_zero, List.setIfInBounds_toArray, List.set_cons_zero, List.set_cons_succ])
  (refine same_step rfl (by rfl) (by rfl) rfl (Nat.le_of_ble_eq_true rfl) ?_; apply Exists.intro; refine ⟨fun N hN => ?_, ?_⟩; (next => (go_wp2; all_goals rfl)); try simp only [Act.put, slotL_succ, slotL_zero, List.setIfInBounds_toArray, List.set_cons_zero, List.set_cons_succ])
  (refine same_step rfl (by rfl) (by rfl) rfl (Nat.le_of_ble_eq_true rfl) ?_; apply Exists.intro; refine ⟨fun N hN => ?_, ?_⟩; (next => (go_wp2; all_goals rfl)); try simp only [Act.put, slotL_succ, slotL_zero, List.setIfInBounds_toArray, List.set_cons_zero, List.set_cons_succ])
  (refine same_step rfl (by rfl) (by rfl) rfl (Nat.le_of_ble_eq_true rfl) ?_; apply Exists.intro; refine ⟨fun N hN => ?_, ?_⟩; (next => (go_wp2; all_goals rfl)); try simp only [Act.put, slotL_succ, slotL_zero, List.setIfInBounds_toArray, List.set_cons_zero, List.set_cons_succ])
  (refine same_step rfl (by rfl) (by rfl) rfl (Nat.le_of_ble_eq_true rfl) ?_; apply Exists.intro; refine ⟨fun N hN => ?_, ?_⟩; (next => (go_wp2; all_goals rfl)); try simp only [Act.put, slotL_succ, slotL_zero, List.setIfInBounds_toArray, List.set_cons_zero, List.set_cons_succ])
  (refine same_step rfl (by rfl) (by rfl) rfl (Nat.le_of_ble_eq_true rfl) ?_; apply Exists.intro; refine ⟨fun N hN => ?_, ?_⟩; (next => (go_wp2; all_goals rfl)); try simp only [Act.put, slotL_succ, slotL_zero, List.setIfInBounds_toArray, List.set_cons_zero, List.set_cons_succ])
  (refine same_step rfl (by rfl) (by rfl) rfl (Nat.le_of_ble_eq_true rfl) ?_; apply Exists.intro; refine ⟨fun N hN => ?_, ?_⟩; (next => (go_wp2; all_goals rfl)); try simp only [Act.put, slotL_succ, slotL_zero, List.setIfInBounds_toArray, List.set_cons_zero, List.set_cons_succ])
  refine wpC_nil ?_
  simp only [List.drop_succ_cons, List.drop_zero, List.drop_nil]
  go_wp2
  rw [rounds_succ]
  go_wp2
  refine bodyPost_ret (v := setV (N &&& M)) (by simp [results, Tryz.results176, go_sem]) rfl ⟨rfl, ?_⟩
  exact ((((Below.refl _ _).alloc (Nat.le_refl _) _).alloc (by simp) _).alloc (by simp; omega) _).drew.drew.drew.drew

end Go.Proofs.YtilfiadkhohfiaaGreatDoor
/- Package bits: Compare, Within, Meets, Size. -/
namespace Go.Proofs.YtilfiadkhohfiaaGreatDoor
set_option linter.unusedSimpArgs false
set_option linter.unusedVariables false
open Go Go.RowKit
attribute [local go_sem] setV
/-- -1, 0 or 1, as N is below M, the same, or above. -/
def cmpS (N M : Nat) : Int := if N < M then -1 else if M < N then 1 else 0


theorem cmp_lt (N M j : Nat) (hM : M < 2 ^ 256) (h : ∀ i, j < i → i < 4 → word N i = word M i) (hj : j < 4) (hlt : word N j < word M j) (hN : N < 2 ^ 256) : N < M := by
  unfold word at *
  match j, hj with
  | 0, _ =>
    have h1 := h 1 (by decide) (by decide); have h2 := h 2 (by decide) (by decide); have h3 := h 3 (by decide) (by decide)
    simp only [Nat.reduceMul, Nat.reducePow, Nat.pow_zero, Nat.mul_zero, Nat.mul_one] at *; omega
  | 1, _ =>
    have h2 := h 2 (by decide) (by decide); have h3 := h 3 (by decide) (by decide)
    simp only [Nat.reduceMul, Nat.reducePow, Nat.pow_zero, Nat.mul_zero, Nat.mul_one] at *; omega
  | 2, _ =>
    have h3 := h 3 (by decide) (by decide)
    simp only [Nat.reduceMul, Nat.reducePow, Nat.pow_zero, Nat.mul_zero, Nat.mul_one] at *; omega
  | 3, _ => simp only [Nat.reduceMul, Nat.reducePow, Nat.pow_zero, Nat.mul_zero, Nat.mul_one] at *; omega
theorem cmp_of_lt {N M : Nat} (h : N < M) : cmpS N M = -1 := by unfold cmpS; rw [if_pos h]
theorem cmp_of_gt {N M : Nat} (h : M < N) : cmpS N M = 1 := by unfold cmpS; rw [if_neg (by omega), if_pos h]
theorem cmp_self (N : Nat) : cmpS N N = 0 := by unfold cmpS; simp
end Go.Proofs.YtilfiadkhohfiaaGreatDoor
/- Package bits: Within, Meets. -/
namespace Go.Proofs.YtilfiadkhohfiaaGreatDoor
set_option linter.unusedSimpArgs false
set_option linter.unusedVariables false
open Go Go.RowKit
attribute [local go_sem] setV equalIn_words equalIn_zero
theorem and_lt {N M : Nat} {n : Nat} (h : N < 2 ^ n) : N &&& M < 2 ^ n := Nat.lt_of_le_of_lt Nat.and_le_left h

set_option maxRecDepth 100000 in
theorem meets_any (N M : Nat) (w : World) :
    Calls Tryz.prog 126 #[setV N, setV M] w fun e w' => e = .returned (.bool (!eqS (N &&& M) 0)) ∧ Below w.heap.size w w' := by
  go_enter Tryz.func126, Tryz.ntmps126
  simp only [setV]
  go_wp2_with (first | (go_at_call 176; refine (common_any N M _).mono ?_; rintro e w' ⟨rfl, hb⟩))
  go_ret
  exact ⟨rfl, (((Below.refl _ _).alloc (Nat.le_refl _) _).alloc (by simp) _).trans (hb.mono (by simp; omega))⟩
end Go.Proofs.YtilfiadkhohfiaaGreatDoor
/- How many bits a number has: counted bit by bit, and byte by byte as math/bits does it. -/
namespace Go.Proofs.YtilfiadkhohfiaaGreatDoor
set_option linter.unusedSimpArgs false
set_option linter.unusedVariables false

/-- How many of the lowest n bits are set. -/
def cnt (x : Nat) : Nat → Nat
  | 0 => 0
  | n + 1 => cnt x n + (x.testBit n).toNat

/-- The number with these bytes, the lowest first. -/
def val : List Nat → Nat
  | [] => 0
  | r :: l => r + 256 * val l
def rep (b : Nat) : Nat → List Nat
  | 0 => []
  | n + 1 => b :: rep b n

theorem and_byte (y z r s : Nat) (hr : r < 256) (hs : s < 256) : (r + 256 * y) &&& (s + 256 * z) = (r &&& s) + 256 * (y &&& z) := by
  have h1 : (r + 256 * y) / 2 ^ 8 = y := by omega
  have h2 : (s + 256 * z) / 2 ^ 8 = z := by omega
  have h3 : (r + 256 * y) % 2 ^ 8 = r := by omega
  have h4 : (s + 256 * z) % 2 ^ 8 = s := by omega
  have e1 : ((r + 256 * y) &&& (s + 256 * z)) / 2 ^ 8 = y &&& z := by rw [Nat.and_div_two_pow, h1, h2]
  have e2 : ((r + 256 * y) &&& (s + 256 * z)) % 2 ^ 8 = r &&& s := by rw [Nat.and_mod_two_pow, h3, h4]
  have := Nat.div_add_mod ((r + 256 * y) &&& (s + 256 * z)) (2 ^ 8)
  rw [e1, e2] at this
  omega

def stA (r : Nat) : Nat := ((r / 2) &&& 85) + (r &&& 85)
def stB (r : Nat) : Nat := ((r / 4) &&& 51) + (r &&& 51)
def stC (r : Nat) : Nat := (r / 16 + r) &&& 15

theorem dA : ∀ b, b < 2 → ∀ r, r < 256 → (r / 2 + 128 * b) &&& 85 = (r / 2) &&& 85 := by decide +kernel
theorem dB : ∀ b, b < 4 → ∀ r, r < 256 → (r / 4 + 64 * b) &&& 51 = (r / 4) &&& 51 := by decide +kernel
theorem lA : ∀ r, r < 256 → stA r < 256 := by decide +kernel
/-- A byte's bits: after both steps each half holds at most 4, and together they are the bits of the byte. -/
theorem byte_ok : ∀ r, r < 256 → stB (stA r) % 16 ≤ 4 ∧ stB (stA r) / 16 ≤ 4 ∧ stC (stB (stA r)) = cnt r 8 := by decide +kernel

theorem step_A : ∀ (l : List Nat), (∀ r ∈ l, r < 256) → ((val l / 2) &&& val (rep 85 l.length)) + (val l &&& val (rep 85 l.length)) = val (l.map stA)
  | [], _ => by simp [val, rep]
  | r :: l, h => by
    have ih := step_A l (fun r hr => h r (List.mem_cons_of_mem _ hr))
    have hr := h r List.mem_cons_self
    simp only [val, rep, List.length_cons, List.map_cons]
    have e : (r + 256 * val l) / 2 = (r / 2 + 128 * (val l % 2)) + 256 * (val l / 2) := by omega
    rw [e, and_byte _ _ _ _ (by omega) (by decide), and_byte _ _ _ _ hr (by decide), dA _ (by omega) r hr, ← ih]
    unfold stA
    omega
theorem step_B : ∀ (l : List Nat), (∀ r ∈ l, r < 256) → ((val l / 4) &&& val (rep 51 l.length)) + (val l &&& val (rep 51 l.length)) = val (l.map stB)
  | [], _ => by simp [val, rep]
  | r :: l, h => by
    have ih := step_B l (fun r hr => h r (List.mem_cons_of_mem _ hr))
    have hr := h r List.mem_cons_self
    simp only [val, rep, List.length_cons, List.map_cons]
    have e : (r + 256 * val l) / 4 = (r / 4 + 64 * (val l % 4)) + 256 * (val l / 4) := by omega
    rw [e, and_byte _ _ _ _ (by omega) (by decide), and_byte _ _ _ _ hr (by decide), dB _ (by omega) r hr, ← ih]
    unfold stB
    omega
theorem val_low (l : List Nat) (h : ∀ r ∈ l, r < 256 ∧ r % 16 ≤ 4) : val l % 16 ≤ 4 := by
  cases l with
  | nil => simp [val]
  | cons r l => have := h r List.mem_cons_self; simp only [val]; omega
theorem step_C : ∀ (l : List Nat), (∀ r ∈ l, r < 256 ∧ r % 16 ≤ 4 ∧ r / 16 ≤ 4) → (val l / 16 + val l) &&& val (rep 15 l.length) = val (l.map stC)
  | [], _ => by simp [val, rep]
  | r :: l, h => by
    have ih := step_C l (fun r hr => h r (List.mem_cons_of_mem _ hr))
    have hr := h r List.mem_cons_self
    have hl := val_low l (fun r hr => ⟨(h r (List.mem_cons_of_mem _ hr)).1, (h r (List.mem_cons_of_mem _ hr)).2.1⟩)
    simp only [val, rep, List.length_cons, List.map_cons]
    have e : (r + 256 * val l) / 16 + (r + 256 * val l) = (16 * (val l % 16) + r / 16 + r) + 256 * (val l / 16 + val l) := by omega
    rw [e, and_byte _ _ _ _ (by omega) (by decide), ih]
    have e2 : (16 * (val l % 16) + r / 16 + r) &&& 15 = (r / 16 + r) &&& 15 := by
      rw [show 15 = 2 ^ 4 - 1 from rfl, Nat.and_two_pow_sub_one_eq_mod, Nat.and_two_pow_sub_one_eq_mod]; omega
    rw [e2]
    rfl

theorem cnt_add (x n m : Nat) : cnt x (n + m) = cnt x n + cnt (x / 2 ^ n) m := by
  induction m with
  | zero => rfl
  | succ m ih =>
    show cnt x (n + m) + (x.testBit (n + m)).toNat = cnt x n + (cnt (x / 2 ^ n) m + ((x / 2 ^ n).testBit m).toNat)
    rw [ih, Nat.testBit_div_two_pow, Nat.add_comm m n]; omega
theorem cnt_congr (x y n : Nat) (h : ∀ k, k < n → x.testBit k = y.testBit k) : cnt x n = cnt y n := by
  induction n with
  | zero => rfl
  | succ n ih => simp only [cnt]; rw [ih (fun k hk => h k (by omega)), h n (by omega)]
theorem cnt_mod (x n : Nat) : cnt (x % 2 ^ n) n = cnt x n :=
  cnt_congr _ _ _ fun k hk => by rw [Nat.testBit_mod_two_pow]; simp [hk]
theorem cnt_le (x n : Nat) : cnt x n ≤ n := by
  induction n with
  | zero => exact Nat.le_refl _
  | succ n ih => simp only [cnt]; cases x.testBit n <;> simp <;> omega
/-- The bytes of a word. -/
def bytes8 (x : Nat) : List Nat := [x % 256, x / 256 % 256, x / 65536 % 256, x / 16777216 % 256, x / 4294967296 % 256, x / 1099511627776 % 256, x / 281474976710656 % 256, x / 72057594037927936 % 256]
theorem val_bytes8 (x : Nat) (h : x < 18446744073709551616) : val (bytes8 x) = x := by
  simp only [val, bytes8]; omega
theorem bytes8_lt (x : Nat) : ∀ r ∈ bytes8 x, r < 256 := by
  intro r hr
  simp only [bytes8, List.mem_cons, List.not_mem_nil, or_false] at hr
  omega
def sum8 : List Nat → Nat
  | [] => 0
  | r :: l => r + sum8 l
theorem cnt_val : ∀ (l : List Nat), (∀ r ∈ l, r < 256) → cnt (val l) (8 * l.length) = sum8 (l.map (cnt · 8))
  | [], _ => rfl
  | r :: l, h => by
    have ih := cnt_val l (fun r hr => h r (List.mem_cons_of_mem _ hr))
    have hr := h r List.mem_cons_self
    simp only [List.length_cons, List.map_cons, sum8]
    rw [show 8 * (l.length + 1) = 8 + 8 * l.length by omega, cnt_add, ← cnt_mod (val (r :: l)) 8]
    have e1 : val (r :: l) % 2 ^ 8 = r := by simp only [val]; omega
    have e2 : val (r :: l) / 2 ^ 8 = val l := by simp only [val]; omega
    rw [e1, e2, ih]
theorem div_of {a r k y : Nat} (h : a = r + k * y) (hr : r < k) : a / k = y := by
  subst h; rw [Nat.add_mul_div_left _ _ (by omega), Nat.div_eq_of_lt hr]; omega
theorem mod_of {a r k y : Nat} (h : a = r + k * y) (hr : r < k) : a % k = r := by
  subst h; rw [Nat.add_mul_mod_self_left, Nat.mod_eq_of_lt hr]
theorem fold_id (p0 p1 p2 p3 p4 p5 p6 p7 : Nat) : (p0 + p1 + p2 + p3) + 256 * (p1 + p2 + p3 + p4) + 65536 * (p2 + p3 + p4 + p5) + 16777216 * (p3 + p4 + p5 + p6) + 4294967296 * ((p4 + p5 + p6 + p7) + 256 * ((p5 + p6 + p7) + 256 * ((p6 + p7) + 256 * p7))) + ((p4 + p5 + p6 + p7) + 256 * ((p5 + p6 + p7) + 256 * ((p6 + p7) + 256 * p7)))
    = (p0 + p1 + p2 + p3 + p4 + p5 + p6 + p7) + 128 * (2 * ((p1 + p2 + p3 + p4) + (p5 + p6 + p7) + 256 * (p2 + p3 + p4 + p5) + 65536 * (p3 + p4 + p5 + p6) + 16777216 * ((p4 + p5 + p6 + p7) + 256 * ((p5 + p6 + p7) + 256 * ((p6 + p7) + 256 * p7))) + 256 * ((p6 + p7) + 256 * p7))) := by
  omega
/-- What math/bits does at the end: all bytes together. -/
theorem fold8 (p0 p1 p2 p3 p4 p5 p6 p7 c d e f : Nat) (h0 : p0 ≤ 8) (h1 : p1 ≤ 8) (h2 : p2 ≤ 8) (h3 : p3 ≤ 8) (h4 : p4 ≤ 8) (h5 : p5 ≤ 8) (h6 : p6 ≤ 8) (h7 : p7 ≤ 8)
    (hc : c = p0 + 256 * (p1 + 256 * (p2 + 256 * (p3 + 256 * (p4 + 256 * (p5 + 256 * (p6 + 256 * p7)))))))
    (hd : d = c + c / 256) (he : e = d + d / 65536) (hf : f = e + e / 4294967296) : f % 128 = p0 + p1 + p2 + p3 + p4 + p5 + p6 + p7 := by
  have hr : p0 + p1 + p2 + p3 + p4 + p5 + p6 + p7 < 128 := by omega
  rw [div_of hc (by omega)] at hd
  have d1 : d = ((p0 + p1) + 256 * (p1 + p2)) + 65536 * ((p2 + p3) + 256 * ((p3 + p4) + 256 * ((p4 + p5) + 256 * ((p5 + p6) + 256 * ((p6 + p7) + 256 * p7))))) := by rw [hd, hc]; omega
  rw [div_of d1 (by omega)] at he
  have e1 : e = ((p0 + p1 + p2 + p3) + 256 * (p1 + p2 + p3 + p4) + 65536 * (p2 + p3 + p4 + p5) + 16777216 * (p3 + p4 + p5 + p6)) + 4294967296 * ((p4 + p5 + p6 + p7) + 256 * ((p5 + p6 + p7) + 256 * ((p6 + p7) + 256 * p7))) := by rw [he, d1]; omega
  rw [div_of e1 (by omega)] at hf
  have f1 := fold_id p0 p1 p2 p3 p4 p5 p6 p7
  rw [← e1, ← hf] at f1
  exact mod_of f1 hr
theorem fold8_lt (p0 p1 p2 p3 p4 p5 p6 p7 c d e f : Nat) (h7 : p7 ≤ 8) (h0 : p0 ≤ 8) (h1 : p1 ≤ 8) (h2 : p2 ≤ 8) (h3 : p3 ≤ 8) (h4 : p4 ≤ 8) (h5 : p5 ≤ 8) (h6 : p6 ≤ 8)
    (hc : c = p0 + 256 * (p1 + 256 * (p2 + 256 * (p3 + 256 * (p4 + 256 * (p5 + 256 * (p6 + 256 * p7)))))))
    (hd : d = c + c / 256) (he : e = d + d / 65536) (hf : f = e + e / 4294967296) : f < 9223372036854775808 := by
  have hcl : c ≤ 8 * 72340172838076673 := by omega
  have l1 := Nat.div_le_self c 256
  have l2 := Nat.div_le_self d 65536
  have l3 := Nat.div_le_self e 4294967296
  generalize c / 256 = q1 at *
  generalize d / 65536 = q2 at *
  generalize e / 4294967296 = q3 at *
  clear hc
  omega
end Go.Proofs.YtilfiadkhohfiaaGreatDoor
/- math/bits.OnesCount64, and package bits: Size. -/
namespace Go.Proofs.YtilfiadkhohfiaaGreatDoor
set_option linter.unusedSimpArgs false
set_option linter.unusedVariables false
open Go Go.RowKit
attribute [local go_sem] index_set0 index_set1 index_set2 index_set3

def onA (x : Nat) : Nat := ((x / 2) &&& 6148914691236517205) + (x &&& 6148914691236517205)
def onB (a : Nat) : Nat := ((a / 4) &&& 3689348814741910323) + (a &&& 3689348814741910323)
def onC (b : Nat) : Nat := (b / 16 + b) &&& 1085102592571150095
def onD (c : Nat) : Nat := c + c / 256
def onE (d : Nat) : Nat := d + d / 65536
def onF (e : Nat) : Nat := e + e / 4294967296

theorem len8 (x : Nat) : (bytes8 x).length = 8 := rfl
theorem onA_val (x : Nat) (h : x < 18446744073709551616) : onA x = val ((bytes8 x).map stA) := by
  have := step_A (bytes8 x) (bytes8_lt x)
  rw [val_bytes8 x h, len8] at this
  exact this
theorem mapA_lt (x : Nat) : ∀ r ∈ (bytes8 x).map stA, r < 256 := by
  intro r hr
  obtain ⟨q, hq, rfl⟩ := List.mem_map.1 hr
  exact lA q (bytes8_lt x q hq)
theorem onB_val (x : Nat) (h : x < 18446744073709551616) : onB (onA x) = val (((bytes8 x).map stA).map stB) := by
  have := step_B ((bytes8 x).map stA) (mapA_lt x)
  rw [← onA_val x h, List.length_map, len8] at this
  exact this
theorem mapB_ok (x : Nat) : ∀ r ∈ ((bytes8 x).map stA).map stB, r < 256 ∧ r % 16 ≤ 4 ∧ r / 16 ≤ 4 := by
  intro r hr
  obtain ⟨q, hq, rfl⟩ := List.mem_map.1 hr
  obtain ⟨p, hp, rfl⟩ := List.mem_map.1 hq
  have := byte_ok p (bytes8_lt x p hp)
  omega
theorem onC_val (x : Nat) (h : x < 18446744073709551616) : onC (onB (onA x)) = val ((bytes8 x).map (cnt · 8)) := by
  have := step_C (((bytes8 x).map stA).map stB) (mapB_ok x)
  rw [← onB_val x h, List.length_map, List.length_map, len8, List.map_map, List.map_map] at this
  refine Eq.trans this ?_
  congr 1
  exact List.map_congr_left fun r hr => (byte_ok r (bytes8_lt x r hr)).2.2
theorem onF_spec (x : Nat) (h : x < 18446744073709551616) : onF (onE (onD (onC (onB (onA x))))) % 128 = cnt x 64 ∧ onF (onE (onD (onC (onB (onA x))))) < 9223372036854775808 := by
  have hv := onC_val x h
  have hs := cnt_val (bytes8 x) (bytes8_lt x)
  rw [val_bytes8 x h, len8] at hs
  generalize onC (onB (onA x)) = c at *
  rw [show (8 * 8 : Nat) = 64 from rfl] at hs
  rw [hs]
  unfold bytes8 at *
  simp only [List.map_cons, List.map_nil, val, sum8, Nat.mul_zero, Nat.add_zero] at hv ⊢
  have l0 := cnt_le (x % 256) 8; have l1 := cnt_le (x / 256 % 256) 8; have l2 := cnt_le (x / 65536 % 256) 8; have l3 := cnt_le (x / 16777216 % 256) 8
  have l4 := cnt_le (x / 4294967296 % 256) 8; have l5 := cnt_le (x / 1099511627776 % 256) 8; have l6 := cnt_le (x / 281474976710656 % 256) 8; have l7 := cnt_le (x / 72057594037927936 % 256) 8
  generalize cnt (x % 256) 8 = p0 at *; generalize cnt (x / 256 % 256) 8 = p1 at *; generalize cnt (x / 65536 % 256) 8 = p2 at *; generalize cnt (x / 16777216 % 256) 8 = p3 at *
  generalize cnt (x / 4294967296 % 256) 8 = p4 at *; generalize cnt (x / 1099511627776 % 256) 8 = p5 at *; generalize cnt (x / 281474976710656 % 256) 8 = p6 at *; generalize cnt (x / 72057594037927936 % 256) 8 = p7 at *
  clear hs h
  refine ⟨?_, fold8_lt p0 p1 p2 p3 p4 p5 p6 p7 c _ _ _ l7 l0 l1 l2 l3 l4 l5 l6 hv rfl rfl rfl⟩
  exact (fold8 p0 p1 p2 p3 p4 p5 p6 p7 c (onD c) (onE (onD c)) (onF (onE (onD c))) l0 l1 l2 l3 l4 l5 l6 l7 hv rfl rfl rfl).trans (by omega)

theorem cast_div (a k : Nat) : ((a : Int) / (k : Int)) = ((a / k : Nat) : Int) := (Int.natCast_ediv a k).symm
theorem wrapA (x : Nat) (h : x < 18446744073709551616) : IntKind.u64.wrap (bits .and .u64 ((x : Int) / 2) 6148914691236517205 + bits .and .u64 x 6148914691236517205) = (onA x : Int) := by
  have h1 := bits_and_u64_nat (x / 2) 6148914691236517205 (by omega) (by decide)
  have h2 := bits_and_u64_nat x 6148914691236517205 h (by decide)
  rw [show ((x : Int) / 2) = ((x / 2 : Nat) : Int) by omega]
  rw [show ((6148914691236517205 : Nat) : Int) = 6148914691236517205 from rfl] at h1 h2
  rw [h1, h2, ← Int.natCast_add]
  have b1 : x / 2 &&& 6148914691236517205 ≤ 6148914691236517205 := Nat.and_le_right
  have b2 : x &&& 6148914691236517205 ≤ 6148914691236517205 := Nat.and_le_right
  exact IntWalk.u64_in _ (by omega)
theorem wrapB (x : Nat) (h : x < 18446744073709551616) : IntKind.u64.wrap (bits .and .u64 ((x : Int) / 4) 3689348814741910323 + bits .and .u64 x 3689348814741910323) = (onB x : Int) := by
  have h1 := bits_and_u64_nat (x / 4) 3689348814741910323 (by omega) (by decide)
  have h2 := bits_and_u64_nat x 3689348814741910323 h (by decide)
  rw [show ((x : Int) / 4) = ((x / 4 : Nat) : Int) by omega]
  rw [show ((3689348814741910323 : Nat) : Int) = 3689348814741910323 from rfl] at h1 h2
  rw [h1, h2, ← Int.natCast_add]
  have b1 : x / 4 &&& 3689348814741910323 ≤ 3689348814741910323 := Nat.and_le_right
  have b2 : x &&& 3689348814741910323 ≤ 3689348814741910323 := Nat.and_le_right
  exact IntWalk.u64_in _ (by omega)
theorem wrapC (x : Nat) (h : x ≤ 7378697629483820646) : bits .and .u64 (IntKind.u64.wrap ((x : Int) / 16 + x)) 1085102592571150095 = (onC x : Int) := by
  have h1 := bits_and_u64_nat (x / 16 + x) 1085102592571150095 (by omega) (by decide)
  rw [show ((1085102592571150095 : Nat) : Int) = 1085102592571150095 from rfl] at h1
  rw [IntWalk.u64_in ((x : Int) / 16 + x) (by omega), show ((x : Int) / 16 + x) = ((x / 16 + x : Nat) : Int) by omega, h1]
  rfl
theorem onA_lt (x : Nat) : onA x < 18446744073709551616 := by
  have b1 : x / 2 &&& 6148914691236517205 ≤ 6148914691236517205 := Nat.and_le_right
  have b2 : x &&& 6148914691236517205 ≤ 6148914691236517205 := Nat.and_le_right
  unfold onA; omega
theorem onB_le (x : Nat) : onB x ≤ 7378697629483820646 := by
  have b1 : x / 4 &&& 3689348814741910323 ≤ 3689348814741910323 := Nat.and_le_right
  have b2 : x &&& 3689348814741910323 ≤ 3689348814741910323 := Nat.and_le_right
  unfold onB; omega
theorem onC_le (x : Nat) : onC x ≤ 1085102592571150095 := Nat.and_le_right
theorem wrapD (x : Nat) (h : x ≤ 8680820740569200760) : IntKind.u64.wrap ((x : Int) + (x : Int) / 256) = (onD x : Int) := by
  have e : ((x : Int) + (x : Int) / 256) = (onD x : Int) := by unfold onD; omega
  have := Nat.div_le_self x 256
  rw [e]
  exact IntWalk.u64_in _ (by unfold onD; omega)
theorem wrapE (x : Nat) (h : x ≤ 8680820740569200760) : IntKind.u64.wrap ((x : Int) + (x : Int) / 65536) = (onE x : Int) := by
  have e : ((x : Int) + (x : Int) / 65536) = (onE x : Int) := by unfold onE; omega
  have := Nat.div_le_self x 65536
  rw [e]
  exact IntWalk.u64_in _ (by unfold onE; omega)
theorem wrapF (x : Nat) (h : x ≤ 8680820740569200760) : IntKind.u64.wrap ((x : Int) + (x : Int) / 4294967296) = (onF x : Int) := by
  have e : ((x : Int) + (x : Int) / 4294967296) = (onF x : Int) := by unfold onF; omega
  have := Nat.div_le_self x 4294967296
  rw [e]
  exact IntWalk.u64_in _ (by unfold onF; omega)
theorem final7 (f : Nat) (h : f < 9223372036854775808) : bits .and .i64 (f : Int) 127 = ((f % 128 : Nat) : Int) := by
  have hx : f &&& 127 = f % 128 := Nat.and_two_pow_sub_one_eq_mod f 7
  have h1 : (BitVec.ofInt 64 (f : Int)).toNat = f := by
    rw [BitVec.ofInt_natCast, BitVec.toNat_ofNat]; exact Nat.mod_eq_of_lt (by omega)
  have h2 : (BitVec.ofInt 64 (127 : Int)).toNat = 127 := by decide
  show IntKind.i64.wrap ((BitVec.ofInt 64 (f : Int) &&& BitVec.ofInt 64 (127 : Int)).toNat : Int) = _
  rw [BitVec.toNat_and, h1, h2, hx]
  exact IntWalk.i64_in _ (by omega)
theorem ret_int {k : IntKind} {a b : Int} (h : a = b) : Ending.returned (.int k a) = .returned (.int k b) := by rw [h]

/-! ### Size -/
/-- How many numbers a set has. -/
def card (N : Nat) : Nat := cnt N 256
theorem card_words (N : Nat) : card N = cnt (word N 0) 64 + cnt (word N 1) 64 + cnt (word N 2) 64 + cnt (word N 3) 64 := by
  have h : ∀ i, cnt (word N i) 64 = cnt (N / 2 ^ (64 * i)) 64 := fun i => cnt_mod (N / 2 ^ (64 * i)) 64
  rw [h, h, h, h]
  unfold card
  rw [show 256 = 64 + (64 + (64 + 64)) from rfl, cnt_add, cnt_add, cnt_add, Nat.div_div_eq_div_mul, Nat.div_div_eq_div_mul, ← Nat.pow_add, ← Nat.pow_add]
  simp only [Nat.mul_zero, Nat.pow_zero, Nat.div_one, Nat.mul_one, Nat.reduceAdd, Nat.reduceMul]
  omega
end Go.Proofs.YtilfiadkhohfiaaGreatDoor
/- math/bits.TrailingZeros64, and package bits: Next. -/
namespace Go.Proofs.YtilfiadkhohfiaaGreatDoor
set_option linter.unusedSimpArgs false
set_option linter.unusedVariables false
open Go Go.RowKit

theorem tz64_any (x : Nat) (hx : x < 18446744073709551616) (w : World) (hg : Gl w) :
    Calls Tryz.prog 234 #[.int .u64 x] w fun e w' => e = .returned (.int .i64 (Lib.ctz 64 x)) ∧ w' = w :=
  Any7.bits_TrailingZeros64 Tryz.lxLays7n29 x hx w (fun _ => hg.tz)

/-- The lowest bit of a number. -/
theorem ctz_spec (x : Nat) (h0 : x ≠ 0) (h : x < 2 ^ 64) : Lib.ctz 64 x < 64 ∧ x.testBit (Lib.ctz 64 x) = true ∧ ∀ t, t < Lib.ctz 64 x → x.testBit t = false := by
  obtain ⟨m, hm, hl⟩ := Lib.ctzFrom_spec 64 x (by omega) h
  have e : Lib.ctz 64 x = Lib.ctzFrom 64 x := by unfold Lib.ctz; rw [if_neg h0]
  rw [e]
  generalize Lib.ctzFrom 64 x = c at *
  refine ⟨hl, ?_, fun t ht => ?_⟩
  · rw [hm, Nat.mul_comm, Nat.testBit_mul_two_pow]
    simp
  · rw [hm, Nat.mul_comm, Nat.testBit_mul_two_pow]
    simp; omega

/-! ### The next number of a set -/
def nx (N : Nat) : Nat → Nat → Option Nat
  | 0, _ => none
  | f + 1, k => if N.testBit k then some k else nx N f (k + 1)
theorem nx_some {N : Nat} : ∀ {f k j : Nat}, k ≤ j → j < k + f → N.testBit j = true → (∀ i, k ≤ i → i < j → N.testBit i = false) → nx N f k = some j
  | 0, k, j, h1, h2, _, _ => by omega
  | f + 1, k, j, h1, h2, hj, hall => by
    unfold nx
    by_cases hk : k = j
    · subst hk; rw [if_pos hj]
    · rw [if_neg (by rw [hall k (Nat.le_refl _) (by omega)]; decide)]
      exact nx_some (by omega) (by omega) hj fun i h1 h2 => hall i (by omega) h2
theorem nx_none {N : Nat} : ∀ {f k : Nat}, (∀ i, k ≤ i → i < k + f → N.testBit i = false) → nx N f k = none
  | 0, k, _ => rfl
  | f + 1, k, hall => by
    unfold nx
    rw [if_neg (by rw [hall k (Nat.le_refl _) (by omega)]; decide)]
    exact nx_none fun i h1 h2 => hall i (by omega) (by omega)
theorem of_nx_some {N : Nat} : ∀ {f k j : Nat}, nx N f k = some j → k ≤ j ∧ j < k + f ∧ N.testBit j = true ∧ ∀ i, k ≤ i → i < j → N.testBit i = false
  | 0, k, j, h => by cases h
  | f + 1, k, j, h => by
    unfold nx at h
    split at h
    · rename_i hk; obtain rfl := Option.some.inj h; exact ⟨Nat.le_refl _, by omega, hk, fun i h1 h2 => by omega⟩
    · rename_i hk
      obtain ⟨h1, h2, h3, h4⟩ := of_nx_some h
      refine ⟨by omega, by omega, h3, fun i h5 h6 => ?_⟩
      by_cases hi : i = k
      · subst hi; simpa using hk
      · exact h4 i (by omega) h6
theorem of_nx_none {N : Nat} : ∀ {f k : Nat}, nx N f k = none → ∀ i, k ≤ i → i < k + f → N.testBit i = false
  | 0, k, _, i, h1, h2 => by omega
  | f + 1, k, h, i, h1, h2 => by
    unfold nx at h
    split at h
    · cases h
    · rename_i hk
      by_cases hi : i = k
      · subst hi; simpa using hk
      · exact of_nx_none h i (by omega) (by omega)
/-- The least number of N above n. -/
def nextO (N : Nat) (n : Int) : Option Nat := if 255 ≤ n then none else nx N (256 - (max n (-1) + 1).toNat) (max n (-1) + 1).toNat
/-- What the loop knows of its word: the bits of word i from k on. -/
def Cut (N k i v : Nat) : Prop := v < 18446744073709551616 ∧ (∀ t, t < 64 → v.testBit t = (decide (k ≤ 64 * i + t) && N.testBit (64 * i + t))) ∧ ∀ m, k ≤ m → m < 64 * i → N.testBit m = false
theorem Cut.start (N k : Nat) (hk : k < 256) : Cut N k (k / 64) (word N (k / 64) / 2 ^ (k % 64) * 2 ^ (k % 64)) := by
  refine ⟨Nat.lt_of_le_of_lt (Nat.div_mul_le_self _ _) (word_lt _ _), fun t ht => ?_, fun m h1 h2 => by omega⟩
  rw [Nat.testBit_mul_two_pow, Nat.testBit_div_two_pow, testBit_word]
  by_cases h : k % 64 ≤ t
  · rw [show t - k % 64 + k % 64 = t by omega]
    simp [h, ht, show k ≤ 64 * (k / 64) + t by omega]
  · simp [h, show ¬ k ≤ 64 * (k / 64) + t by omega]
theorem Cut.step {N k i : Nat} (h : Cut N k i 0) (hk : k / 64 ≤ i) : Cut N k (i + 1) (word N (i + 1)) := by
  refine ⟨word_lt _ _, fun t ht => ?_, fun m h1 h2 => ?_⟩
  · rw [testBit_word]; simp [ht, show k ≤ 64 * (i + 1) + t by omega]
  · by_cases hm : m < 64 * i
    · exact h.2.2 m h1 hm
    · have := h.2.1 (m - 64 * i) (by omega)
      rw [show 64 * i + (m - 64 * i) = m by omega] at this
      simpa [h1] using this.symm
theorem Cut.done {N k i v : Nat} (h : Cut N k i v) (hk : k / 64 ≤ i) (hi : i < 4) (hv : v ≠ 0) (hk4 : k < 256) : nx N (256 - k) k = some (64 * i + Lib.ctz 64 v) := by
  obtain ⟨h1, h2, h3⟩ := ctz_spec v hv (by have := h.1; omega)
  have hb := h.2.1 _ h1
  rw [h2] at hb
  have hb : k ≤ 64 * i + Lib.ctz 64 v ∧ N.testBit (64 * i + Lib.ctz 64 v) = true := by simpa using hb.symm
  refine nx_some hb.1 (by omega) hb.2 fun m h4 h5 => ?_
  by_cases hm : m < 64 * i
  · exact h.2.2 m h4 hm
  · have h6 := h.2.1 (m - 64 * i) (by omega)
    rw [h3 _ (by omega), show 64 * i + (m - 64 * i) = m by omega] at h6
    simpa [h4] using h6.symm
theorem Cut.none {N k : Nat} (h : Cut N k 3 0) (hk4 : k < 256) : nx N (256 - k) k = none :=
  nx_none fun m h1 h2 => by
    by_cases hm : m < 64 * 3
    · exact h.2.2 m h1 hm
    · have h6 := h.2.1 (m - 64 * 3) (by omega)
      rw [show 64 * 3 + (m - 64 * 3) = m by omega] at h6
      simpa [h1] using h6.symm
end Go.Proofs.YtilfiadkhohfiaaGreatDoor
/- Package bits: Next. -/
namespace Go.Proofs.YtilfiadkhohfiaaGreatDoor
set_option linter.unusedSimpArgs false
set_option linter.unusedVariables false
open Go Go.RowKit

theorem next_beyond (N : Nat) (n : Int) (w : World) (h : 255 ≤ n) :
    Calls Tryz.prog 196 #[setV N, .int .i64 n] w fun e w' => e = .returned (.tuple #[.int .i64 0, .bool false]) ∧ Below w.heap.size w w' := by
  go_enter Tryz.func196, Tryz.ntmps196
  simp only [setV]
  go_wp2
  go_ret2
  exact ⟨rfl, (Below.refl _ _).alloc (Nat.le_refl _) _⟩
set_option maxRecDepth 100000 in
set_option maxHeartbeats 400000 in
theorem next_within (N k : Nat) (n : Int) (w : World) (hg : Gl w) (h : n < 255) (hk : max n (-1) + 1 = (k : Int)) (hk4 : k < 256) :
    Calls Tryz.prog 196 #[setV N, .int .i64 n] w fun e w' => e = .returned (.tuple #[.int .i64 ((nx N (256 - k) k).getD 0 : Nat), .bool (nx N (256 - k) k).isSome]) ∧ Below w.heap.size w w' := by
  have hs := setL_get N (k/64) (by omega)
  have k0 : IntKind.i64.wrap (max n (-1) + 1) = (k : Int) := by rw [hk]; exact IntWalk.i64_in _ (by omega)
  have hdv : decide (255 ≤ n) = false := by simp; omega
  obtain ⟨v, hv⟩ : ∃ v, v = word N (k / 64) / 2 ^ (k % 64) * 2 ^ (k % 64) := ⟨_, rfl⟩
  have hC := Cut.start N k hk4
  rw [← hv] at hC
  have k1 : IntKind.u64.wrap ((word N (k / 64) : Int) / 2 ^ (k % 64) * 2 ^ (k % 64)) = (v : Int) := by
    have e : ((word N (k / 64) : Int) / 2 ^ (k % 64) * 2 ^ (k % 64)) = ((word N (k / 64) / 2 ^ (k % 64) * 2 ^ (k % 64) : Nat) : Int) := by
      rw [Int.natCast_mul, Int.natCast_ediv]; simp
    rw [e, ← hv]
    have := hC.1
    exact IntWalk.u64_in _ (by omega)
  have HK := Lib.hid hk
  have HC := Lib.hid hC
  have K1 := Lib.hid k1
  clear hk hv hC k1
  go_enter Tryz.func196, Tryz.ntmps196
  simp only [setV]
  go_wp2
  obtain ⟨W, hW⟩ : ∃ W, W = w.alloc (.cells #[.int .u64 ↑(word N 0), .int .u64 ↑(word N 1), .int .u64 ↑(word N 2), .int .u64 ↑(word N 3)] 24) := ⟨_, rfl⟩
  rw [← hW]
  have hb : Below w.heap.size w W := by rw [hW]; exact (Below.refl _ w).alloc (Nat.le_refl _) _
  have HG := Lib.hid (hg.below hb)
  have HB := Lib.hid hb
  have HN : Hid (∀ j, j < 4 → W.cell? ⟨w.heap.size, j, none⟩ = some (.int .u64 (word N j))) := fun j hj => by
    have := setL_get N j hj
    rw [hW]; simp [go_sem, this]
  clear hW hb hs k0
  go_loop [7, 8] (fun si sv => ∃ i v : Nat, k / 64 ≤ i ∧ i < 4 ∧ si = .int .i64 i ∧ sv = .int .u64 v ∧ Cut N k i v) (fun si _ => (4 - intOf si).toNat)
  case atStart => exact ⟨k / 64, v, Nat.le_refl _, by omega, by simp, by rw [K1.out], HC.out⟩
  case round =>
    obtain ⟨i, v, hi0, hi, rfl, rfl, hC⟩ := hrel
    have hvl := hC.1
    have HC := Lib.hid hC
    clear hC
    by_cases hv : v = 0
    · subst hv
      by_cases hi3 : i = 3
      · subst hi3
        have HR := Lib.hid (Cut.none HC.out hk4)
        go_wp2
        go_ret2
        exact ⟨by rw [HR.out]; rfl, HB.out⟩
      · have hcell := HN.out (i + 1) (by omega)
        have ht : ((i : Int) + 1 == 4) = false := by simp; omega
        go_wp2
        refine ⟨⟨i + 1, word N (i + 1), by omega, by omega, rfl, rfl, HC.out.step hi0⟩, by simp [intOf]; omega⟩
    · have HR := Lib.hid (Cut.done HC.out hi0 hi hv hk4)
      have hl := (ctz_spec v hv (by omega)).1
      have ht : ((v : Int) == 0) = false := by simp; omega
      go_wp2_with (first | (go_at_call 234; refine (tz64_any _ hvl _ HG.out).mono ?_; rintro e w' ⟨rfl, rfl⟩))
      go_ret2
      refine ⟨?_, HB.out⟩
      rw [HR.out]
      simp; omega
theorem next_any (N : Nat) (n : Int) (w : World) (hg : Gl w) :
    Calls Tryz.prog 196 #[setV N, .int .i64 n] w fun e w' => e = .returned (.tuple #[.int .i64 ((nextO N n).getD 0 : Nat), .bool (nextO N n).isSome]) ∧ Below w.heap.size w w' := by
  unfold nextO
  by_cases h : 255 ≤ n
  · rw [if_pos h]; exact next_beyond N n w h
  · rw [if_neg h]
    have hk : max n (-1) + 1 = ((max n (-1) + 1).toNat : Int) := by omega
    exact next_within N _ n w hg (by omega) hk (by omega)
theorem next_some {N j : Nat} {n : Int} (h : nextO N n = some j) (w : World) (hg : Gl w) :
    Calls Tryz.prog 196 #[setV N, .int .i64 n] w fun e w' => e = .returned (.tuple #[.int .i64 j, .bool true]) ∧ Below w.heap.size w w' := by
  have := next_any N n w hg
  rw [h] at this
  exact this
theorem next_none {N : Nat} {n : Int} (h : nextO N n = none) (w : World) (hg : Gl w) :
    Calls Tryz.prog 196 #[setV N, .int .i64 n] w fun e w' => e = .returned (.tuple #[.int .i64 0, .bool false]) ∧ Below w.heap.size w w' := by
  have := next_any N n w hg
  rw [h] at this
  exact this
theorem of_next_some {N j : Nat} {n : Int} (h : nextO N n = some j) : n < j ∧ j < 256 ∧ N.testBit j = true ∧ ∀ i : Nat, n < i → i < j → N.testBit i = false := by
  unfold nextO at h
  split at h
  · cases h
  · obtain ⟨h1, h2, h3, h4⟩ := of_nx_some h
    exact ⟨by omega, by omega, h3, fun i h5 h6 => h4 i (by omega) h6⟩
theorem of_next_none {N : Nat} {n : Int} (h : nextO N n = none) : ∀ i : Nat, n < i → i < 256 → N.testBit i = false := by
  unfold nextO at h
  split at h
  · intro i h1 h2; omega
  · intro i h1 h2; exact of_nx_none h i (by omega) (by omega)
theorem next_eq_some {N j : Nat} {n : Int} (h1 : n < j) (h2 : j < 256) (h3 : N.testBit j = true) (h4 : ∀ i : Nat, n < i → i < j → N.testBit i = false) : nextO N n = some j := by
  unfold nextO
  rw [if_neg (by omega)]
  exact nx_some (by omega) (by omega) h3 fun i h5 h6 => h4 i (by omega) h6
theorem next_eq_none {N : Nat} {n : Int} (h : ∀ i : Nat, n < i → i < 256 → N.testBit i = false) : nextO N n = none := by
  unfold nextO
  split
  · rfl
  · exact nx_none fun i h5 h6 => h i (by omega) (by omega)
end Go.Proofs.YtilfiadkhohfiaaGreatDoor
/- Package finds: ranges of numbers. -/
namespace Go.Proofs.YtilfiadkhohfiaaGreatDoor
set_option linter.unusedSimpArgs false
set_option linter.unusedVariables false
open Go Go.RowKit

/-- A number from 0 to most. -/
def upB (n m : Int) : Bool := decide (0 ≤ n) && decide (n ≤ m)
theorem isUpTo_any (n m : Int) (w : World) :
    Calls Tryz.prog 88 #[.int .i64 n, .int .i64 m] w fun e w' => e = .returned (.bool (upB n m)) ∧ w = w' := by
  by_cases h : 0 ≤ n
  · go_enter Tryz.func88, Tryz.ntmps88
    go_wp2
    go_ret
    exact ⟨by simp [upB, h], rfl⟩
  · go_enter Tryz.func88, Tryz.ntmps88
    go_wp2
    go_ret
    exact ⟨by simp [upB]; omega, rfl⟩
theorem isNo_any (n : Int) (w : World) :
    Calls Tryz.prog 84 #[.int .i64 n] w fun e w' => e = .returned (.bool (upB n 4095)) ∧ w = w' := by
  go_enter Tryz.func84, Tryz.ntmps84
  go_wp2_with (first | (go_at_call 88; refine (isUpTo_any _ _ _).mono ?_; rintro e w' ⟨rfl, rfl⟩))
  go_ret
  exact ⟨by simp, rfl⟩
theorem isDay_any (n : Int) (w : World) :
    Calls Tryz.prog 90 #[.int .i64 n] w fun e w' => e = .returned (.bool (upB n 1048576)) ∧ w = w' := by
  go_enter Tryz.func90, Tryz.ntmps90
  go_wp2_with (first | (go_at_call 88; refine (isUpTo_any _ _ _).mono ?_; rintro e w' ⟨rfl, rfl⟩))
  go_ret
  exact ⟨by simp, rfl⟩
/-- The sides that finds of an element can have. -/
def sideB (el s : Int) : Bool := if el < 10 then s == 0 else s == 1 || s == 2 || s == 3
theorem isSide_any (el s : Int) (w : World) :
    Calls Tryz.prog 155 #[.int .i64 el, .int .i64 s] w fun e w' => e = .returned (.bool (sideB el s)) ∧ w = w' := by
  unfold sideB
  by_cases h : el < 10
  · rw [if_pos h]
    go_enter Tryz.func155, Tryz.ntmps155
    go_wp2
    go_ret
    exact ⟨by simp, rfl⟩
  · rw [if_neg h]
    by_cases h1 : s = 1
    · subst h1
      go_enter Tryz.func155, Tryz.ntmps155
      go_wp2
      go_ret
      exact ⟨by simp, rfl⟩
    · by_cases h2 : s = 2
      · subst h2
        go_enter Tryz.func155, Tryz.ntmps155
        go_wp2
        go_ret
        exact ⟨by simp, rfl⟩
      · go_enter Tryz.func155, Tryz.ntmps155
        go_wp2
        go_ret
        exact ⟨by simp [h1, h2], rfl⟩
/-- An age as a value. -/
def spanV (lo hi : Int) : Value := .agg #[.int .i64 lo, .int .i64 hi]
/-- A measurement as a value. -/
def meaV (k v e : Int) : Value := .agg #[.int .i64 k, .int .i64 v, .int .i64 e]
def ageB (lo hi : Int) : Bool := decide (0 ≤ lo) && decide (lo ≤ hi) && decide (hi ≤ 120)
def meaB (k v e : Int) : Bool := upB k 15 && upB v 100000 && upB e 1000
end Go.Proofs.YtilfiadkhohfiaaGreatDoor
/- Package finds: measurements and ages. -/
namespace Go.Proofs.YtilfiadkhohfiaaGreatDoor
set_option linter.unusedSimpArgs false
set_option linter.unusedVariables false
open Go Go.RowKit

theorem isMeasure_any (k v e : Int) (w : World) :
    Calls Tryz.prog 157 #[meaV k v e] w fun en w' => en = .returned (.bool (meaB k v e)) ∧ Below w.heap.size w w' := by
  obtain ⟨b1, h1⟩ : ∃ b, b = upB k 15 := ⟨_, rfl⟩
  obtain ⟨b2, h2⟩ : ∃ b, b = upB v 100000 := ⟨_, rfl⟩
  obtain ⟨b3, h3⟩ : ∃ b, b = upB e 1000 := ⟨_, rfl⟩
  have C1 : Hid (∀ w, Calls Tryz.prog 88 #[.int .i64 k, .int .i64 15] w fun e w' => e = .returned (.bool b1) ∧ w = w') := Lib.hid fun w => by rw [h1]; exact isUpTo_any k 15 w
  have C2 : Hid (∀ w, Calls Tryz.prog 88 #[.int .i64 v, .int .i64 100000] w fun e w' => e = .returned (.bool b2) ∧ w = w') := Lib.hid fun w => by rw [h2]; exact isUpTo_any v 100000 w
  have C3 : Hid (∀ w, Calls Tryz.prog 88 #[.int .i64 e, .int .i64 1000] w fun e w' => e = .returned (.bool b3) ∧ w = w') := Lib.hid fun w => by rw [h3]; exact isUpTo_any e 1000 w
  unfold meaB
  rw [← h1, ← h2, ← h3]
  clear h1 h2 h3
  cases b1 with
  | false =>
    go_enter Tryz.func157, Tryz.ntmps157
    simp only [meaV]
    go_wp2_with (first | (go_at_call 88; refine (C1.out _).mono ?_; rintro e w' ⟨rfl, rfl⟩; clear C1))
    go_ret
    exact ⟨by simp, (Below.refl _ _).alloc (Nat.le_refl _) _⟩
  | true =>
    cases b2 with
    | false =>
      go_enter Tryz.func157, Tryz.ntmps157
      simp only [meaV]
      go_wp2_with (first | (go_at_call 88; refine (C1.out _).mono ?_; rintro e w' ⟨rfl, rfl⟩; clear C1) | (go_at_call 88; refine (C2.out _).mono ?_; rintro e w' ⟨rfl, rfl⟩; clear C2))
      go_ret
      exact ⟨by simp, (Below.refl _ _).alloc (Nat.le_refl _) _⟩
    | true =>
      go_enter Tryz.func157, Tryz.ntmps157
      simp only [meaV]
      go_wp2_with (first | (go_at_call 88; refine (C1.out _).mono ?_; rintro e w' ⟨rfl, rfl⟩; clear C1) | (go_at_call 88; refine (C2.out _).mono ?_; rintro e w' ⟨rfl, rfl⟩; clear C2) | (go_at_call 88; refine (C3.out _).mono ?_; rintro e w' ⟨rfl, rfl⟩; clear C3))
      go_ret
      exact ⟨by simp, (Below.refl _ _).alloc (Nat.le_refl _) _⟩
theorem isAge_any (lo hi : Int) (w : World) :
    Calls Tryz.prog 87 #[spanV lo hi] w fun en w' => en = .returned (.bool (ageB lo hi)) ∧ Below w.heap.size w w' := by
  by_cases h1 : 0 ≤ lo
  · by_cases h2 : lo ≤ hi
    · go_enter Tryz.func87, Tryz.ntmps87
      simp only [spanV]
      go_wp2
      go_ret
      exact ⟨by simp [ageB, h1, h2], (Below.refl _ _).alloc (Nat.le_refl _) _⟩
    · go_enter Tryz.func87, Tryz.ntmps87
      simp only [spanV]
      go_wp2
      go_ret
      exact ⟨by simp [ageB]; omega, (Below.refl _ _).alloc (Nat.le_refl _) _⟩
  · go_enter Tryz.func87, Tryz.ntmps87
    simp only [spanV]
    go_wp2
    go_ret
    exact ⟨by simp [ageB]; omega, (Below.refl _ _).alloc (Nat.le_refl _) _⟩
end Go.Proofs.YtilfiadkhohfiaaGreatDoor
/- The specification of layer 2: ranges, sides, ages, measurements. -/
namespace Go.Proofs.YtilfiadkhohfiaaGreatDoor
set_option linter.unusedSimpArgs false
set_option linter.unusedVariables false
open Go Go.RowKit

theorem rwithin_any (n m : Int) (w : World) :
    Calls Tryz.prog 94 #[.int .i64 n, .int .i64 m] w fun e w' => e = .returned (.bool (upB n m)) ∧ w = w' := by
  by_cases h : 0 ≤ n
  · go_enter Tryz.func94, Tryz.ntmps94
    go_wp2
    go_ret
    exact ⟨by simp [upB, h], rfl⟩
  · go_enter Tryz.func94, Tryz.ntmps94
    go_wp2
    go_ret
    exact ⟨by simp [upB]; omega, rfl⟩
theorem rside_any (el s : Int) (w : World) :
    Calls Tryz.prog 160 #[.int .i64 el, .int .i64 s] w fun e w' => e = .returned (.bool (sideB el s)) ∧ w = w' := by
  unfold sideB
  by_cases h : el < 10
  · rw [if_pos h]
    go_enter Tryz.func160, Tryz.ntmps160
    go_wp2
    go_ret
    exact ⟨by simp, rfl⟩
  · rw [if_neg h]
    by_cases h1 : 1 ≤ s
    · go_enter Tryz.func160, Tryz.ntmps160
      go_wp2
      go_ret
      exact ⟨by simp; rw [Bool.eq_iff_iff]; simp; omega, rfl⟩
    · go_enter Tryz.func160, Tryz.ntmps160
      go_wp2
      go_ret
      exact ⟨by simp; omega, rfl⟩
theorem rage_any (lo hi : Int) (w : World) :
    Calls Tryz.prog 96 #[spanV lo hi] w fun en w' => en = .returned (.bool (ageB lo hi)) ∧ Below w.heap.size w w' := by
  by_cases h1 : 0 ≤ lo
  · by_cases h2 : lo ≤ hi
    · go_enter Tryz.func96, Tryz.ntmps96
      simp only [spanV]
      go_wp2
      go_ret
      exact ⟨by simp [ageB, h1, h2], (Below.refl _ _).alloc (Nat.le_refl _) _⟩
    · go_enter Tryz.func96, Tryz.ntmps96
      simp only [spanV]
      go_wp2
      go_ret
      exact ⟨by simp [ageB]; omega, (Below.refl _ _).alloc (Nat.le_refl _) _⟩
  · go_enter Tryz.func96, Tryz.ntmps96
    simp only [spanV]
    go_wp2
    go_ret
    exact ⟨by simp [ageB]; omega, (Below.refl _ _).alloc (Nat.le_refl _) _⟩
theorem rmeasure_any (k v e : Int) (w : World) :
    Calls Tryz.prog 95 #[meaV k v e] w fun en w' => en = .returned (.bool (meaB k v e)) ∧ Below w.heap.size w w' := by
  obtain ⟨b1, h1⟩ : ∃ b, b = upB k 15 := ⟨_, rfl⟩
  obtain ⟨b2, h2⟩ : ∃ b, b = upB v 100000 := ⟨_, rfl⟩
  obtain ⟨b3, h3⟩ : ∃ b, b = upB e 1000 := ⟨_, rfl⟩
  have C1 : Hid (∀ w, Calls Tryz.prog 94 #[.int .i64 k, .int .i64 15] w fun e w' => e = .returned (.bool b1) ∧ w = w') := Lib.hid fun w => by rw [h1]; exact rwithin_any k 15 w
  have C2 : Hid (∀ w, Calls Tryz.prog 94 #[.int .i64 v, .int .i64 100000] w fun e w' => e = .returned (.bool b2) ∧ w = w') := Lib.hid fun w => by rw [h2]; exact rwithin_any v 100000 w
  have C3 : Hid (∀ w, Calls Tryz.prog 94 #[.int .i64 e, .int .i64 1000] w fun e w' => e = .returned (.bool b3) ∧ w = w') := Lib.hid fun w => by rw [h3]; exact rwithin_any e 1000 w
  unfold meaB
  rw [← h1, ← h2, ← h3]
  clear h1 h2 h3
  cases b1 with
  | false =>
    go_enter Tryz.func95, Tryz.ntmps95
    simp only [meaV]
    go_wp2_with (first | (go_at_call 94; refine (C1.out _).mono ?_; rintro e w' ⟨rfl, rfl⟩; clear C1))
    go_ret
    exact ⟨by simp, (Below.refl _ _).alloc (Nat.le_refl _) _⟩
  | true =>
    cases b2 with
    | false =>
      go_enter Tryz.func95, Tryz.ntmps95
      simp only [meaV]
      go_wp2_with (first | (go_at_call 94; refine (C1.out _).mono ?_; rintro e w' ⟨rfl, rfl⟩; clear C1) | (go_at_call 94; refine (C2.out _).mono ?_; rintro e w' ⟨rfl, rfl⟩; clear C2))
      go_ret
      exact ⟨by simp, (Below.refl _ _).alloc (Nat.le_refl _) _⟩
    | true =>
      go_enter Tryz.func95, Tryz.ntmps95
      simp only [meaV]
      go_wp2_with (first | (go_at_call 94; refine (C1.out _).mono ?_; rintro e w' ⟨rfl, rfl⟩; clear C1) | (go_at_call 94; refine (C2.out _).mono ?_; rintro e w' ⟨rfl, rfl⟩; clear C2) | (go_at_call 94; refine (C3.out _).mono ?_; rintro e w' ⟨rfl, rfl⟩; clear C3))
      go_ret
      exact ⟨by simp, (Below.refl _ _).alloc (Nat.le_refl _) _⟩
end Go.Proofs.YtilfiadkhohfiaaGreatDoor
/- The specification of layer 2: zones. -/
namespace Go.Proofs.YtilfiadkhohfiaaGreatDoor
set_option linter.unusedSimpArgs false
set_option linter.unusedVariables false
open Go Go.RowKit
attribute [local go_sem] setV

theorem word_all (N : Nat) : word N 0 = N % 18446744073709551616 ∧ word N 1 = N / 18446744073709551616 % 18446744073709551616 ∧ word N 2 = N / 340282366920938463463374607431768211456 % 18446744073709551616 ∧ word N 3 = N / 6277101735386680763835789423207666416102355444464034512896 % 18446744073709551616 := by
  unfold word
  refine ⟨by simp, by simp, by simp, by simp⟩
/-- What the specification's zones looks at. -/
def zonesW (a b c d : Nat) : Bool := !(a == 0) && decide (a < 65536) && (b == 0) && (c == 0) && (d == 0)
theorem zonesW_eq {N : Nat} (hN : N < 2 ^ 256) : zonesW (word N 0) (word N 1) (word N 2) (word N 3) = decide (N ≠ 0 ∧ N < 65536) := by
  obtain ⟨h0, h1, h2, h3⟩ := word_all N
  rw [h0, h1, h2, h3]
  unfold zonesW
  rw [Bool.eq_iff_iff]
  simp only [Bool.and_eq_true, Bool.not_eq_true', beq_eq_false_iff_ne, beq_iff_eq, decide_eq_true_eq]
  omega
theorem rzones_any (N : Nat) (w : World) (hN : N < 2 ^ 256) :
    Calls Tryz.prog 161 #[setV N] w fun e w' => e = .returned (.bool (decide (N ≠ 0 ∧ N < 65536))) ∧ Below w.heap.size w w' := by
  rw [← zonesW_eq hN]
  simp only [setV]
  have hlt := word_lt N 0
  generalize word N 0 = a at hlt ⊢
  generalize word N 1 = b
  generalize word N 2 = c
  generalize word N 3 = d
  clear hN
  by_cases h0 : a = 0
  · subst h0
    go_enter Tryz.func161, Tryz.ntmps161
    go_wp2
    go_ret
    exact ⟨by simp [zonesW], (Below.refl _ _).alloc (Nat.le_refl _) _⟩
  · by_cases h1 : a < 65536
    · have e1 : ((a : Int) / 65536) = 0 := by omega
      by_cases h2 : b = 0
      · by_cases h3 : c = 0
        · go_enter Tryz.func161, Tryz.ntmps161
          go_wp2
          go_ret
          exact ⟨by simp [zonesW, h0, h1, h2, h3]; rw [Bool.eq_iff_iff]; simp, (Below.refl _ _).alloc (Nat.le_refl _) _⟩
        · go_enter Tryz.func161, Tryz.ntmps161
          go_wp2
          go_ret
          exact ⟨by simp [zonesW, h0, h1, h2, h3], (Below.refl _ _).alloc (Nat.le_refl _) _⟩
      · go_enter Tryz.func161, Tryz.ntmps161
        go_wp2
        go_ret
        exact ⟨by simp [zonesW, h0, h1, h2], (Below.refl _ _).alloc (Nat.le_refl _) _⟩
    · have e1 : ¬ ((a : Int) / 65536) = 0 := by omega
      go_enter Tryz.func161, Tryz.ntmps161
      go_wp2
      go_ret
      exact ⟨by simp [zonesW, h1], (Below.refl _ _).alloc (Nat.le_refl _) _⟩
end Go.Proofs.YtilfiadkhohfiaaGreatDoor
/- Zones: what two calls of Next tell of a set. Plain mathematics. -/
namespace Go.Proofs.YtilfiadkhohfiaaGreatDoor
set_option linter.unusedSimpArgs false
set_option linter.unusedVariables false
open Go Go.RowKit

theorem nx_isSome {N : Nat} : ∀ {f k : Nat}, (nx N f k).isSome = true ↔ ∃ i, k ≤ i ∧ i < k + f ∧ N.testBit i = true
  | 0, k => by
    unfold nx
    simp only [Option.isSome_none, Bool.false_eq_true, false_iff]
    rintro ⟨i, h1, h2, _⟩
    omega
  | f + 1, k => by
    unfold nx
    by_cases h : N.testBit k = true
    · rw [if_pos h]
      simp only [Option.isSome_some, true_iff]
      exact ⟨k, Nat.le_refl _, by omega, h⟩
    · rw [if_neg h, nx_isSome]
      constructor
      · rintro ⟨i, h1, h2, h3⟩
        exact ⟨i, by omega, by omega, h3⟩
      · rintro ⟨i, h1, h2, h3⟩
        have hne : i ≠ k := fun e => h (e ▸ h3)
        exact ⟨i, by omega, by omega, h3⟩
/-- The zones of a find. -/
def zonesB (N : Nat) : Bool := decide (N ≠ 0 ∧ N < 65536)
theorem zones_next {N : Nat} (hN : N < 2 ^ 256) : ((nextO N (-1)).isSome && !(nextO N 15).isSome) = zonesB N := by
  have e1 : nextO N (-1) = nx N 256 0 := by unfold nextO; rw [if_neg (by decide)]; rfl
  have e2 : nextO N 15 = nx N 240 16 := by unfold nextO; rw [if_neg (by decide)]; rfl
  rw [e1, e2]
  have h1 : (nx N 256 0).isSome = true ↔ N ≠ 0 := by
    rw [nx_isSome]
    constructor
    · rintro ⟨i, _, _, h⟩ rfl
      simp at h
    · intro h
      obtain ⟨i, hi⟩ := Nat.exists_testBit_of_ne_zero h
      refine ⟨i, Nat.zero_le _, ?_, hi⟩
      by_cases h2 : i < 256
      · omega
      · rw [Nat.testBit_lt_two_pow (Nat.lt_of_lt_of_le hN (Nat.pow_le_pow_right (by decide) (by omega)))] at hi
        cases hi
  have h2 : (nx N 240 16).isSome = true ↔ ¬ N < 65536 := by
    rw [nx_isSome]
    constructor
    · rintro ⟨i, h1, _, h⟩ hlt
      rw [Nat.testBit_lt_two_pow (Nat.lt_of_lt_of_le (show N < 2 ^ 16 from hlt) (Nat.pow_le_pow_right (by decide) h1))] at h
      cases h
    · intro h
      obtain ⟨i, h3, h4⟩ := Nat.exists_ge_and_testBit_of_ge_two_pow (n := 16) (x := N) (by omega)
      refine ⟨i, h3, ?_, h4⟩
      by_cases h5 : i < 256
      · omega
      · rw [Nat.testBit_lt_two_pow (Nat.lt_of_lt_of_le hN (Nat.pow_le_pow_right (by decide) (by omega)))] at h4
        cases h4
  unfold zonesB
  rw [Bool.eq_iff_iff, Bool.and_eq_true, Bool.not_eq_true', decide_eq_true_iff, h1]
  constructor
  · rintro ⟨ha, hb⟩
    refine ⟨ha, ?_⟩
    by_cases h : N < 65536
    · exact h
    · rw [h2.2 h] at hb; cases hb
  · rintro ⟨ha, hb⟩
    refine ⟨ha, ?_⟩
    cases hc : (nx N 240 16).isSome with
    | false => rfl
    | true => exact absurd hb (h2.1 hc)
end Go.Proofs.YtilfiadkhohfiaaGreatDoor
/- Layer 2: the zones of a find, as the package asks of them. -/
namespace Go.Proofs.YtilfiadkhohfiaaGreatDoor
set_option linter.unusedSimpArgs false
set_option linter.unusedVariables false
open Go Go.RowKit

theorem below_one (w : World) (o : Obj) : Below w.heap.size w (w.alloc o) := (Below.refl _ _).alloc (Nat.le_refl _) o
set_option maxRecDepth 100000 in
theorem areZones_any (N : Nat) (w : World) (hg : Gl w) (hN : N < 2 ^ 256) :
    Calls Tryz.prog 156 #[setV N] w fun e w' => e = .returned (.bool (zonesB N)) ∧ Below w.heap.size w w' := by
  rw [← zones_next hN]
  obtain ⟨x1, hx1⟩ : ∃ x : Nat, x = (nextO N (-1)).getD 0 := ⟨_, rfl⟩
  obtain ⟨b1, hb1⟩ : ∃ b, b = (nextO N (-1)).isSome := ⟨_, rfl⟩
  obtain ⟨x2, hx2⟩ : ∃ x : Nat, x = (nextO N 15).getD 0 := ⟨_, rfl⟩
  obtain ⟨b2, hb2⟩ : ∃ b, b = (nextO N 15).isSome := ⟨_, rfl⟩
  have C1 : Hid (∀ w, Gl w → Calls Tryz.prog 196 #[setV N, .int .i64 (-1)] w fun e w' => e = .returned (.tuple #[.int .i64 x1, .bool b1]) ∧ Below w.heap.size w w') := Lib.hid fun w hg => by rw [hx1, hb1]; exact next_any N (-1) w hg
  have C2 : Hid (∀ w, Gl w → Calls Tryz.prog 196 #[setV N, .int .i64 15] w fun e w' => e = .returned (.tuple #[.int .i64 x2, .bool b2]) ∧ Below w.heap.size w w') := Lib.hid fun w hg => by rw [hx2, hb2]; exact next_any N 15 w hg
  have HG := Lib.hid hg
  rw [← hb1, ← hb2]
  clear hx1 hb1 hx2 hb2 hN hg
  cases b1 with
  | false =>
    go_enter Tryz.func156, Tryz.ntmps156
    simp only [setV]
    go_wp2_with (first | (go_at_call 196; refine (C1.out _ (HG.out.below (below_one w _))).mono ?_; rintro e w1 ⟨rfl, h1⟩; obtain ⟨hbc, hbf⟩ := bcell h1; have H1 := Lib.hid h1; clear C1 h1) | (go_at_call 196; refine (C2.out _ ((HG.out.below (below_one w _)).below H1.out)).mono ?_; rintro e w2 ⟨rfl, h2⟩; have H2 := Lib.hid h2; clear C2 h2))
    go_ret
    exact ⟨by simp, (below_one w _).trans ((H1.out.mono (by simp)).trans (H2.out.mono (Nat.le_trans (by simp) H1.out.size)))⟩
  | true =>
    go_enter Tryz.func156, Tryz.ntmps156
    simp only [setV]
    go_wp2_with (first | (go_at_call 196; refine (C1.out _ (HG.out.below (below_one w _))).mono ?_; rintro e w1 ⟨rfl, h1⟩; obtain ⟨hbc, hbf⟩ := bcell h1; have H1 := Lib.hid h1; clear C1 h1) | (go_at_call 196; refine (C2.out _ ((HG.out.below (below_one w _)).below H1.out)).mono ?_; rintro e w2 ⟨rfl, h2⟩; have H2 := Lib.hid h2; clear C2 h2))
    go_ret
    exact ⟨by simp, (below_one w _).trans ((H1.out.mono (by simp)).trans (H2.out.mono (Nat.le_trans (by simp) H1.out.size)))⟩
end Go.Proofs.YtilfiadkhohfiaaGreatDoor
