/- The interpreter of closed runs, a part of it. -/
import Derived.Test.YteojbichibdhjabGreatVW
namespace Go.Clo
set_option linter.unusedSimpArgs false
set_option linter.unusedVariables false
set_option linter.unnecessarySimpa false
open Go Go.RowKit

variable {P : Program} {W0 : World}

theorem kindBeq_same {a b : IntKind} (h : kindBeq a b = true) : a = b := by cases a <;> cases b <;> first | rfl | cases h
theorem intBeq_same {a b : Int} (h : intBeq a b = true) : a = b := by
  cases a <;> cases b
  · rw [Nat.eq_of_beq_eq_true h]
  · cases h
  · cases h
  · rw [Nat.eq_of_beq_eq_true h]
theorem capBeq_eq {a b : Cap} (h : capBeq a b = true) : a = b := by
  cases a <;> cases b
  · rw [Nat.eq_of_beq_eq_true h]
  · cases h
  · cases h
  · rw [Nat.eq_of_beq_eq_true h]
mutual
theorem V.beq_eq : ∀ {a b : V}, a.beq b = true → a = b
  | .int k n, b, h => by
    cases b <;> simp only [V.beq, Bool.and_eq_true, Bool.false_eq_true] at h
    rw [kindBeq_same h.1, intBeq_same h.2]
  | .bool x, b, h => by
    cases b <;> simp only [V.beq, Bool.false_eq_true] at h
    rw [eq_of_beq h]
  | .str x, b, h => by
    cases b <;> simp only [V.beq, Bool.false_eq_true, decide_eq_true_eq] at h
    rw [h]
  | .ptr x y, b, h => by
    cases b <;> simp only [V.beq, Bool.and_eq_true, Bool.false_eq_true] at h
    rw [Nat.eq_of_beq_eq_true h.1, Nat.eq_of_beq_eq_true h.2]
  | .nilp, b, h => by cases b <;> simp only [V.beq, Bool.false_eq_true] at h; rfl
  | .sl x o l c, b, h => by
    cases b <;> simp only [V.beq, Bool.and_eq_true, Bool.false_eq_true] at h
    rw [Nat.eq_of_beq_eq_true h.1.1.1, Nat.eq_of_beq_eq_true h.1.1.2, Nat.eq_of_beq_eq_true h.1.2, capBeq_eq h.2]
  | .nils, b, h => by cases b <;> simp only [V.beq, Bool.false_eq_true] at h; rfl
  | .map x, b, h => by
    cases b <;> simp only [V.beq, Bool.false_eq_true] at h
    rw [Nat.eq_of_beq_eq_true h]
  | .nilm, b, h => by cases b <;> simp only [V.beq, Bool.false_eq_true] at h; rfl
  | .fn f c, b, h => by
    cases b <;> simp only [V.beq, Bool.and_eq_true, Bool.false_eq_true] at h
    rw [Nat.eq_of_beq_eq_true h.1, V.beqL_eq h.2]
  | .nilf, b, h => by cases b <;> simp only [V.beq, Bool.false_eq_true] at h; rfl
  | .ifc t v, b, h => by
    cases b <;> simp only [V.beq, Bool.and_eq_true, Bool.false_eq_true] at h
    rw [Nat.eq_of_beq_eq_true h.1, V.beq_eq h.2]
  | .nili, b, h => by cases b <;> simp only [V.beq, Bool.false_eq_true] at h; rfl
  | .any, b, h => by cases b <;> simp only [V.beq, Bool.false_eq_true] at h; rfl
  | .slz x o k, b, h => by
    cases b <;> simp only [V.beq, Bool.and_eq_true, Bool.false_eq_true] at h
    rw [Nat.eq_of_beq_eq_true h.1.1, Nat.eq_of_beq_eq_true h.1.2, Nat.eq_of_beq_eq_true h.2]
  | .yld x, b, h => by
    cases b <;> simp only [V.beq, Bool.false_eq_true] at h
    rw [Nat.eq_of_beq_eq_true h]
  | .mfn f a c, b, h => by
    cases b <;> simp only [V.beq, Bool.and_eq_true, Bool.false_eq_true] at h
    rw [Nat.eq_of_beq_eq_true h.1.1, V.beqL_eq h.1.2, V.beqL_eq h.2]
  | .glob g, b, h => by
    cases b <;> simp only [V.beq, Bool.false_eq_true] at h
    rw [Nat.eq_of_beq_eq_true h]
  | .agg l, b, h => by
    cases b <;> simp only [V.beq, Bool.false_eq_true] at h
    rw [V.beqL_eq h]
  | .tup l, b, h => by
    cases b <;> simp only [V.beq, Bool.false_eq_true] at h
    rw [V.beqL_eq h]
theorem V.beqL_eq : ∀ {a b : List V}, V.beqL a b = true → a = b
  | [], b, h => by cases b <;> simp only [V.beqL, Bool.false_eq_true] at h; rfl
  | x :: a, b, h => by
    cases b <;> simp only [V.beqL, Bool.and_eq_true, Bool.false_eq_true] at h
    rw [V.beq_eq h.1, V.beqL_eq h.2]
end

/-- Masks of what stands ahead. -/
theorem before_at (b : List Nat) (i j : Nat) : before b i j = match b[j]? with | some m => m.testBit i | none => false := by
  induction b generalizing j with
  | nil => rfl
  | cons m l ih =>
    cases j with
    | zero => rfl
    | succ j => exact ih j
def mask (acc : Array Nat) (o : Oper) : Nat := o.after.foldl (fun s e => if Region.binds .any e then s ||| 2 ^ e.on ||| acc.getD e.on 0 else s) 0
theorem before_def (ops : Array Oper) : Region.before ops = ops.foldl (init := #[]) fun acc o => acc.push (mask acc o) := rfl
theorem mask_bit {acc : Array Nat} {i : Nat} : ∀ {l : List Edge} {s : Nat}, (l.foldl (fun s e => if Region.binds .any e then s ||| 2 ^ e.on ||| acc.getD e.on 0 else s) s).testBit i = true →
    s.testBit i = true ∨ ∃ e ∈ l, Region.binds .any e = true ∧ (i = e.on ∨ (acc.getD e.on 0).testBit i = true)
  | [], s, h => Or.inl h
  | e :: l, s, h => by
    rw [List.foldl_cons] at h
    rcases mask_bit h with h | ⟨e', he', h⟩
    · cases hb : Region.binds .any e with
      | false => rw [hb] at h; exact Or.inl (by simpa using h)
      | true =>
        rw [hb] at h
        simp only [if_true, Nat.testBit_or, Bool.or_eq_true, Nat.testBit_two_pow, decide_eq_true_eq] at h
        rcases h with (h | h) | h
        · exact Or.inl h
        · exact Or.inr ⟨e, List.mem_cons_self, hb, Or.inl h.symm⟩
        · exact Or.inr ⟨e, List.mem_cons_self, hb, Or.inr h⟩
    · exact Or.inr ⟨e', List.mem_cons_of_mem _ he', h⟩
theorem masks : ∀ (l : List Oper) (acc : Array Nat), let r := l.foldl (fun acc o => acc.push (mask acc o)) acc
    r.size = acc.size + l.length ∧ (∀ i, i < acc.size → r[i]? = acc[i]?) ∧ ∀ j o, l[j]? = some o → ∃ acc' : Array Nat, acc'.size = acc.size + j ∧ (∀ i, i < acc'.size → r[i]? = acc'[i]?) ∧ r[acc.size + j]? = some (mask acc' o)
  | [], acc => ⟨rfl, fun _ _ => rfl, fun j o h => by simp at h⟩
  | x :: l, acc => by
    obtain ⟨h1, h2, h3⟩ := masks l (acc.push (mask acc x))
    rw [List.foldl_cons]
    refine ⟨by rw [h1]; simp; omega, fun i hi => ?_, fun j o hj => ?_⟩
    · rw [h2 i (by simp; omega)]
      simp [Array.getElem?_push, show i ≠ acc.size by omega]
    · cases j with
      | zero =>
        simp at hj; subst hj
        refine ⟨acc, rfl, fun i hi => ?_, ?_⟩
        · rw [h2 i (by simp; omega)]
          simp [Array.getElem?_push, show i ≠ acc.size by omega]
        · rw [Nat.add_zero, h2 acc.size (by simp)]
          simp
      | succ j =>
        obtain ⟨acc', k1, k2, k3⟩ := h3 j o (by simpa using hj)
        refine ⟨acc', by rw [k1]; simp; omega, k2, ?_⟩
        rw [show acc.size + (j + 1) = (acc.push (mask acc x)).size + j by simp; omega]
        exact k3
theorem before_inv {ops : Array Oper} {i j : Nat} (h : before (Region.before ops).toList i j = true) :
    ∃ o, ops[j]? = some o ∧ ∃ e ∈ o.after, Region.binds .any e = true ∧ (i = e.on ∨ before (Region.before ops).toList i e.on = true) := by
  rw [before_at] at h
  have hr : Region.before ops = ops.toList.foldl (fun acc o => acc.push (mask acc o)) #[] := by rw [before_def, Array.foldl_toList]
  obtain ⟨h1, _, h3⟩ := masks ops.toList #[]
  simp only [← hr] at h1 h3
  cases hm : (Region.before ops).toList[j]? with
  | none => rw [hm] at h; cases h
  | some m =>
    rw [hm] at h
    have hj : j < ops.toList.length := by
      have : j < (Region.before ops).toList.length := (List.getElem?_eq_some_iff.1 hm).1
      simpa [h1] using this
    have ho : ops.toList[j]? = some ops.toList[j] := by simp [hj]
    obtain ⟨acc', k1, k2, k3⟩ := h3 j _ ho
    have hm' : (Region.before ops)[j]? = some m := by simpa using hm
    rw [show (#[] : Array Nat).size + j = j by simp, hm'] at k3
    injection k3 with k3
    subst k3
    refine ⟨ops.toList[j], by simpa using ho, ?_⟩
    unfold mask at h
    rw [← Array.foldl_toList] at h
    rcases mask_bit h with h | ⟨e, he, hb, h⟩
    · simp at h
    · refine ⟨e, by simpa using he, hb, h.imp id fun h => ?_⟩
      rw [before_at]
      by_cases hlt : e.on < acc'.size
      · have := k2 e.on hlt
        have hg : acc'[e.on]? = some (acc'.getD e.on 0) := by simp [Array.getD_eq_getD_getElem?, hlt]
        have : (Region.before ops).toList[e.on]? = some (acc'.getD e.on 0) := by rw [hg] at this; simpa using this
        rw [this]; exact h
      · have : acc'.getD e.on 0 = 0 := by simp [Array.getD_eq_getD_getElem?, hlt]
        rw [this] at h; simp at h
end Go.Clo
