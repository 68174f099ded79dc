/- The interpreter of closed runs, a part of it. -/
import Derived.Test.YteojbichibdhjabGreatV0
import Derived.Calls
import Derived.Below
import Derived.Orders
namespace Go.Clo
set_option linter.unusedSimpArgs false
set_option linter.unusedVariables false
set_option linter.unnecessarySimpa false
open Go Go.RowKit

section tree
variable {α : Type}
theorem Tr.get_nil (n : Nat) : (Tr.nil : Tr α).get n = none := rfl
theorem Tr.get_zero (v : Option α) (l r : Tr α) : (Tr.node v l r).get 0 = v := rfl
theorem Tr.get_succ (v : Option α) (l r : Tr α) (m : Nat) : (Tr.node v l r).get (m + 1) = if m % 2 = 0 then l.get (m / 2) else r.get (m / 2) := by
  show Bool.rec (motive := fun _ => Option α) (r.get (Nat.div m 2)) (l.get (Nat.div m 2)) (Nat.beq (Nat.mod m 2) 0) = _
  by_cases h : m % 2 = 0
  · have : Nat.beq (Nat.mod m 2) 0 = true := by rw [show Nat.mod m 2 = 0 from h]; rfl
    rw [this, if_pos h]; rfl
  · have : Nat.beq (Nat.mod m 2) 0 = false := by
      cases hb : Nat.beq (Nat.mod m 2) 0 with
      | false => rfl
      | true => exact absurd (Nat.eq_of_beq_eq_true hb) h
    rw [this, if_neg h]; rfl
theorem Tr.mk1_succ (f m : Nat) (b : α) : Tr.mk1 (f + 1) (m + 1) b = if m % 2 = 0 then .node none (Tr.mk1 f (m / 2) b) .nil else .node none .nil (Tr.mk1 f (m / 2) b) := by
  show Bool.rec (motive := fun _ => Tr α) (.node none .nil (Tr.mk1 f (Nat.div m 2) b)) (.node none (Tr.mk1 f (Nat.div m 2) b) .nil) (Nat.beq (Nat.mod m 2) 0) = _
  by_cases h : m % 2 = 0
  · have : Nat.beq (Nat.mod m 2) 0 = true := by rw [show Nat.mod m 2 = 0 from h]; rfl
    rw [this, if_pos h]; rfl
  · have : Nat.beq (Nat.mod m 2) 0 = false := by
      cases hb : Nat.beq (Nat.mod m 2) 0 with
      | false => rfl
      | true => exact absurd (Nat.eq_of_beq_eq_true hb) h
    rw [this, if_neg h]; rfl
theorem Tr.set_succ (v : Option α) (l r : Tr α) (m : Nat) (b : α) : (Tr.node v l r).set (m + 1) b = if m % 2 = 0 then .node v (l.set (m / 2) b) r else .node v l (r.set (m / 2) b) := by
  show Bool.rec (motive := fun _ => Tr α) (.node v l (r.set (Nat.div m 2) b)) (.node v (l.set (Nat.div m 2) b) r) (Nat.beq (Nat.mod m 2) 0) = _
  by_cases h : m % 2 = 0
  · have : Nat.beq (Nat.mod m 2) 0 = true := by rw [show Nat.mod m 2 = 0 from h]; rfl
    rw [this, if_pos h]; rfl
  · have : Nat.beq (Nat.mod m 2) 0 = false := by
      cases hb : Nat.beq (Nat.mod m 2) 0 with
      | false => rfl
      | true => exact absurd (Nat.eq_of_beq_eq_true hb) h
    rw [this, if_neg h]; rfl
theorem Tr.set_zero (v : Option α) (l r : Tr α) (b : α) : (Tr.node v l r).set 0 b = .node (some b) l r := rfl
theorem ite_same {β : Type} {p q : Prop} [Decidable p] [Decidable q] (h : p ↔ q) (x y : β) : (if p then x else y) = if q then x else y := by
  by_cases hp : p
  · rw [if_pos hp, if_pos (h.1 hp)]
  · rw [if_neg hp, if_neg (fun k => hp (h.2 k))]
theorem Tr.get_mk1 (f : Nat) : ∀ (n : Nat) (b : α) (m : Nat), n < f → (Tr.mk1 f n b).get m = if m = n then some b else none := by
  induction f with
  | zero => intro n b m h; omega
  | succ f ih =>
    intro n b m h
    cases n with
    | zero => cases m with
      | zero => rfl
      | succ m =>
        show (Tr.node (some b) Tr.nil Tr.nil).get (m + 1) = _
        have e : ¬ (m + 1 = 0) := by omega
        rw [Tr.get_succ, if_neg e]; split <;> rfl
    | succ k =>
      rw [Tr.mk1_succ]
      cases m with
      | zero =>
        have e : ¬ (0 = k + 1) := by omega
        rw [if_neg e]; split <;> rfl
      | succ j =>
        by_cases hk : k % 2 = 0
        · rw [if_pos hk, Tr.get_succ]
          by_cases hj : j % 2 = 0
          · rw [if_pos hj, ih _ _ _ (by omega)]; exact ite_same (by omega) _ _
          · have e : ¬ (j + 1 = k + 1) := by omega
            rw [if_neg hj, if_neg e]; rfl
        · rw [if_neg hk, Tr.get_succ]
          by_cases hj : j % 2 = 0
          · have e : ¬ (j + 1 = k + 1) := by omega
            rw [if_pos hj, if_neg e]; rfl
          · rw [if_neg hj, ih _ _ _ (by omega)]; exact ite_same (by omega) _ _
theorem Tr.get_set (t : Tr α) : ∀ (n : Nat) (b : α) (m : Nat), (t.set n b).get m = if m = n then some b else t.get m := by
  induction t with
  | nil => intro n b m; show (Tr.mk1 (n + 1) n b).get m = _; rw [Tr.get_mk1 _ _ _ _ (by omega)]; rfl
  | node v l r ihl ihr =>
    intro n b m
    cases n with
    | zero => rw [Tr.set_zero]; cases m with
      | zero => rfl
      | succ m =>
        have e : ¬ (m + 1 = 0) := by omega
        rw [if_neg e, Tr.get_succ, Tr.get_succ]
    | succ k =>
      rw [Tr.set_succ]
      cases m with
      | zero =>
        have e : ¬ (0 = k + 1) := by omega
        rw [if_neg e]; split <;> rfl
      | succ j =>
        by_cases hk : k % 2 = 0
        · rw [if_pos hk, Tr.get_succ, Tr.get_succ]
          by_cases hj : j % 2 = 0
          · rw [if_pos hj, if_pos hj, ihl]; exact ite_same (by omega) _ _
          · have e : ¬ (j + 1 = k + 1) := by omega
            rw [if_neg hj, if_neg hj, if_neg e]
        · rw [if_neg hk, Tr.get_succ, Tr.get_succ]
          by_cases hj : j % 2 = 0
          · have e : ¬ (j + 1 = k + 1) := by omega
            rw [if_pos hj, if_pos hj, if_neg e]
          · rw [if_neg hj, if_neg hj, ihr]; exact ite_same (by omega) _ _
end tree

/-- Where a block lies: the block, the cell of it at which it begins, and how many elements the slice that was made with it can hold. -/
structure Loc where
  blk : Nat
  off : Nat
  cap : Nat
abbrev Rho := Nat → Option Loc
def Rho.le (ρ ρ' : Rho) : Prop := ∀ b l, ρ b = some l → ρ' b = some l
theorem Rho.le_refl (ρ : Rho) : ρ.le ρ := fun _ _ h => h
theorem Rho.le_trans {a b c : Rho} (h : a.le b) (k : b.le c) : a.le c := fun x l e => k x l (h x l e)

mutual
/-- The value of the program that one of the interpreter stands for. -/
def E (ρ : Rho) : V → Value → Prop
  | .int k n, u => u = .int k n
  | .bool b, u => u = .bool b
  | .str s, u => u = .string s
  | .ptr b off, u => ∃ l, ρ b = some l ∧ u = .pointer (some ⟨l.blk, l.off + off, none⟩)
  | .nilp, u => u = .pointer none
  | .sl b off len (.exact n), u => ∃ l, ρ b = some l ∧ u = .slice (some ⟨l.blk, l.off + off, none⟩) len n
  | .sl b off len (.open_ k), u => ∃ l, ρ b = some l ∧ u = .slice (some ⟨l.blk, l.off + off, none⟩) len (l.cap - k)
  | .nils, u => u = .slice none 0 0
  | .map b, u => ∃ l, ρ b = some l ∧ u = .map (some l.blk)
  | .nilm, u => u = .map none
  | .fn f c, u => ∃ us : List Value, u = .func (.func f) #[] us.toArray ∧ EL ρ c us
  | .nilf, u => u = .nilFunc
  | .ifc t v, u => ∃ x, u = .iface t x ∧ E ρ v x
  | .nili, u => u = .nilIface
  | .glob g, u => u = .pointer (some ⟨g, 0, none⟩)
  | .agg l, u => ∃ us : List Value, u = .agg us.toArray ∧ EL ρ l us
  | .tup l, u => ∃ us : List Value, u = .tuple us.toArray ∧ EL ρ l us
  | .yld b, u => ∃ l, ρ b = some l ∧ u = .func (.yield l.blk) #[] #[]
  | .mfn f a c, u => ∃ us ws : List Value, u = .func (.func f) us.toArray ws.toArray ∧ EL ρ a us ∧ EL ρ c ws
  | .slz b off k, u => ∃ l, ρ b = some l ∧ ∃ p : Addr, u = .slice (some p) 0 (l.cap - k) ∧ (k < l.cap → p = ⟨l.blk, l.off + off, none⟩)
  | .any, u => (∀ b : Bool, u ≠ .bool b) ∧ (∀ us : Array Value, u ≠ .agg us) ∧ ∀ us : Array Value, u ≠ .tuple us
def EL (ρ : Rho) : List V → List Value → Prop
  | [], us => us = []
  | v :: l, us => ∃ u r, us = u :: r ∧ E ρ v u ∧ EL ρ l r
end
mutual
theorem E.mono {ρ ρ' : Rho} (h : ρ.le ρ') : ∀ (v : V) {u : Value}, E ρ v u → E ρ' v u
  | .int .., _, e | .bool _, _, e | .str _, _, e | .nilp, _, e | .nils, _, e | .nilm, _, e | .nilf, _, e | .nili, _, e | .glob _, _, e => by simpa only [E] using e
  | .ptr .., _, e | .yld _, _, e | .map _, _, e | .sl _ _ _ (.exact _), _, e | .sl _ _ _ (.open_ _), _, e => by
    simp only [E] at e ⊢; obtain ⟨l, hl, hu⟩ := e; exact ⟨l, h _ _ hl, hu⟩
  | .fn _ c, _, e | .agg c, _, e | .tup c, _, e => by simp only [E] at e ⊢; obtain ⟨us, hu, hl⟩ := e; exact ⟨us, hu, EL.mono h c hl⟩
  | .ifc _ v, _, e => by simp only [E] at e ⊢; obtain ⟨x, hu, hl⟩ := e; exact ⟨x, hu, E.mono h v hl⟩
  | .mfn _ a c, _, e => by simp only [E] at e ⊢; obtain ⟨us, ws, hu, h1, h2⟩ := e; exact ⟨us, ws, hu, EL.mono h a h1, EL.mono h c h2⟩
  | .any, _, e => by simpa only [E] using e
  | .slz _ _ _, _, e => by simp only [E] at e ⊢; obtain ⟨l, hl, hu⟩ := e; exact ⟨l, h _ _ hl, hu⟩
theorem EL.mono {ρ ρ' : Rho} (h : ρ.le ρ') : ∀ (l : List V) {us : List Value}, EL ρ l us → EL ρ' l us
  | [], _, e => by simpa only [EL] using e
  | v :: l, _, e => by simp only [EL] at e ⊢; obtain ⟨u, r, hu, h1, h2⟩ := e; exact ⟨u, r, hu, E.mono h v h1, EL.mono h l h2⟩
end
theorem EL.cons {ρ : Rho} {v : V} {u : Value} {l : List V} {us : List Value} (h : E ρ v u) (h' : EL ρ l us) : EL ρ (v :: l) (u :: us) := by simp only [EL]; exact ⟨u, us, rfl, h, h'⟩
theorem EL.nil {ρ : Rho} : EL ρ [] [] := by simp only [EL]
theorem EL.cons_inv {ρ : Rho} {v : V} {l : List V} {us : List Value} (h : EL ρ (v :: l) us) : ∃ u r, us = u :: r ∧ E ρ v u ∧ EL ρ l r := by simpa only [EL] using h
theorem EL.nil_inv {ρ : Rho} {us : List Value} (h : EL ρ [] us) : us = [] := by simpa only [EL] using h
theorem EL.app {ρ : Rho} : ∀ {l : List V} {us : List Value} {m : List V} {vs : List Value}, EL ρ l us → EL ρ m vs → EL ρ (l ++ m) (us ++ vs)
  | [], _, _, _, h, k => by rw [EL.nil_inv h]; exact k
  | _ :: _, _, _, _, h, k => by obtain ⟨u, r, rfl, h1, h2⟩ := EL.cons_inv h; exact EL.cons h1 (EL.app h2 k)
theorem EL.len {ρ : Rho} : ∀ {l : List V} {us : List Value}, EL ρ l us → us.length = l.length
  | [], _, h => by rw [EL.nil_inv h]; rfl
  | _ :: _, _, h => by obtain ⟨u, r, rfl, _, h2⟩ := EL.cons_inv h; simp [EL.len h2]
theorem EL.at {ρ : Rho} : ∀ {l : List V} {us : List Value} {i : Nat} {v : V}, EL ρ l us → l[i]? = some v → ∃ u, us[i]? = some u ∧ E ρ v u
  | [], _, _, _, _, k => by simp at k
  | _ :: _, _, 0, _, h, k => by obtain ⟨u, r, rfl, h1, _⟩ := EL.cons_inv h; simp at k; subst k; exact ⟨u, rfl, h1⟩
  | _ :: _, _, i + 1, _, h, k => by obtain ⟨u, r, rfl, _, h2⟩ := EL.cons_inv h; simp at k; simpa using EL.at h2 k
theorem EL.of_at {ρ : Rho} : ∀ {l : List V} {us : List Value}, us.length = l.length → (∀ (i : Nat) (v : V), l[i]? = some v → ∃ u, us[i]? = some u ∧ E ρ v u) → EL ρ l us
  | [], us, h, _ => by cases us with | nil => exact EL.nil | cons => simp at h
  | v :: l, us, h, k => by
    cases us with
    | nil => simp at h
    | cons u us =>
      obtain ⟨u', hu, he⟩ := k 0 v rfl
      simp at hu; subst hu
      exact EL.cons he (EL.of_at (by simpa using h) (fun i v hi => by simpa using k (i + 1) v (by simpa using hi)))
theorem EL.take {ρ : Rho} {l : List V} {us : List Value} (n : Nat) (h : EL ρ l us) : EL ρ (l.take n) (us.take n) := by
  induction l generalizing us n with
  | nil => rw [EL.nil_inv h]; simpa using EL.nil
  | cons v l ih =>
    obtain ⟨u, r, rfl, h1, h2⟩ := EL.cons_inv h
    cases n with
    | zero => simpa using EL.nil
    | succ n => simpa using EL.cons h1 (ih n h2)
theorem EL.drop {ρ : Rho} {l : List V} {us : List Value} (n : Nat) (h : EL ρ l us) : EL ρ (l.drop n) (us.drop n) := by
  induction l generalizing us n with
  | nil => rw [EL.nil_inv h]; simpa using EL.nil
  | cons v l ih =>
    obtain ⟨u, r, rfl, h1, h2⟩ := EL.cons_inv h
    cases n with
    | zero => simpa using EL.cons h1 h2
    | succ n => simpa using ih n h2

/-- The lists' own functions are the language's. -/
theorem takeN_eq (l : List V) : ∀ n, takeN l n = l.take n := by
  induction l with
  | nil => intro n; simp [takeN]
  | cons a l ih => intro n; cases n with
    | zero => rfl
    | succ n => show a :: takeN l n = _; rw [ih]; rfl
theorem dropN_eq (l : List V) : ∀ n, dropN l n = l.drop n := by
  induction l with
  | nil => intro n; simp [dropN]
  | cons a l ih => intro n; cases n with
    | zero => rfl
    | succ n => show dropN l n = _; rw [ih]; rfl
theorem lenN_eq (l : List V) : lenN l = l.length := by
  induction l with
  | nil => rfl
  | cons a l ih => show Nat.succ (lenN l) = _; rw [ih]; rfl
theorem nthO_eq (l : List V) : ∀ n, nthO l n = l[n]? := by
  induction l with
  | nil => intro n; rfl
  | cons a l ih => intro n; cases n with
    | zero => rfl
    | succ n => show nthO l n = _; rw [ih]; simp
theorem lenLe_eq (l : List V) : ∀ n, lenLe n l = true ↔ n ≤ l.length := by
  induction l with
  | nil => intro n; show Nat.beq n 0 = true ↔ _; simp
  | cons a l ih => intro n; cases n with
    | zero => exact ⟨fun _ => Nat.zero_le _, fun _ => rfl⟩
    | succ n => show lenLe n l = true ↔ _; rw [ih]; simp
theorem appN_eq (a b : List V) : appN a b = a ++ b := by
  induction a with
  | nil => rfl
  | cons x a ih => show x :: appN a b = _; rw [ih]; rfl
theorem cut_spec {c : List V} {off n : Nat} {r : List V} (h : cut c off n = .ok r) : off + n ≤ c.length ∨ n = 0 := by
  unfold cut ask at h
  simp only at h
  split at h
  · rename_i hl
    rw [lenLe_eq, dropN_eq, List.length_drop] at hl
    omega
  · cases h
theorem cut_eq {c : List V} {off n : Nat} {r : List V} (h : cut c off n = .ok r) : r = (c.drop off).take n := by
  unfold cut ask at h
  simp only at h
  split at h
  · injection h with h; rw [← h, takeN_eq, dropN_eq]
  · cases h
theorem cut_len {c : List V} {off n : Nat} {r : List V} (h : cut c off n = .ok r) : r.length = n := by
  rw [cut_eq h]; have := cut_spec h; simp; omega

/-- The slots of a frame. -/
def FrE (ρ : Rho) (t : Fr) (a : Array Value) : Prop := a.size = t.n ∧ ∀ i, E ρ (t.get i) (a.getD i undef)
theorem FrE.mono {ρ ρ' : Rho} (h : ρ.le ρ') {t : Fr} {a : Array Value} (k : FrE ρ t a) : FrE ρ' t a := ⟨k.1, fun i => E.mono h _ (k.2 i)⟩
theorem Fr.get_set (t : Fr) (i j : Nat) (v : V) : (t.set i v).get j = if j = i ∧ i < t.n then v else t.get j := by
  unfold Fr.set
  split
  · rename_i h
    have h : i < t.n := by simpa using h
    simp only [Fr.get, Tr.get_set]
    by_cases e : j = i
    · simp [e, h]
    · simp [e]
  · rename_i h
    have h : ¬ i < t.n := by intro hlt; rw [show Nat.blt i t.n = true from Nat.ble_eq_true_of_le hlt] at h; cases h
    rw [if_neg (fun e => h e.2)]
theorem Fr.set_n (t : Fr) (i : Nat) (v : V) : (t.set i v).n = t.n := by unfold Fr.set; split <;> rfl
theorem FrE.set {ρ : Rho} {t : Fr} {a : Array Value} (h : FrE ρ t a) (i : Nat) {v : V} {u : Value} (hv : E ρ v u) : FrE ρ (t.set i v) (a.setIfInBounds i u) := by
  refine ⟨by simp [h.1, Fr.set_n], fun j => ?_⟩
  rw [Fr.get_set]
  by_cases e : j = i ∧ i < t.n
  · obtain ⟨rfl, hlt⟩ := e
    rw [if_pos ⟨rfl, hlt⟩]
    have : j < a.size := by rw [h.1]; exact hlt
    simpa [Array.getD, this] using hv
  · rw [if_neg e]
    have h2 := h.2 j
    by_cases hji : j = i
    · subst hji
      have : ¬ j < a.size := by rw [h.1]; exact fun k => e ⟨rfl, k⟩
      simpa [Array.getD, this] using h2
    · have : (a.setIfInBounds i u).getD j undef = a.getD j undef := by simp [Array.getElem?_setIfInBounds_ne (Ne.symm hji)]
      rw [this]; exact h2
theorem putV_ok {ρ : Rho} {t : Fr} {a : Act} (h : FrE ρ t a.tmps) (d : Option Tmp) {v : V} {u : Value} (hv : E ρ v u) : FrE ρ (putV t d v) (a.put d u).tmps := by
  cases d with
  | none => exact h
  | some d => exact h.set d hv
theorem E_undef {ρ : Rho} : E ρ undefV undef := by unfold undefV undef; simp only [E]; exact ⟨[], rfl, EL.nil⟩

theorem M.bind_ok {α β : Type} {m : M α} {f : α → M β} {b : β} (h : m.bind f = .ok b) : ∃ a, m = .ok a ∧ f a = .ok b := by
  cases m with
  | ok a => exact ⟨a, rfl, h⟩
  | err e => cases h
theorem need_ok {α : Type} {o : Option α} {e : String} {a : α} (h : need o e = .ok a) : o = some a := by
  cases o with
  | some b => simp only [need] at h; injection h with h; rw [h]
  | none => cases h
theorem ask_ok {α : Type} {b : Bool} {e : String} {m : M α} {a : α} (h : ask b e m = .ok a) : b = true ∧ m = .ok a := by
  cases b with
  | true => exact ⟨rfl, h⟩
  | false => cases h

theorem ofVal1_ok {ρ : Rho} {u : Value} {v : V} (h : ofVal1 u = some v) : E ρ v u := by
  cases u with
  | int k n => simp only [ofVal1, Option.some.injEq] at h; subst h; simp only [E]
  | bool b => simp only [ofVal1, Option.some.injEq] at h; subst h; simp only [E]
  | string s => simp only [ofVal1, Option.some.injEq] at h; subst h; simp only [E]
  | pointer a => cases a with
    | none => simp only [ofVal1, Option.some.injEq] at h; subst h; simp only [E]
    | some a => simp [ofVal1] at h
  | slice a len cap =>
    cases a with
    | none => cases len with
      | zero => cases cap with
        | zero => simp only [ofVal1, ofSl, Option.some.injEq] at h; subst h; simp only [E]
        | succ n => simp [ofVal1, ofSl] at h
      | succ n => simp [ofVal1, ofSl] at h
    | some a => simp [ofVal1, ofSl] at h
  | map a => cases a with
    | none => simp only [ofVal1, Option.some.injEq] at h; subst h; simp only [E]
    | some a => simp [ofVal1] at h
  | nilFunc => simp only [ofVal1, Option.some.injEq] at h; subst h; simp only [E]
  | nilIface => simp only [ofVal1, Option.some.injEq] at h; subst h; simp only [E]
  | func f first captured =>
    cases f with
    | func f =>
      obtain ⟨first⟩ := first
      obtain ⟨captured⟩ := captured
      cases first with
      | nil => cases captured with
        | nil => simp only [ofVal1, ofFn, Option.some.injEq] at h; subst h; simp only [E]; exact ⟨[], rfl, EL.nil⟩
        | cons => simp [ofVal1, ofFn] at h
      | cons => simp [ofVal1, ofFn] at h
    | _ => simp [ofVal1, ofFn] at h
  | _ => simp [ofVal1] at h
theorem ofVals_ok {ρ : Rho} : ∀ {us : List Value} {l : List V}, ofVals us = some l → EL ρ l us
  | [], l, h => by simp only [ofVals] at h; injection h with h; subst h; exact EL.nil
  | u :: us, l, h => by
    simp only [ofVals] at h
    split at h
    · rename_i a ha
      split at h
      · rename_i b hb
        injection h with h; subst h
        exact EL.cons (ofVal1_ok ha) (ofVals_ok hb)
      · cases h
    · cases h
theorem ofVal_ok {ρ : Rho} {u : Value} {v : V} (h : ofVal u = some v) : E ρ v u := by
  unfold ofVal at h
  split at h
  · obtain ⟨l, hl, rfl⟩ := Option.map_eq_some_iff.1 h
    simp only [E]; exact ⟨_, by simp, ofVals_ok hl⟩
  · obtain ⟨l, hl, rfl⟩ := Option.map_eq_some_iff.1 h
    simp only [E]; exact ⟨_, by simp, ofVals_ok hl⟩
  · obtain ⟨l, hl, rfl⟩ := Option.map_eq_some_iff.1 h
    simp only [E]; exact ⟨_, rfl, ofVal1_ok hl⟩
  · exact ofVal1_ok h
theorem ev_ok {ρ : Rho} {t : Fr} {a : Act} (h : FrE ρ t a.tmps) {x : Operand} {v : V} (e : ev t x = .ok v) : E ρ v (a.eval x) := by
  cases x with
  | tmp i => simp only [ev] at e; injection e with e; subst e; exact h.2 i
  | const u => exact ofVal_ok (need_ok e)
  | global g => simp only [ev] at e; injection e with e; subst e; simp only [E]; rfl
  | func f => simp only [ev] at e; injection e with e; subst e; simp only [E]; exact ⟨[], rfl, EL.nil⟩
theorem evs_cons (t : Fr) (o : Operand) (l : List Operand) : evs t (o :: l) = (ev t o).bind fun v => (evs t l).bind fun r => .ok (v :: r) := rfl
theorem evs_ok {ρ : Rho} {t : Fr} {a : Act} (h : FrE ρ t a.tmps) : ∀ {xs : List Operand} {l : List V}, evs t xs = .ok l → EL ρ l (xs.map a.eval)
  | [], l, e => by have : M.ok [] = M.ok l := e; injection this with this; subst this; exact EL.nil
  | x :: xs, l, e => by
    rw [evs_cons] at e
    obtain ⟨v, hv, e⟩ := M.bind_ok e
    obtain ⟨r, hr, e⟩ := M.bind_ok e
    injection e with e; subst e
    exact EL.cons (ev_ok h hv) (evs_ok h hr)
end Go.Clo
