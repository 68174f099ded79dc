/- Runs on what is not known. -/
import Derived.Test.YtilfiadkhohfiaaGreatDoorPb
/- The interpreter of closed runs, a part of it. -/
namespace Go.Clo
set_option linter.unusedSimpArgs false
set_option linter.unusedVariables false
set_option linter.unnecessarySimpa false
open Go Go.RowKit
noncomputable section

/-- Readings that have to come to the same. -/
abbrev Obs := List (M V × M V)
def Holds (o : Obs) : Prop := ∀ p ∈ o, p.1 = p.2
/-- What a run is handed: what to do with an error. -/
abbrev RunK (α : Type) := Code → Fr → St → Obs → (String → α) → (Ex → Fr → St → Obs → α) → α

/-- Both ways of a bool. -/
class Sp (α : Type) where
  sp : Bool → (Bool → α) → α
  law : ∀ b g, sp b g = g b
instance spOption {β : Type} : Sp (Option β) where
  sp b g := Bool.rec (motive := fun _ => Option β) (g false) (g true) b
  law b g := by cases b <;> rfl
instance spMode {β : Type} : Sp (Bool → β) where
  sp b g := fun m => Bool.rec (motive := fun _ => β) (g false m) (g true m) b
  law b g := by cases b <;> rfl
section defs
variable {α : Type} [Sp α]
def litK (t : Fr) (d : Nat) (k : Fr → α) : α := match t.get d with | .bool b => Sp.sp b fun c => k (t.set d (.bool c)) | _ => k t
def onM {β : Type} (m : M β) (e : String → α) (k : β → α) : α := match m with | .ok b => k b | .err x => e x
def litG (t : Fr) (g : Option (Option Tmp × Bool)) (k : Fr → α) : α := match g with
  | some (some d, _) => litK t d k
  | _ => k t
def litP (t : Fr) (o : Oper) (k : Fr → α) : α := match o.op with
  | .pick (.tmp d) _ _ => litK t d k
  | _ => k t
def litO (ops : Array Oper) (t : Fr) (o : Oper) (k : Fr → α) : α := litG t (guardOf ops o) fun t => litP t o k

/-- A call that is known under a condition. -/
abbrev SHook := FuncId → List V → St → Option (Bool × V × St)
def hookOf (S : SHook) : Hook := fun f args s => match S f args s with
  | some (c, v, s') => some (match c with | true => .ok (v, s') | false => .err "a condition")
  | none => none
def noHk : Hook := fun _ _ _ => none
def callK (P : Program) (S : SHook) (ih : RunK α) (f : FuncId) (args : List V) (s : St) (o : Obs) (e : String → α) (k : V → St → Obs → α) : α :=
  match S f args s with
  | some (c, v, s') => Sp.sp c fun c => match c with | true => k v s' o | false => e "a condition"
  | none => match P.funcs[f]? with
    | none => e "call no function"
    | some fn => match fn.body with
      | none => e "call no body"
      | some body => ih body (enterF args (Nat.max fn.ntmps (lenN args))) s o e fun x t s o => match x with
        | .exit _ | .goto _ => e "exit out of a function"
        | _ => onM (resV P t s fn.results.toList) e fun l => k (single l) s o
def noRun : Run := fun _ _ _ => .err "no run"
end defs

/-- The cells' comparison, with what has to hold of the numbers. -/
def cmpS1 (k : Leaf) (v v' : V) (rest : Option (Bool × Bool)) : Option (Bool × Bool) := match rest with
  | none => none
  | some r => match k, v, v' with
    | .int k, .int k1 n, .int k2 n' => match kindBeq k k1 && kindBeq k k2 with | true => some (inR k n && (inR k n' && r.1), intBeq n n' && r.2) | false => none
    | .bool, .bool b, .bool b' => some (r.1, (b == b') && r.2)
    | _, _, _ => none
def cmpS (ks : List Leaf) : List V → List V → Option (Bool × Bool) := List.rec (motive := fun _ => List V → List V → Option (Bool × Bool))
  (fun l l' => match l, l' with | [], [] => some (true, true) | _, _ => none)
  (fun k _ ih l l' => List.rec (motive := fun _ => Option (Bool × Bool)) none (fun v l _ => List.rec (motive := fun _ => Option (Bool × Bool)) none (fun v' l' _ => cmpS1 k v v' (ih l l')) l') l) ks
def symAgg (ne : Bool) (ks : Option (List Leaf)) (a b : V) : Option (Bool × V) := match a, b with
  | .agg l, .agg l' => match ks with
    | some ks => match cmpS ks l l' with
      | some (c, r) => match ne with | false => some (c, .bool r) | true => some (c, .bool (!r))
      | none => none
    | none => none
  | _, _ => none
def symInt (f : Nat → Nat → Nat) (ks : Option (List Leaf)) (a b : V) : Option (Bool × V) := match a, b with
  | .int k m, .int k' n => match m, n with
    | .ofNat a, .ofNat b => match ks with
      | none => match kindBeq k k' with | true => some (Nat.ble a (top k) && Nat.ble b (top k), .int k (.ofNat (f a b))) | false => none
      | some _ => none
    | _, _ => none
  | _, _ => none
/-- A number that is not known, by one that is, and is above 0. -/
def symQuo (ks : Option (List Leaf)) (a b : V) : Option (Bool × V) := match a, b with
  | .int k m, .int k' n => match n with
    | .ofNat d => match Nat.ble 1 d with
      | true => match ks with
        | none => match kindBeq k k' with | true => some (!intLt m 0 && inR k m, .int k (m / .ofNat d)) | false => none
        | some _ => none
      | false => none
    | _ => none
  | _, _ => none
def symV (op : BinOp) (ks : Option (List Leaf)) (a b : V) : Option (Bool × V) := match op with
  | .eql => symAgg false ks a b
  | .neq => symAgg true ks a b
  | .and => symInt Nat.land ks a b
  | .or => symInt Nat.lor ks a b
  | .xor => symInt Nat.xor ks a b
  | .quo => symQuo ks a b
  | _ => none
/-- An operation on numbers that are not known: what has to hold of them, and what it comes to. -/
def symB (P : Program) (o : Oper) (t : Fr) : Option (Bool × V) := match o.op with
  | .binOp op ty x y _ => match ev t x, ev t y with
    | .ok a, .ok b => symV op (aggK P ty) a b
    | _, _ => none
  | _ => none

section defs
variable {α : Type} [Sp α]
def operK (P : Program) (S : SHook) (ih : RunK α) (t : Fr) (s : St) (o : Obs) (e : String → α) (k : V → St → Obs → α) : OpF → α
  | .call f args => onM (ev t f) e fun v => match v with
    | .fn g cap => match callable P g with
      | true => onM (evs t args) e fun l => callK P S ih g (appN l cap) s o e k
      | false => e "call not entered"
    | _ => e "call no function"
  | q => onM (operV P noHk noRun t s q) e fun r => k r.1 r.2 o
/-- An operation on numbers that are not known, or any other one. -/
def doK (P : Program) (op : Oper) (t : Fr) (e : String → α) (k : V → α) (other : α) : α := match symB P op t with
  | some (c, v) => Sp.sp c fun c => match c with | true => k v | false => e "a condition"
  | none => other
def regionK1 (P : Program) (S : SHook) (ih : RunK α) (ops : Array Oper) (next : Fr → St → Obs → α) (op : Oper) (t : Fr) (s : St) (o : Obs) (e : String → α) : α :=
  litO ops t op fun t => match wantedV t (guardOf ops op) with
    | true => doK P op t e (fun v => next (putV t op.dst v) s o) (operK P S ih t s o e (fun v s o => next (putV t op.dst v) s o) (opF P op))
    | false => next (putV t op.dst undefV) s o
def regionK (P : Program) (S : SHook) (ih : RunK α) (ops : Array Oper) (l : List Oper) : Fr → St → Obs → (String → α) → (Fr → St → Obs → α) → α :=
  List.rec (motive := fun _ => Fr → St → Obs → (String → α) → (Fr → St → Obs → α) → α) (fun t s o _ k => k t s o) (fun op _ next t s o e k => regionK1 P S ih ops (fun t s o => next t s o e k) op t s o e) l

def stepK (P : Program) (S : SHook) (ih : RunK α) (ops : Array Oper) (b : List Nat) (base i : Nat) (op : Oper) (x : Sn) (o : Obs) (e : String → α) (k : V → Sn → Obs → α) : α :=
  match wantedV x.t (guardOf ops op) with
  | false => k undefV ⟨putV x.t op.dst undefV, x.s, x.p, x.q⟩ o
  | true => doK P op (restrF x.t op) e (fun v => k v ⟨putV x.t op.dst v, x.s, x.p, x.q⟩ o) (match opF P op with
    | .call f l => operK P S ih (restrF x.t op) (addPend x.s (ownOf b i x.p)) o e (fun v s o => k v ⟨putV x.t op.dst v, s, restOf b i x.p, x.q⟩ o) (.call f l)
    | _ => onM (stepD P noHk noRun ops b base i op x) e fun r => k r.1 r.2 o)
def litN (ops : Array Oper) (l : List Oper) (x : Sn) (k : Sn → α) : α := match l with
  | [] => k x
  | op :: _ => litO ops x.t op fun t => k ⟨t, x.s, x.p, x.q⟩
def drawnK (P : Program) (S : SHook) (ih : RunK α) (ops : Array Oper) (b : List Nat) (base : Nat) (e : String → α) : Nat → List Oper → Sn → Obs → (List (V × Sn) → Obs → α) → α
  | _, [], _, o, k => k [] o
  | i, op :: l, x, o, k => stepK P S ih ops b base i op x o e fun v x' o => litN ops l x' fun x' => drawnK P S ih ops b base e (i + 1) l x' o fun z o => k ((v, x') :: z) o
end defs

def steadyO (b : List Nat) (effs : List (Nat × St)) (f : St → M V) (own : Pend) (i : Nat) (v : V) : List (Nat × St) → Obs
  | [] => []
  | (j, sj) :: l => match barred b i j effs with
    | true => steadyO b effs f own i v l
    | false => (f (addPend sj own), .ok v) :: steadyO b effs f own i v l
def readsO (P : Program) (ops : Array Oper) (b : List Nat) (effs : List (Nat × St)) : Nat → List Oper → Sn → List (V × Sn) → Obs
  | i, o :: l, x, r :: z => match wantedV x.t (guardOf ops o) with
    | false => readsO P ops b effs (i + 1) l r.2 z
    | true => match opF P o with
      | .read f => steadyO b effs (f (restrF x.t o)) (ownOf b i x.q) i r.1 effs ++ readsO P ops b effs (i + 1) l r.2 z
      | _ => readsO P ops b effs (i + 1) l r.2 z
  | _, _, _, _ => []

section defs
variable {α : Type} [Sp α]
def drawK (P : Program) (S : SHook) (ih : RunK α) (ops : Array Oper) (t : Fr) (s : St) (o : Obs) (e : String → α) (k : Ex → Fr → St → Obs → α) : α :=
  match drawnOk ops with
  | none => e "drawn temporaries"
  | some b => litN ops ops.toList ⟨t, ⟨s.mem, s.size + ops.size⟩, [], []⟩ fun x0 => drawnK P S ih ops b s.size e 0 ops.toList x0 o fun z o =>
    match orderD b ops.size (effsD P ops 0 ops.toList x0 z) with
    | false => e "drawn effects without an order"
    | true => match z.getLast? with
      | none => k .normal t s o
      | some r => k .normal r.2.t (addPend r.2.s r.2.p) (readsO P ops b (effsD P ops 0 ops.toList x0 z) 0 ops.toList x0 z ++ o)
def condK (ih : RunK α) (c : Operand) (a b : Code) (t : Fr) (s : St) (o : Obs) (e : String → α) (k : Ex → Fr → St → Obs → α) : α := match ev t c with
  | .ok (.bool true) => ih a t s o e k
  | .ok (.bool false) => ih b t s o e k
  | _ => e "cond"
def litC (c : Operand) (t : Fr) (k : Fr → α) : α := match c with | .tmp d => litK t d k | _ => k t
def scopeK (body : Code) (ih : RunK α) (e : String → α) (k : Ex → Fr → St → Obs → α) : Nat → Ex → Fr → St → Obs → α
  | 0, _, _, _, _ => e "fuel"
  | n + 1, x, t, s, o => match x with
    | .goto l => match findLabel body l with
      | some rest => ih rest t s o e fun x t s o => scopeK body ih e k n x t s o
      | none => k (.goto l) t s o
    | x => k x t s o
def stepsK (P : Program) (S : SHook) (n : Nat) (ih : RunK α) (c : Code) (t : Fr) (s : St) (o : Obs) (e : String → α) (k : Ex → Fr → St → Obs → α) : α := match c with
  | .skip => k .normal t s o
  | .label _ => k .normal t s o
  | .seq a b => ih a t s o e fun x t s o => match x with | .normal => ih b t s o e k | x => k x t s o
  | .cond c a b => litC c t fun t => condK ih c a b t s o e k
  | .block id b => ih b t s o e fun x t s o => match x with
    | .exit i => match Nat.beq i id with | true => k .normal t s o | false => k (.exit i) t s o
    | x => k x t s o
  | .loop b => ih b t s o e fun x t s o => match x with | .normal => ih (.loop b) t s o e k | x => k x t s o
  | .exit i => k (.exit i) t s o
  | .goto l => k (.goto l) t s o
  | .ret => k .ret t s o
  | .region _ ops draw => match draw with
    | false => regionK P S ih ops ops.toList t s o e fun t s o => k .normal t s o
    | true => drawK P S ih ops t s o e k
  | .scope b => ih b t s o e fun x t s o => scopeK b ih e k n x t s o
  | _ => e "an odd step"
def execK (P : Program) (S : SHook) (n : Nat) : RunK α := Nat.rec (motive := fun _ => RunK α) (fun _ _ _ _ e _ => e "fuel") (fun n ih c t s o e k => stepsK P S n ih c t s o e k) n
def runK (P : Program) (S : SHook) (n : Nat) (f : FuncId) (args : List V) (s : St) (e : String → α) (k : V → St → Obs → α) : α := callK P S (execK P S n) f args s [] e k
end defs
end
end Go.Clo
/- The interpreter of closed runs, a part of it. -/
namespace Go.Clo
set_option linter.unusedSimpArgs false
set_option linter.unusedVariables false
set_option linter.unnecessarySimpa false
open Go Go.RowKit

variable {P : Program}

theorem Tr.set_same {α : Type} (t : Tr α) : ∀ (n : Nat) (v : α), t.get n = some v → t.set n v = t := by
  induction t with
  | nil => intro n v h; cases h
  | node w l r hl hr =>
    intro n v h
    cases n with
    | zero => rw [Tr.get_zero] at h; rw [Tr.set_zero, h]
    | succ m =>
      rw [Tr.get_succ] at h
      rw [Tr.set_succ]
      by_cases hm : m % 2 = 0
      · rw [if_pos hm] at h ⊢; rw [hl _ _ h]
      · rw [if_neg hm] at h ⊢; rw [hr _ _ h]
theorem Fr.set_same {t : Fr} {d : Nat} {b : Bool} (h : t.get d = .bool b) : t.set d (.bool b) = t := by
  unfold Fr.set
  split
  · unfold Fr.get at h
    cases hg : t.t.get d with
    | none => rw [hg] at h; cases h
    | some v => rw [hg] at h; simp only at h; subst h; rw [Tr.set_same _ _ _ hg]
  · rfl
theorem litK_eq {α : Type} [Sp α] (t : Fr) (d : Nat) (k : Fr → α) : litK t d k = k t := by
  unfold litK
  split
  · rename_i b h
    rw [Sp.law, Fr.set_same h]
  · rfl
theorem litG_eq {α : Type} [Sp α] (t : Fr) (g : Option (Option Tmp × Bool)) (k : Fr → α) : litG t g k = k t := by
  unfold litG
  split
  · exact litK_eq _ _ _
  · rfl
theorem litP_eq {α : Type} [Sp α] (t : Fr) (o : Oper) (k : Fr → α) : litP t o k = k t := by
  unfold litP
  split
  · exact litK_eq _ _ _
  · rfl
theorem litO_eq {α : Type} [Sp α] (ops : Array Oper) (t : Fr) (o : Oper) (k : Fr → α) : litO ops t o k = k t := by
  unfold litO; rw [litG_eq, litP_eq]
theorem litN_eq {α : Type} [Sp α] (ops : Array Oper) (l : List Oper) (x : Sn) (k : Sn → α) : litN ops l x k = k x := by
  unfold litN
  cases l with
  | nil => rfl
  | cons op l => simp only [litO_eq]
theorem litC_eq {α : Type} [Sp α] (c : Operand) (t : Fr) (k : Fr → α) : litC c t k = k t := by
  unfold litC
  split
  · exact litK_eq _ _ _
  · rfl

/-- A run in continuations is a run. -/
def Sym {β : Type} (r : Option β) (o : Obs) (F : (α : Type) → Sp α → (String → α) → (β → Obs → α) → α) : Prop :=
  (∃ y o', (Holds o' → Holds o ∧ r = some y) ∧ ∀ α (i : Sp α) e k, F α i e k = k y o') ∨ ∃ m, ∀ α (i : Sp α) e k, F α i e k = e m
def okM {β : Type} : M β → Option β
  | .ok b => some b
  | .err _ => none
def okO : Out → Option (Ex × Fr × St)
  | .ok x t s => some (x, t, s)
  | .err _ => none
theorem okM_some {β : Type} {m : M β} {b : β} (h : okM m = some b) : m = .ok b := by cases m with | ok a => injection h with h; rw [h] | err e => cases h
theorem okO_some {r : Out} {x : Ex} {t : Fr} {s : St} (h : okO r = some (x, t, s)) : r = .ok x t s := by
  cases r with
  | ok x t s => injection h with h; injection h with h1 h; injection h with h2 h3; rw [h1, h2, h3]
  | err e => cases h
theorem Sym.err {β : Type} {r : Option β} {o : Obs} (m : String) : Sym r o (fun _ _ e _ => e m) := .inr ⟨m, fun _ _ _ _ => rfl⟩
theorem Sym.ret {β : Type} {r : Option β} {o : Obs} {y : β} (h : r = some y) : Sym r o (fun _ _ _ k => k y o) := .inl ⟨y, o, fun hh => ⟨hh, h⟩, fun _ _ _ _ => rfl⟩
theorem Sym.bind {β γ : Type} {r : Option β} {o : Obs} {F : (α : Type) → Sp α → (String → α) → (β → Obs → α) → α} {f : β → Option γ} {G : β → Obs → (α : Type) → Sp α → (String → α) → (γ → Obs → α) → α}
    (h : Sym r o F) (k : ∀ y o', Sym (f y) o' (G y o')) : Sym (r.bind f) o (fun α i e c => F α i e (fun y o' => G y o' α i e c)) := by
  rcases h with ⟨y, o1, h1, h2⟩ | ⟨m, h⟩
  · rcases k y o1 with ⟨z, o2, h3, h4⟩ | ⟨m, h3⟩
    · refine .inl ⟨z, o2, fun hh => ?_, fun α i e c => ?_⟩
      · obtain ⟨a1, a2⟩ := h3 hh
        obtain ⟨a3, a4⟩ := h1 a1
        exact ⟨a3, by rw [a4]; exact a2⟩
      · exact (h2 α i e _).trans (h4 α i e c)
    · exact .inr ⟨m, fun α i e c => (h2 α i e _).trans (h3 α i e c)⟩
  · exact .inr ⟨m, fun α i e c => h α i e _⟩
theorem Sym.of {β : Type} {r r' : Option β} {o : Obs} {F : (α : Type) → Sp α → (String → α) → (β → Obs → α) → α} (h : Sym r o F) (e : r = r') : Sym r' o F := e ▸ h
/-- Of a computation that asks nothing. -/
theorem Sym.onM {β γ : Type} (m : M β) {o : Obs} {f : β → Option γ} {G : β → (α : Type) → Sp α → (String → α) → (γ → Obs → α) → α} (k : ∀ y, Sym (f y) o (G y)) :
    Sym ((okM m).bind f) o (fun α i e c => onM m e (fun y => G y α i e c)) := by
  cases m with
  | ok b => exact k b
  | err e => exact .inr ⟨e, fun _ _ _ _ => rfl⟩

abbrev RunF := (α : Type) → Sp α → RunK α
def RunSym (ih : Run) (ihK : RunF) : Prop := ∀ c t s o, Sym (okO (ih c t s)) o (fun α i e k => ihK α i c t s o e (fun x t s o => k (x, t, s) o))

theorem callK_sym {S : SHook} {ih : Run} {ihK : RunF} (hih : RunSym ih ihK) (f : FuncId) (args : List V) (s : St) (o : Obs) :
    Sym (okM (callV P (hookOf S) ih f args s)) o (fun α i e k => callK P S (ihK α i) f args s o e (fun v s o => k (v, s) o)) := by
  unfold callV callK
  unfold hookOf
  cases S f args s with
  | some r =>
    obtain ⟨c, v, s'⟩ := r
    simp only [Sp.law]
    cases c with
    | true => exact Sym.ret rfl
    | false => exact Sym.err _
  | none =>
    simp only
    cases P.funcs[f]? with
    | none => exact Sym.err _
    | some fn =>
      simp only
      cases fn.body with
      | none => exact Sym.err _
      | some body =>
        simp only
        refine Sym.of (Sym.bind (hih body (enterF args (Nat.max fn.ntmps (lenN args))) s o)
          (f := fun p => match p.1 with | .exit _ | .goto _ => none | _ => okM ((resV P p.2.1 p.2.2 fn.results.toList).bind fun l => .ok (single l, p.2.2)))
          (G := fun p o α i e k => match p.1 with | .exit _ | .goto _ => e "exit out of a function" | _ => onM (resV P p.2.1 p.2.2 fn.results.toList) e fun l => k (single l, p.2.2) o) ?_) ?_
        · rintro ⟨x, t, s'⟩ o'
          have fin : Sym (okM ((resV P t s' fn.results.toList).bind fun l => M.ok (single l, s'))) o' (fun α i e k => onM (resV P t s' fn.results.toList) e fun l => k (single l, s') o') := by
            refine Sym.of (Sym.onM _ (f := fun l => some (single l, s')) (G := fun l _ _ _ k => k (single l, s') o') fun y => Sym.ret rfl) ?_
            cases resV P t s' fn.results.toList <;> rfl
          cases x with
          | normal => exact fin
          | ret => exact fin
          | exit i => exact Sym.err _
          | goto l => exact Sym.err _
        · cases ih body (enterF args (Nat.max fn.ntmps (lenN args))) s with
          | err e => rfl
          | ok x t s' => cases x <;> rfl
theorem operV_noRun {S : SHook} {ih : Run} {t : Fr} {s : St} {q : OpF} (h : ∀ f a, q ≠ .call f a) : operV P noHk noRun t s q = operV P (hookOf S) ih t s q := by
  cases q with
  | call f a => exact absurd rfl (h f a)
  | _ => rfl
theorem operK_sym {S : SHook} {ih : Run} {ihK : RunF} (hih : RunSym ih ihK) (t : Fr) (s : St) (o : Obs) (q : OpF) :
    Sym (okM (operV P (hookOf S) ih t s q)) o (fun α i e k => operK P S (ihK α i) t s o e (fun v s o => k (v, s) o) q) := by
  have other : (∀ f a, q ≠ .call f a) → Sym (okM (operV P (hookOf S) ih t s q)) o (fun α i e k => onM (operV P noHk noRun t s q) e fun r => k (r.1, r.2) o) := fun h => by
    rw [operV_noRun (ih := ih) h]
    refine Sym.of (Sym.onM _ (f := some) (G := fun r _ _ _ k => k (r.1, r.2) o) fun y => Sym.ret rfl) ?_
    cases operV P (hookOf S) ih t s q <;> rfl
  cases q with
  | call f args =>
    show Sym (okM ((ev t f).bind fun v => _)) o (fun α i e k => onM (ev t f) e fun v => _)
    refine Sym.of (Sym.onM (ev t f) (f := fun v => match v with
      | .fn g cap => okM (ask (callable P g) "call not entered" ((evs t args).bind fun l => callV P (hookOf S) ih g (appN l cap) s))
      | _ => none)
      (G := fun v α i e k => match v with
        | .fn g cap => match callable P g with
          | true => onM (evs t args) e fun l => callK P S (ihK α i) g (appN l cap) s o e (fun v s o => k (v, s) o)
          | false => e "call not entered"
        | _ => e "call no function") ?_) ?_
    · intro v
      cases v with
      | fn g cap =>
        simp only
        cases callable P g with
        | true =>
          simp only [ask]
          refine Sym.of (Sym.onM (evs t args) (f := fun l => okM (callV P (hookOf S) ih g (appN l cap) s)) (G := fun l α i e k => callK P S (ihK α i) g (appN l cap) s o e (fun v s o => k (v, s) o)) fun l => callK_sym hih _ _ _ _) ?_
          cases evs t args <;> rfl
        | false => exact Sym.err _
      | _ => exact Sym.err _
    · cases ev t f with
      | ok v => cases v <;> rfl
      | err e => rfl
  | _ => exact other (fun f a h => by cases h)

/-- Numbers that are not known. -/
theorem cmpS_ok : ∀ {ks : List Leaf} {l l' : List V} {r : Bool}, cmpS ks l l' = some (true, r) → cmpL ks l l' = some r
  | [], l, l', r, h => by
    cases l with
    | nil => cases l' with
      | nil =>
        have h : some (true, true) = some (true, r) := h
        injection h with h; injection h with _ h; subst h; rfl
      | cons _ _ => cases h
    | cons _ _ => cases h
  | k :: ks, l, l', r, h => by
    cases l with
    | nil => cases h
    | cons v l => cases l' with
      | nil => cases h
      | cons v' l' =>
        have h : cmpS1 k v v' (cmpS ks l l') = some (true, r) := h
        show cmp1 k v v' (cmpL ks l l') = some r
        unfold cmpS1 at h
        cases hc : cmpS ks l l' with
        | none => rw [hc] at h; cases h
        | some q =>
          obtain ⟨c, q⟩ := q
          rw [hc] at h
          simp only at h
          unfold cmp1
          split at h
          · rename_i k1 k2 n k3 n'
            split at h
            · rename_i hk
              injection h with h
              simp only [Prod.mk.injEq, Bool.and_eq_true] at h
              obtain ⟨⟨h1, h2, rfl⟩, rfl⟩ := h
              rw [cmpS_ok hc]
              simp only [hk, h1, h2, Bool.and_self]
            · cases h
          · injection h with h
            simp only [Prod.mk.injEq] at h
            obtain ⟨rfl, rfl⟩ := h
            rw [cmpS_ok hc]
          · cases h
theorem symAgg_ok {o : Oper} {op : BinOp} {ty : TypeId} {x y : Operand} {t : Fr} {a b v : V} {ne : Bool} (hop : op = if ne then .neq else .eql) (ha : ev t x = .ok a) (hb : ev t y = .ok b) (h : symAgg ne (aggK P ty) a b = some (true, v)) :
    gBin2 P o op (tyKind P ty) (aggK P ty) x y t = .ok v := by
  unfold symAgg at h
  unfold gBin2 gBin
  rw [ha, hb]
  split at h
  · rename_i l l'
    cases hk : aggK P ty with
    | none => rw [hk] at h; cases h
    | some ks =>
      rw [hk] at h
      simp only at h
      cases hc : cmpS ks l l' with
      | none => rw [hc] at h; cases h
      | some q =>
        obtain ⟨c, r⟩ := q
        rw [hc] at h
        simp only at h
        have hc' : c = true → cmpL ks l l' = some r := fun e => by subst e; exact cmpS_ok hc
        cases ne with
        | false =>
          simp only at h; injection h with h; simp only [Prod.mk.injEq] at h; obtain ⟨rfl, rfl⟩ := h
          subst hop
          simp only [M.bind, hc' rfl, nilF]; rfl
        | true =>
          simp only at h; injection h with h; simp only [Prod.mk.injEq] at h; obtain ⟨rfl, rfl⟩ := h
          subst hop
          simp only [M.bind, hc' rfl, nilF]; rfl
  · cases h
theorem symInt_ok {o : Oper} {op : BinOp} {ty : TypeId} {x y : Operand} {t : Fr} {a b v : V} {f : Nat → Nat → Nat}
    (hop : ∀ k a b, (Nat.ble a (top k) && Nat.ble b (top k)) = true → isShift op = false ∧ binI op k (.ofNat a) (.ofNat b) = some (.int k (.ofNat (f a b)))) (ha : ev t x = .ok a) (hb : ev t y = .ok b) (h : symInt f (aggK P ty) a b = some (true, v)) :
    gBin2 P o op (tyKind P ty) (aggK P ty) x y t = .ok v := by
  unfold symInt at h
  unfold gBin2 gBin
  rw [ha, hb]
  split at h
  · rename_i k m k' n
    split at h
    · rename_i a b
      cases hk : aggK P ty with
      | some ks => rw [hk] at h; cases h
      | none =>
        rw [hk] at h
        simp only at h
        split at h
        · rename_i hkk
          injection h with h; simp only [Prod.mk.injEq] at h; obtain ⟨h1, rfl⟩ := h
          obtain ⟨h2, h3⟩ := hop k a b h1
          simp only [M.bind, binF, intsF, h2, hkk, h3]
        · cases h
    · cases h
  · cases h
theorem fitN_small {k : IntKind} {a : Nat} (h : a ≤ top k) : fitN k a = .ofNat a := by
  unfold fitN
  rw [Nat.ble_eq_true_of_le h]
theorem inR_le {k : IntKind} {a : Nat} (h : inR k (.ofNat a) = true) : a ≤ top k := by
  simp only [inR] at h
  exact Nat.le_of_ble_eq_true h
theorem symQuo_ok {o : Oper} {ty : TypeId} {x y : Operand} {t : Fr} {a b v : V} (ha : ev t x = .ok a) (hb : ev t y = .ok b) (h : symQuo (aggK P ty) a b = some (true, v)) :
    gBin2 P o .quo (tyKind P ty) (aggK P ty) x y t = .ok v := by
  unfold symQuo at h
  unfold gBin2 gBin
  rw [ha, hb]
  split at h
  · rename_i k m k' n
    split at h
    · rename_i d
      split at h
      · rename_i hd
        cases hk : aggK P ty with
        | some ks => rw [hk] at h; cases h
        | none =>
          rw [hk] at h
          simp only at h
          split at h
          · rename_i hkk
            injection h with h; simp only [Prod.mk.injEq, Bool.and_eq_true, Bool.not_eq_true'] at h
            obtain ⟨⟨h1, h2⟩, rfl⟩ := h
            have h1' : ¬ m < 0 := by rw [intLt_eq] at h1; simpa using h1
            obtain ⟨a, rfl⟩ : ∃ a : Nat, m = .ofNat a := ⟨m.toNat, by simp only [Int.ofNat_eq_natCast]; omega⟩
            have hd' : 1 ≤ d := Nat.le_of_ble_eq_true hd
            obtain ⟨d, rfl⟩ : ∃ e, d = e + 1 := ⟨d - 1, by omega⟩
            have hb : binI .quo k (.ofNat a) (.ofNat (d + 1)) = some (.int k (.ofNat a / .ofNat (d + 1))) := by
              simp only [binI, natsI, arith2]
              rw [fitN_small (Nat.le_trans (Nat.div_le_self _ _) (inR_le h2))]
              rfl
            simp only [M.bind, binF, intsF, isShift, hkk, hb]
          · cases h
      · cases h
    · cases h
  · cases h
theorem symV_ok {o : Oper} {op : BinOp} {ty : TypeId} {x y : Operand} {t : Fr} {a b v : V} (ha : ev t x = .ok a) (hb : ev t y = .ok b) (h : symV op (aggK P ty) a b = some (true, v)) :
    gBin2 P o op (tyKind P ty) (aggK P ty) x y t = .ok v := by
  unfold symV at h
  cases op with
  | eql => exact symAgg_ok (ne := false) rfl ha hb h
  | neq => exact symAgg_ok (ne := true) rfl ha hb h
  | and => exact symInt_ok (fun k a b hh => ⟨rfl, by simp only [binI, natsI, arith2, bits2, hh]⟩) ha hb h
  | or => exact symInt_ok (fun k a b hh => ⟨rfl, by simp only [binI, natsI, arith2, bits2, hh]⟩) ha hb h
  | xor => exact symInt_ok (fun k a b hh => ⟨rfl, by simp only [binI, natsI, arith2, bits2, hh]⟩) ha hb h
  | quo => exact symQuo_ok ha hb h
  | _ => cases h
theorem symB_ok {H : Hook} {ih : Run} {o : Oper} {t : Fr} {s : St} {v : V} (h : symB P o t = some (true, v)) : operV P H ih t s (opF P o) = .ok (v, s) := by
  unfold symB at h
  split at h
  · rename_i op ty x y z ho
    split at h
    · rename_i a b ha hb
      unfold opF
      rw [ho]
      show (gBin2 P o op (tyKind P ty) (aggK P ty) x y t).bind _ = _
      rw [symV_ok ha hb h]
      rfl
    · cases h
  · cases h
theorem doK_sym {S : SHook} {ih : Run} {op : Oper} {t : Fr} {s : St} {o : Obs} {β : Type} {f : V × St → Option β} {G : V × St → (α : Type) → Sp α → (String → α) → (β → Obs → α) → α} {F : (α : Type) → Sp α → (String → α) → (β → Obs → α) → α}
    (h1 : ∀ v, Sym (f (v, s)) o (G (v, s))) (h2 : Sym ((okM (operV P (hookOf S) ih t s (opF P op))).bind f) o F) :
    Sym ((okM (operV P (hookOf S) ih t s (opF P op))).bind f) o (fun α i e k => doK P op t e (fun v => G (v, s) α i e k) (F α i e k)) := by
  unfold doK
  cases hs : symB P op t with
  | none => exact h2
  | some q =>
    obtain ⟨c, v⟩ := q
    simp only [Sp.law]
    cases c with
    | false => exact Sym.err _
    | true =>
      rw [symB_ok hs]
      exact h1 v
end Go.Clo
/- The interpreter of closed runs, a part of it. -/
namespace Go.Clo
set_option linter.unusedSimpArgs false
set_option linter.unusedVariables false
set_option linter.unnecessarySimpa false
open Go Go.RowKit

variable {P : Program}

theorem intBeq_refl (n : Int) : intBeq n n = true := by cases n <;> exact Nat.beq_refl _
theorem capBeq_refl (c : Cap) : capBeq c c = true := by cases c <;> exact Nat.beq_refl _
mutual
theorem V.beq_refl : ∀ v : V, v.beq v = true
  | .int k n => by simp only [V.beq, intBeq_refl, kindBeq, Nat.beq_refl, Bool.and_self]
  | .bool b => by simp only [V.beq, beq_self_eq_true]
  | .str s => by simp only [V.beq, decide_true]
  | .ptr b o => by simp only [V.beq, Nat.beq_refl, Bool.and_self]
  | .nilp => rfl
  | .sl b o l c => by simp only [V.beq, Nat.beq_refl, Bool.and_self, capBeq_refl]
  | .nils => rfl
  | .map b => by simp only [V.beq, Nat.beq_refl]
  | .nilm => rfl
  | .fn f c => by simp only [V.beq, Nat.beq_refl, V.beqL_refl c, Bool.and_self]
  | .nilf => rfl
  | .ifc t v => by simp only [V.beq, Nat.beq_refl, V.beq_refl v, Bool.and_self]
  | .nili => rfl
  | .glob g => by simp only [V.beq, Nat.beq_refl]
  | .agg l => by simp only [V.beq, V.beqL_refl l]
  | .tup l => by simp only [V.beq, V.beqL_refl l]
  | .any => rfl
theorem V.beqL_refl : ∀ l : List V, V.beqL l l = true
  | [] => rfl
  | v :: l => by simp only [V.beqL, V.beq_refl v, V.beqL_refl l, Bool.and_self]
end
theorem Holds.app {a b : Obs} : Holds (a ++ b) ↔ Holds a ∧ Holds b := by
  unfold Holds
  constructor
  · exact fun h => ⟨fun p hp => h p (List.mem_append_left _ hp), fun p hp => h p (List.mem_append_right _ hp)⟩
  · rintro ⟨h1, h2⟩ p hp
    rcases List.mem_append.1 hp with h | h
    · exact h1 p h
    · exact h2 p h
theorem Holds.nil : Holds [] := fun p h => by cases h
theorem Holds.cons {p : M V × M V} {a : Obs} : Holds (p :: a) ↔ p.1 = p.2 ∧ Holds a := by
  unfold Holds
  constructor
  · exact fun h => ⟨h p (.head _), fun q hq => h q (.tail _ hq)⟩
  · rintro ⟨h1, h2⟩ q hq
    cases hq with
    | head => exact h1
    | tail _ hq => exact h2 q hq
theorem steadyO_ok (b : List Nat) (effs : List (Nat × St)) (f : St → M V) (own : Pend) (i : Nat) (v : V) : ∀ {l : List (Nat × St)}, Holds (steadyO b effs f own i v l) → steadyD b effs f own i v l = true
  | [], _ => rfl
  | (j, sj) :: l, h => by
    unfold steadyO at h
    unfold steadyD
    cases hb : barred b i j effs with
    | true => rw [hb] at h; simp only [Bool.true_and]; exact steadyO_ok b effs f own i v h
    | false =>
      rw [hb] at h
      simp only at h ⊢
      obtain ⟨h1, h2⟩ := Holds.cons.1 h
      have h1 : f (addPend sj own) = .ok v := h1
      rw [h1, steadyO_ok b effs f own i v h2]
      simp only [V.beq_refl, Bool.and_self]
theorem readsO_ok (ops : Array Oper) (b : List Nat) (effs : List (Nat × St)) : ∀ {l : List Oper} {i : Nat} {x : Sn} {z : List (V × Sn)}, Holds (readsO P ops b effs i l x z) → readsD P ops b effs i l x z = true
  | [], i, x, z, _ => by unfold readsD; rfl
  | o :: l, i, x, [], _ => by unfold readsD; rfl
  | o :: l, i, x, r :: z, h => by
    unfold readsO at h
    unfold readsD
    cases hw : wantedV x.t (guardOf ops o) with
    | false => rw [hw] at h; simp only [Bool.true_and]; exact readsO_ok ops b effs h
    | true =>
      rw [hw] at h
      simp only at h ⊢
      cases hF : opF P o with
      | read f =>
        rw [hF] at h
        simp only at h ⊢
        obtain ⟨h1, h2⟩ := Holds.app.1 h
        rw [steadyO_ok _ _ _ _ _ _ h1, readsO_ok ops b effs h2]; rfl
      | _ => rw [hF] at h; simp only [Bool.true_and]; exact readsO_ok ops b effs h

theorem regionK_sym {S : SHook} {ih : Run} {ihK : RunF} (hih : RunSym ih ihK) (ops : Array Oper) : ∀ (l : List Oper) (t : Fr) (s : St) (o : Obs),
    Sym (okO (regionV P (hookOf S) ih ops l t s)) o (fun α i e k => regionK P S (ihK α i) ops l t s o e (fun t s o => k (.normal, t, s) o))
  | [], t, s, o => Sym.ret rfl
  | op :: l, t, s, o => by
    show Sym (okO (regionS P (hookOf S) ih ops (regionV P (hookOf S) ih ops l) op t s)) o (fun α i e k => regionK1 P S (ihK α i) ops (fun t s o => regionK P S (ihK α i) ops l t s o e (fun t s o => k (.normal, t, s) o)) op t s o e)
    unfold regionK1 regionS
    simp only [litO_eq]
    cases wantedV t (guardOf ops op) with
    | false => exact regionK_sym hih ops l _ _ _
    | true =>
      simp only
      have e : okO (regionN (regionV P (hookOf S) ih ops l) op t (operV P (hookOf S) ih t s (opF P op))) = (okM (operV P (hookOf S) ih t s (opF P op))).bind fun r => okO (regionV P (hookOf S) ih ops l (putV t op.dst r.1) r.2) := by
        cases operV P (hookOf S) ih t s (opF P op) <;> rfl
      rw [e]
      refine doK_sym (f := fun r => okO (regionV P (hookOf S) ih ops l (putV t op.dst r.1) r.2)) (G := fun r α i e k => regionK P S (ihK α i) ops l (putV t op.dst r.1) r.2 o e (fun t s o => k (.normal, t, s) o))
        (F := fun α i e k => operK P S (ihK α i) t s o e (fun v s o => regionK P S (ihK α i) ops l (putV t op.dst v) s o e (fun t s o => k (.normal, t, s) o)) (opF P op)) ?_ ?_
      · exact fun v => regionK_sym hih ops l _ _ _
      · exact Sym.bind (operK_sym hih t s o (opF P op)) (f := fun r => okO (regionV P (hookOf S) ih ops l (putV t op.dst r.1) r.2)) (G := fun r o α i e k => regionK P S (ihK α i) ops l (putV t op.dst r.1) r.2 o e (fun t s o => k (.normal, t, s) o)) fun r o' => regionK_sym hih ops l _ _ _
theorem symB_pure {o : Oper} {t : Fr} {v : V} (h : symB P o t = some (true, v)) : ∃ f, opF P o = .pure f ∧ f t = .ok v := by
  have h1 : operV P (fun _ _ _ => none) noRun t ⟨.nil, 0⟩ (opF P o) = .ok (v, _) := symB_ok h
  unfold symB at h
  split at h
  · rename_i op ty x y z ho
    have hF : opF P o = .pure (gBin2 P o op (tyKind P ty) (aggK P ty) x y) := by unfold opF; rw [ho]
    refine ⟨_, hF, ?_⟩
    rw [hF] at h1
    obtain ⟨v', h2, h3⟩ := M.bind_ok h1
    injection h3 with h3; injection h3 with h3 _; subst h3
    exact h2
  · cases h
theorem stepK_sym {S : SHook} {ih : Run} {ihK : RunF} (hih : RunSym ih ihK) (ops : Array Oper) (b : List Nat) (base i : Nat) (op : Oper) (x : Sn) (o : Obs) :
    Sym (okM (stepD P (hookOf S) ih ops b base i op x)) o (fun α j e k => stepK P S (ihK α j) ops b base i op x o e (fun v x o => k (v, x) o)) := by
  unfold stepK
  cases hw : wantedV x.t (guardOf ops op) with
  | false =>
    have : stepD P (hookOf S) ih ops b base i op x = .ok (undefV, ⟨putV x.t op.dst undefV, x.s, x.p, x.q⟩) := by unfold stepD; rw [hw]
    rw [this]
    exact Sym.ret rfl
  | true =>
    simp only
    unfold doK
    cases hs : symB P op (restrF x.t op) with
    | some q =>
      obtain ⟨c, v⟩ := q
      simp only [Sp.law]
      cases c with
      | false => exact Sym.err _
      | true =>
        obtain ⟨f, hF, hf⟩ := symB_pure hs
        have : stepD P (hookOf S) ih ops b base i op x = .ok (v, ⟨putV x.t op.dst v, x.s, x.p, x.q⟩) := by unfold stepD; rw [hw, hF]; simp only [hf, M.bind]
        rw [this]
        exact Sym.ret rfl
    | none =>
      simp only
      have other : (∀ f l, opF P op ≠ .call f l) → Sym (okM (stepD P (hookOf S) ih ops b base i op x)) o (fun α j e k => onM (stepD P noHk noRun ops b base i op x) e fun r => k (r.1, r.2) o) := fun h => by
        have e : stepD P noHk noRun ops b base i op x = stepD P (hookOf S) ih ops b base i op x := by
          unfold stepD
          rw [hw]
          simp only
          cases hF : opF P op with
          | call f l => exact absurd hF (h f l)
          | eff f => rfl
          | _ => rfl
        rw [e]
        refine Sym.of (Sym.onM _ (f := some) (G := fun r _ _ _ k => k (r.1, r.2) o) fun y => Sym.ret rfl) ?_
        cases stepD P (hookOf S) ih ops b base i op x <;> rfl
      cases hF : opF P op with
      | call f l =>
        have e : okM (stepD P (hookOf S) ih ops b base i op x) = (okM (operV P (hookOf S) ih (restrF x.t op) (addPend x.s (ownOf b i x.p)) (.call f l))).bind fun r => some (r.1, ⟨putV x.t op.dst r.1, r.2, restOf b i x.p, x.q⟩) := by
          unfold stepD
          rw [hw, hF]
          simp only
          cases operV P (hookOf S) ih (restrF x.t op) (addPend x.s (ownOf b i x.p)) (.call f l) <;> rfl
        rw [e]
        exact Sym.bind (operK_sym hih _ _ _ _) (f := fun r => some (r.1, (⟨putV x.t op.dst r.1, r.2, restOf b i x.p, x.q⟩ : Sn))) (G := fun r o _ _ _ k => k (r.1, ⟨putV x.t op.dst r.1, r.2, restOf b i x.p, x.q⟩) o) fun r o' => Sym.ret rfl
      | _ => exact other (fun f l h => by rw [hF] at h; cases h)
theorem drawnK_sym {S : SHook} {ih : Run} {ihK : RunF} (hih : RunSym ih ihK) (ops : Array Oper) (b : List Nat) (base : Nat) : ∀ (l : List Oper) (i : Nat) (x : Sn) (o : Obs),
    Sym (okM (drawnS P (hookOf S) ih ops b base i l x)) o (fun α j e k => drawnK P S (ihK α j) ops b base e i l x o k)
  | [], i, x, o => Sym.ret rfl
  | op :: l, i, x, o => by
    have e : okM (drawnS P (hookOf S) ih ops b base i (op :: l) x) = (okM (stepD P (hookOf S) ih ops b base i op x)).bind fun r => (okM (drawnS P (hookOf S) ih ops b base (i + 1) l r.2)).bind fun z => some (r :: z) := by
      show okM ((stepD P (hookOf S) ih ops b base i op x).bind fun r => (drawnS P (hookOf S) ih ops b base (i + 1) l r.2).bind fun z => .ok (r :: z)) = _
      cases stepD P (hookOf S) ih ops b base i op x with
      | err e => rfl
      | ok r =>
        show okM ((drawnS P (hookOf S) ih ops b base (i + 1) l r.2).bind fun z => .ok (r :: z)) = (okM (drawnS P (hookOf S) ih ops b base (i + 1) l r.2)).bind fun z => some (r :: z)
        cases drawnS P (hookOf S) ih ops b base (i + 1) l r.2 <;> rfl
    rw [e]
    show Sym _ o (fun α j e k => stepK P S (ihK α j) ops b base i op x o e fun v x' o => litN ops l x' fun x' => drawnK P S (ihK α j) ops b base e (i + 1) l x' o fun z o => k ((v, x') :: z) o)
    simp only [litN_eq]
    refine Sym.bind (stepK_sym hih ops b base i op x o) (f := fun r => (okM (drawnS P (hookOf S) ih ops b base (i + 1) l r.2)).bind fun z => some (r :: z)) (G := fun r o α j e k => drawnK P S (ihK α j) ops b base e (i + 1) l r.2 o fun z o => k (r :: z) o) fun r o' => ?_
    exact Sym.bind (drawnK_sym hih ops b base l (i + 1) r.2 o') (f := fun z => some (r :: z)) (G := fun z o _ _ _ k => k (r :: z) o) fun z o' => Sym.ret rfl
theorem drawK_sym {S : SHook} {ih : Run} {ihK : RunF} (hih : RunSym ih ihK) (ops : Array Oper) (t : Fr) (s : St) (o : Obs) :
    Sym (okO (drawV P (hookOf S) ih ops t s)) o (fun α i e k => drawK P S (ihK α i) ops t s o e (fun x t s o => k (x, t, s) o)) := by
  unfold drawV drawK
  cases drawnOk ops with
  | none => exact Sym.err _
  | some b =>
    simp only [litN_eq]
    have hk := drawnK_sym (P := P) (S := S) hih ops b s.size ops.toList 0 ⟨t, ⟨s.mem, s.size + ops.size⟩, [], []⟩ o
    let tail : List (V × Sn) → Out := fun z => match orderD b ops.size (effsD P ops 0 ops.toList ⟨t, ⟨s.mem, s.size + ops.size⟩, [], []⟩ z) with
      | false => .err "drawn effects without an order"
      | true => match readsD P ops b (effsD P ops 0 ops.toList ⟨t, ⟨s.mem, s.size + ops.size⟩, [], []⟩ z) 0 ops.toList ⟨t, ⟨s.mem, s.size + ops.size⟩, [], []⟩ z with
        | false => .err "drawn a read that changes"
        | true => match z.getLast? with
          | none => .ok .normal t s
          | some r => .ok .normal r.2.t (addPend r.2.s r.2.p)
    refine Sym.of (Sym.bind hk (f := fun z => okO (tail z)) (G := fun z o α i e k => match orderD b ops.size (effsD P ops 0 ops.toList ⟨t, ⟨s.mem, s.size + ops.size⟩, [], []⟩ z) with
      | false => e "drawn effects without an order"
      | true => match z.getLast? with
        | none => k (.normal, t, s) o
        | some r => k (.normal, r.2.t, addPend r.2.s r.2.p) (readsO P ops b (effsD P ops 0 ops.toList ⟨t, ⟨s.mem, s.size + ops.size⟩, [], []⟩ z) 0 ops.toList ⟨t, ⟨s.mem, s.size + ops.size⟩, [], []⟩ z ++ o)) ?_) ?_
    · intro z o'
      show Sym (okO (match orderD b ops.size (effsD P ops 0 ops.toList ⟨t, ⟨s.mem, s.size + ops.size⟩, [], []⟩ z) with | false => _ | true => _)) o' _
      cases orderD b ops.size (effsD P ops 0 ops.toList ⟨t, ⟨s.mem, s.size + ops.size⟩, [], []⟩ z) with
      | false => exact Sym.err _
      | true =>
        simp only
        have hr := readsO_ok (P := P) ops b (effsD P ops 0 ops.toList ⟨t, ⟨s.mem, s.size + ops.size⟩, [], []⟩ z) (l := ops.toList) (i := 0) (x := ⟨t, ⟨s.mem, s.size + ops.size⟩, [], []⟩) (z := z)
        cases hg : z.getLast? with
        | some r =>
          simp only
          refine .inl ⟨(.normal, r.2.t, addPend r.2.s r.2.p), _, fun hh => ?_, fun _ _ _ _ => rfl⟩
          obtain ⟨h1, h2⟩ := Holds.app.1 hh
          exact ⟨h2, by rw [hr h1]; rfl⟩
        | none =>
          simp only
          have hz : z = [] := List.getLast?_eq_none_iff.1 hg
          subst hz
          refine .inl ⟨(.normal, t, s), _, fun hh => ⟨hh, ?_⟩, fun _ _ _ _ => rfl⟩
          have : readsD P ops b (effsD P ops 0 ops.toList ⟨t, ⟨s.mem, s.size + ops.size⟩, [], []⟩ []) 0 ops.toList ⟨t, ⟨s.mem, s.size + ops.size⟩, [], []⟩ [] = true := by
            cases ops.toList <;> (unfold readsD; rfl)
          rw [this]; rfl
    · cases drawnS P (hookOf S) ih ops b s.size 0 ops.toList ⟨t, ⟨s.mem, s.size + ops.size⟩, [], []⟩ with
      | err e => rfl
      | ok z => rfl
theorem scopeK_sym {ih : Run} {ihK : RunF} (hih : RunSym ih ihK) (body : Code) : ∀ (n : Nat) (x : Ex) (t : Fr) (s : St) (o : Obs),
    Sym (okO (scopeV body ih n (.ok x t s))) o (fun α i e k => scopeK body (ihK α i) e (fun x t s o => k (x, t, s) o) n x t s o)
  | 0, x, t, s, o => Sym.err _
  | n + 1, x, t, s, o => by
    cases x with
    | goto l =>
      unfold scopeV scopeK
      simp only
      cases findLabel body l with
      | none => exact Sym.ret rfl
      | some rest =>
        simp only
        refine Sym.of (Sym.bind (hih rest t s o) (f := fun p => okO (scopeV body ih n (.ok p.1 p.2.1 p.2.2))) (G := fun p o α i e k => scopeK body (ihK α i) e (fun x t s o => k (x, t, s) o) n p.1 p.2.1 p.2.2 o) fun p o' => scopeK_sym hih body n _ _ _ _) ?_
        cases ih rest t s with
        | err e => cases n <;> rfl
        | ok x t s => rfl
    | normal => exact Sym.ret rfl
    | exit i => exact Sym.ret rfl
    | ret => exact Sym.ret rfl
theorem stepsK_sym {S : SHook} {ih : Run} {ihK : RunF} (hih : RunSym ih ihK) (n : Nat) : RunSym (stepV P (hookOf S) n ih) (fun α i => stepsK P S n (ihK α i)) := by
  intro c t s o
  have seq : ∀ a (r2 : Fr → St → Out) (G2 : Fr → St → Obs → (α : Type) → Sp α → (String → α) → (Ex × Fr × St → Obs → α) → α), (∀ t s o, Sym (okO (r2 t s)) o (G2 t s o)) →
      Sym (okO (thenV (ih a t s) r2)) o (fun α i e k => ihK α i a t s o e fun x t s o => match x with | .normal => G2 t s o α i e k | x => k (x, t, s) o) := fun a r2 G2 h => by
    refine Sym.of (Sym.bind (hih a t s o) (f := fun p => match p.1 with | .normal => okO (r2 p.2.1 p.2.2) | x => some (x, p.2.1, p.2.2)) (G := fun p o α i e k => match p.1 with | .normal => G2 p.2.1 p.2.2 o α i e k | x => k (x, p.2.1, p.2.2) o) ?_) ?_
    · rintro ⟨x, t, s⟩ o'
      cases x with
      | normal => exact h t s o'
      | _ => exact Sym.ret rfl
    · cases ih a t s with
      | err e => rfl
      | ok x t s => cases x <;> rfl
  cases c with
  | skip => exact Sym.ret rfl
  | label l => exact Sym.ret rfl
  | seq a b => exact seq a (ih b) (fun t s o α i e k => ihK α i b t s o e (fun x t s o => k (x, t, s) o)) (fun t s o => hih b t s o)
  | loop b => exact seq b (ih (.loop b)) (fun t s o α i e k => ihK α i (.loop b) t s o e (fun x t s o => k (x, t, s) o)) (fun t s o => hih _ t s o)
  | exit i => exact Sym.ret rfl
  | goto l => exact Sym.ret rfl
  | ret => exact Sym.ret rfl
  | rangeFunc => exact Sym.err _
  | refuse => exact Sym.err _
  | cond c a b =>
    show Sym (okO (condV ih c a b t s)) o (fun α i e k => litC c t fun t => condK (ihK α i) c a b t s o e (fun x t s o => k (x, t, s) o))
    simp only [litC_eq]
    unfold condV condK
    cases ev t c with
    | err e => exact Sym.err _
    | ok v => cases v with
      | bool b' => cases b' with
        | true => exact hih _ _ _ _
        | false => exact hih _ _ _ _
      | _ => exact Sym.err _
  | block id b =>
    show Sym (okO (blockV id (ih b t s))) o (fun α i e k => ihK α i b t s o e fun x t s o => match x with
      | .exit i => match Nat.beq i id with | true => k (.normal, t, s) o | false => k (.exit i, t, s) o
      | x => k (x, t, s) o)
    refine Sym.of (Sym.bind (hih b t s o) (f := fun p => okO (blockV id (.ok p.1 p.2.1 p.2.2))) (G := fun p o α i e k => match p.1 with
      | .exit i => match Nat.beq i id with | true => k (.normal, p.2.1, p.2.2) o | false => k (.exit i, p.2.1, p.2.2) o
      | x => k (x, p.2.1, p.2.2) o) ?_) ?_
    · rintro ⟨x, t, s⟩ o'
      cases x with
      | exit i =>
        simp only [blockV]
        cases Nat.beq i id with
        | true => exact Sym.ret rfl
        | false => exact Sym.ret rfl
      | _ => exact Sym.ret rfl
    · cases ih b t s <;> rfl
  | scope b =>
    show Sym (okO (scopeV b ih n (ih b t s))) o (fun α i e k => ihK α i b t s o e fun x t s o => scopeK b (ihK α i) e (fun x t s o => k (x, t, s) o) n x t s o)
    refine Sym.of (Sym.bind (hih b t s o) (f := fun p => okO (scopeV b ih n (.ok p.1 p.2.1 p.2.2))) (G := fun p o α i e k => scopeK b (ihK α i) e (fun x t s o => k (x, t, s) o) n p.1 p.2.1 p.2.2 o) fun p o' => scopeK_sym hih b n _ _ _ _) ?_
    cases ih b t s with
    | err e => cases n <;> rfl
    | ok x t s => rfl
  | region id ops draw =>
    cases draw with
    | false => exact regionK_sym hih ops _ _ _ _
    | true => exact drawK_sym hih ops _ _ _
theorem execK_sym (S : SHook) : ∀ n, RunSym (exec P (hookOf S) n) (fun α _ => execK (α := α) P S n)
  | 0 => fun _ _ _ _ => Sym.err _
  | n + 1 => stepsK_sym (execK_sym S n) n
theorem runK_sym (S : SHook) (n : Nat) (f : FuncId) (args : List V) (s : St) : Sym (okM (call P (hookOf S) n f args s)) [] (fun _ _ e k => runK P S n f args s e (fun v s o => k (v, s) o)) :=
  callK_sym (execK_sym S n) f args s []
noncomputable section
/-- What a run comes to; what is asked of its readings, in both ways. -/
def valK (P : Program) (S : SHook) (n : Nat) (f : FuncId) (args : List V) (s : St) : Option V := runK P S n f args s (fun _ => none) fun v _ _ => some v
def askK (P : Program) (S : SHook) (n : Nat) (f : FuncId) (args : List V) (s : St) : Bool → Option (List (M V)) := runK P S n f args s (fun _ _ => none) fun _ _ o m => some (Bool.rec (motive := fun _ => List (M V)) (o.map Prod.fst) (o.map Prod.snd) m)
end
theorem holds_map : ∀ {o : Obs}, o.map Prod.fst = o.map Prod.snd → Holds o
  | [], _ => Holds.nil
  | p :: o, h => by
    simp only [List.map_cons, List.cons.injEq] at h
    exact Holds.cons.2 ⟨h.1, holds_map h.2⟩
theorem valK_ok {S : SHook} {n : Nat} {f : FuncId} {args : List V} {s : St} {v : V} (hv : valK P S n f args s = some v) (ha : askK P S n f args s false = askK P S n f args s true) :
    ∃ s', call P (hookOf S) n f args s = .ok (v, s') := by
  rcases runK_sym (P := P) S n f args s with ⟨⟨v', s'⟩, o', h1, h2⟩ | ⟨m, h2⟩
  · have e1 : valK P S n f args s = some v' := h2 (Option V) inferInstance (fun _ => none) (fun y _ => some y.1)
    have e2 : askK P S n f args s = fun m => some (Bool.rec (motive := fun _ => List (M V)) (o'.map Prod.fst) (o'.map Prod.snd) m) := h2 (Bool → Option (List (M V))) inferInstance (fun _ _ => none) (fun _ o m => some (Bool.rec (motive := fun _ => List (M V)) (o.map Prod.fst) (o.map Prod.snd) m))
    rw [hv] at e1; injection e1 with e1; subst e1
    rw [e2] at ha
    have ha : some (o'.map Prod.fst) = some (o'.map Prod.snd) := ha
    injection ha with ha
    exact ⟨s', okM_some (h1 (holds_map ha)).2⟩
  · have e1 : valK P S n f args s = none := h2 (Option V) inferInstance (fun _ => none) (fun y _ => some y.1)
    rw [hv] at e1; cases e1
end Go.Clo
/- The interpreter of closed runs, a part of it. -/
namespace Go.Clo
set_option linter.unusedSimpArgs false
set_option linter.unusedVariables false
set_option linter.unnecessarySimpa false
open Go Go.RowKit

variable {P : Program} {W0 : World}

/-- A part of the memory that was there before, to be read. -/
theorem Rel.addRo {ρ : Rho} {s : St} {w : World} (h : Rel W0 ρ s w) {l : Loc} {c : List V} (hlt : l.blk < W0.heap.size) (hb : ∀ (i : Nat) (v : V), c[i]? = some v → ∃ u, w.cell? ⟨l.blk, l.off + i, none⟩ = some u ∧ E ρ v u) :
    Rel W0 (ρ.upd s.size l) (s.alloc (.ro c)) w := by
  have hn : ρ s.size = none := h.fresh _ (Nat.le_refl _)
  have hg : s.get s.size = none := by
    cases hg : s.get s.size with
    | none => rfl
    | some y => have := (h.blk _ _ hg).1; omega
  have h1 := h.place (id := s.size) (n := s.size + 1) l hn hg (by omega) (by omega)
  refine h1.add (id := s.size) (l := l) (x := .ro c) (by show s.size < s.size + 1; omega) hg (Rho.upd_same _ _ _) hlt (Nat.lt_of_lt_of_le hlt h.below.size) ?_ ?_
  · rintro ⟨b, y, m, hb', ha, hm, hr⟩
    have hb' : s.get b = some y := hb'
    obtain ⟨h0, m', h2, hs, _⟩ := h.blk b y hb'
    rw [Rho.upd_other _ _ (by omega)] at hm
    rw [hm] at h2; injection h2 with h2; subst h2
    have := Side.le ha hs
    omega
  · exact fun i v hv => (hb i v hv).imp fun u hu => ⟨hu.1, E.mono (Rho.le_upd l hn) _ hu.2⟩
/-- A call that is known to come to v, and to leave the memory alone. -/
def Good (P : Program) (W0 : World) (f : FuncId) (args : List V) (s : St) (v : V) : Prop :=
  ∀ (ρ : Rho) (w : World) (us : List Value), Rel W0 ρ s w → EL ρ args us → Calls P f us.toArray w (Ret W0 ρ s w v s)
noncomputable section
/-- The first blocks. -/
def viewV (k : Nat) (s : St) : List (Option Blk) := Nat.rec (motive := fun _ => List (Option Blk)) [] (fun i ih => s.get i :: ih) k
def goodB (P : Program) (W0 : World) (k : Nat) (f : FuncId) (args : List V) (vw : List (Option Blk)) (v : V) : Bool := @decide (∀ s, viewV k s = vw → Good P W0 f args s v) (Classical.propDecidable _)
/-- Calls of the named functions are known, if they are good. -/
def semS (P : Program) (W0 : World) (k : Nat) (tbl : FuncId → Option (List V → List (Option Blk) → V)) : SHook := fun f args s => match tbl f with
  | some r => some (goodB P W0 k f args (viewV k s) (r args (viewV k s)), r args (viewV k s), s)
  | none => none
end
theorem goodB_true {k : Nat} {f : FuncId} {args : List V} {vw : List (Option Blk)} {v : V} (h : ∀ s, viewV k s = vw → Good P W0 f args s v) : goodB P W0 k f args vw v = true := by
  unfold goodB; exact @decide_eq_true _ (Classical.propDecidable _) h
theorem semS_ok {k : Nat} {tbl : FuncId → Option (List V → List (Option Blk) → V)} : HookOK P W0 (hookOf (semS P W0 k tbl)) := by
  intro f args s v s' h
  unfold hookOf semS at h
  cases ht : tbl f with
  | none => rw [ht] at h; cases h
  | some r =>
    rw [ht] at h
    simp only at h
    cases hc : goodB P W0 k f args (viewV k s) (r args (viewV k s)) with
    | false => rw [hc] at h; cases h
    | true =>
      rw [hc] at h
      injection h with h; injection h with h; injection h with h1 h2; subst h1; subst h2
      unfold goodB at hc
      exact @of_decide_eq_true _ (Classical.propDecidable _) hc s rfl
theorem Good.of {f : FuncId} {args : List V} {s : St} {v : V}
    (h : ∀ (ρ : Rho) (w : World) (us : List Value), Rel W0 ρ s w → EL ρ args us → ∃ u, E ρ v u ∧ Calls P f us.toArray w fun e w' => e = .returned u ∧ Below w.heap.size w w') : Good P W0 f args s v := by
  intro ρ w us hR he
  obtain ⟨u, hu, hc⟩ := h ρ w us hR he
  refine hc.mono ?_
  rintro e w' ⟨rfl, hb⟩
  exact ⟨ρ, u, rfl, Step.below hR hb, hu⟩
/-- A call that is known to come to v, and to make a new block. -/
def GoodM (P : Program) (W0 : World) (f : FuncId) (args : List V) (s : St) (v : V) (s' : St) : Prop :=
  ∀ (ρ : Rho) (w : World) (us : List Value), Rel W0 ρ s w → EL ρ args us → Calls P f us.toArray w (Ret W0 ρ s w v s')
noncomputable section
def goodM (P : Program) (W0 : World) (k : Nat) (f : FuncId) (args : List V) (vw : List (Option Blk)) (n : Nat) (v : V) (x : Blk) : Bool := @decide (∀ s, viewV k s = vw → s.size = n → GoodM P W0 f args s v (s.alloc x)) (Classical.propDecidable _)
/-- Calls of the named functions are known, if they are good; some of them make a new block. -/
def semM (P : Program) (W0 : World) (k : Nat) (tbl : FuncId → Option (List V → List (Option Blk) → V)) (tbm : FuncId → Option (List V → Nat → V × Blk)) : SHook := fun f args s => match tbm f with
  | some r => some (goodM P W0 k f args (viewV k s) s.size (r args s.size).1 (r args s.size).2, (r args s.size).1, s.alloc (r args s.size).2)
  | none => semS P W0 k tbl f args s
end
theorem goodM_true {k : Nat} {f : FuncId} {args : List V} {vw : List (Option Blk)} {n : Nat} {v : V} {x : Blk} (h : ∀ s, viewV k s = vw → s.size = n → GoodM P W0 f args s v (s.alloc x)) : goodM P W0 k f args vw n v x = true := by
  unfold goodM; exact @decide_eq_true _ (Classical.propDecidable _) h
theorem semM_ok {k : Nat} {tbl : FuncId → Option (List V → List (Option Blk) → V)} {tbm : FuncId → Option (List V → Nat → V × Blk)} : HookOK P W0 (hookOf (semM P W0 k tbl tbm)) := by
  intro f args s v s' h
  cases ht : tbm f with
  | none =>
    refine semS_ok (k := k) (tbl := tbl) f args s v s' ?_
    unfold hookOf semM at h
    rw [ht] at h
    exact h
  | some r =>
    unfold hookOf semM at h
    rw [ht] at h
    simp only at h
    cases hc : goodM P W0 k f args (viewV k s) s.size (r args s.size).1 (r args s.size).2 with
    | false => rw [hc] at h; cases h
    | true =>
      rw [hc] at h
      injection h with h; injection h with h; injection h with h1 h2; subst h1; subst h2
      unfold goodM at hc
      exact @of_decide_eq_true _ (Classical.propDecidable _) hc s rfl rfl
/-- A slice that a call has made. -/
theorem GoodM.row {f : FuncId} {args : List V} {s : St} {c : List V} {len sz : Nat} {ty : TypeId}
    (h : ∀ (ρ : Rho) (w : World) (us : List Value), Rel W0 ρ s w → EL ρ args us → Calls P f us.toArray w fun e w' => ∃ blk off cap xs ty', e = .returned (.slice (some ⟨blk, off, none⟩) len cap) ∧ w.heap.size ≤ blk ∧ w'.heap[blk]? = some (.cells (xs : List Value).toArray ty' (0, 0)) ∧
      (∀ (i : Nat) (v : V), c[i]? = some v → ∃ u, xs[off + i]? = some u ∧ E (fun _ => none) v u) ∧ off + cap * sz ≤ xs.length ∧ c.length ≤ cap * sz ∧ Below w.heap.size w w') : GoodM P W0 f args s (.sl s.size 0 len (.open_ 0)) (s.alloc (.row c ty sz false [])) := by
  intro ρ w us hR he
  refine (h ρ w us hR he).mono ?_
  rintro e w' ⟨blk, off, cap, xs, ty', rfl, h1, h2, h3, h4, h5, hb⟩
  have hlt : blk < w'.heap.size := by
    by_cases hh : blk < w'.heap.size
    · exact hh
    · rw [Array.getElem?_eq_none (by omega)] at h2; cases h2
  refine ⟨_, _, rfl, Step.made hR hb (l := ⟨blk, off, cap⟩) h1 hlt trivial ⟨xs, ty', h2, fun i v hv => ?_, h4, h5⟩, ?_⟩
  · obtain ⟨u, hu, hE⟩ := h3 i v hv
    exact ⟨u, hu, E.mono (fun b l hb => by cases hb) _ hE⟩
  · simp only [E]
    exact ⟨⟨blk, off, cap⟩, Rho.upd_same _ _ _, rfl⟩
/-- A run on what is not known is a call's contract. -/
theorem valK_calls (hmix : P.follows .mixedOrders = true) {k : Nat} {tbl : FuncId → Option (List V → List (Option Blk) → V)} {n : Nat} {f : FuncId} {args : List V} {s : St} {v : V}
    (hv : valK P (semS P W0 k tbl) n f args s = some v) (ha : askK P (semS P W0 k tbl) n f args s false = askK P (semS P W0 k tbl) n f args s true) {ρ : Rho} {w : World} (hR : Rel W0 ρ s w) {us : List Value} (he : EL ρ args us) :
    Calls P f us.toArray w fun e w' => ∃ ρ' u, e = .returned u ∧ ρ.le ρ' ∧ Below W0.heap.size W0 w' ∧ E ρ' v u := by
  obtain ⟨s', hc⟩ := valK_ok hv ha
  refine (callV_ok (runs_ok hmix semS_ok n) semS_ok hc hR he).mono ?_
  rintro e w' ⟨ρ', u, rfl, hst, hE⟩
  exact ⟨ρ', u, rfl, hst.le, hst.rel.below, hE⟩
end Go.Clo
/- The interpreter of closed runs, a part of it. -/
namespace Go.Clo
set_option linter.unusedSimpArgs false
set_option linter.unusedVariables false
set_option linter.unnecessarySimpa false
open Go Go.RowKit

variable {P : Program} {W0 : World}
noncomputable section
/-- What a run comes to, and what of the memory is asked for behind it. -/
def valG {γ : Type} (P : Program) (S : SHook) (n : Nat) (f : FuncId) (args : List V) (s : St) (g : V → St → γ) : Option γ := runK P S n f args s (fun _ => none) fun v s _ => some (g v s)
end
theorem valG_ok {γ : Type} {S : SHook} {n : Nat} {f : FuncId} {args : List V} {s : St} {g : V → St → γ} {x : γ} (hv : valG P S n f args s g = some x) (ha : askK P S n f args s false = askK P S n f args s true) :
    ∃ v s', call P (hookOf S) n f args s = .ok (v, s') ∧ g v s' = x := by
  rcases runK_sym (P := P) S n f args s with ⟨⟨v', s'⟩, o', h1, h2⟩ | ⟨m, h2⟩
  · have e1 : valG P S n f args s g = some (g v' s') := h2 (Option γ) inferInstance (fun _ => none) (fun y _ => some (g y.1 y.2))
    have e2 : askK P S n f args s = fun m => some (Bool.rec (motive := fun _ => List (M V)) (o'.map Prod.fst) (o'.map Prod.snd) m) := h2 (Bool → Option (List (M V))) inferInstance (fun _ _ => none) (fun _ o m => some (Bool.rec (motive := fun _ => List (M V)) (o.map Prod.fst) (o.map Prod.snd) m))
    rw [hv] at e1; injection e1 with e1
    rw [e2] at ha
    have ha : some (o'.map Prod.fst) = some (o'.map Prod.snd) := ha
    injection ha with ha
    exact ⟨v', s', okM_some (h1 (holds_map ha)).2, e1.symm⟩
  · have e1 : valG P S n f args s g = none := h2 (Option γ) inferInstance (fun _ => none) (fun y _ => some (g y.1 y.2))
    rw [hv] at e1; cases e1
/-- A run with what lies in its result. -/
theorem valG_step (hmix : P.follows .mixedOrders = true) {γ : Type} {k : Nat} {tbl : FuncId → Option (List V → List (Option Blk) → V)} {n : Nat} {f : FuncId} {args : List V} {s : St} {g : V → St → γ} {x : γ}
    (hv : valG P (semS P W0 k tbl) n f args s g = some x) (ha : askK P (semS P W0 k tbl) n f args s false = askK P (semS P W0 k tbl) n f args s true) {ρ : Rho} {w : World} (hR : Rel W0 ρ s w) {us : List Value} (he : EL ρ args us) :
    Calls P f us.toArray w fun e w' => ∃ ρ' v s' u, e = .returned u ∧ Step W0 ρ s w ρ' s' w' ∧ E ρ' v u ∧ g v s' = x := by
  obtain ⟨v, s', hc, hg⟩ := valG_ok hv ha
  refine (callV_ok (runs_ok hmix semS_ok n) semS_ok hc hR he).mono ?_
  rintro e w' ⟨ρ', u, rfl, hst, hE⟩
  exact ⟨ρ', v, s', u, rfl, hst, hE, hg⟩
end Go.Clo
/- The interpreter of closed runs, a part of it. -/
namespace Go.Clo
set_option linter.unusedSimpArgs false
set_option linter.unusedVariables false
set_option linter.unnecessarySimpa false
open Go Go.RowKit

variable {P : Program} {W0 : World}
noncomputable section
/-- What a piece of code comes to from slots that are given, and what is asked of its readings. -/
def codeG {γ : Type} (P : Program) (S : SHook) (n : Nat) (c : Code) (t : Fr) (s : St) (g : Ex → Fr → St → γ) : Option γ := execK P S n c t s [] (fun _ => none) fun x t s _ => some (g x t s)
def codeA (P : Program) (S : SHook) (n : Nat) (c : Code) (t : Fr) (s : St) : Bool → Option (List (M V)) := execK P S n c t s [] (fun _ _ => none) fun _ _ _ o m => some (Bool.rec (motive := fun _ => List (M V)) (o.map Prod.fst) (o.map Prod.snd) m)
end
theorem EL.some {ρ : Rho} : ∀ {l : List Value}, (∀ u ∈ l, ∃ v, E ρ v u) → ∃ vs, EL ρ vs l
  | [], _ => ⟨[], EL.nil⟩
  | u :: l, h => by
    obtain ⟨v, hv⟩ := h u (List.mem_cons_self ..)
    obtain ⟨vs, hvs⟩ := EL.some (l := l) fun x hx => h x (List.mem_cons_of_mem _ hx)
    exact ⟨v :: vs, EL.cons hv hvs⟩
/-- Some value of the interpreter stands for each value of the program. -/
theorem E.some (ρ : Rho) (u : Value) : ∃ v, E ρ v u := by
  match u with
  | .bool b => exact ⟨.bool b, by simp only [E]⟩
  | .agg us =>
    obtain ⟨vs, h⟩ := EL.some (ρ := ρ) (l := us.toList) fun x hx => E.some ρ x
    exact ⟨.agg vs, by simp only [E]; exact ⟨us.toList, by simp, h⟩⟩
  | .tuple us =>
    obtain ⟨vs, h⟩ := EL.some (ρ := ρ) (l := us.toList) fun x hx => E.some ρ x
    exact ⟨.tup vs, by simp only [E]; exact ⟨us.toList, by simp, h⟩⟩
  | .int .. | .float .. | .complex .. | .string .. | .pointer .. | .slice .. | .map .. | .chan .. | .func .. | .nilFunc | .iface .. | .nilIface => exact ⟨.any, by simp only [E]; exact ⟨fun b e => (by cases e), fun us e => (by cases e), fun us e => (by cases e)⟩⟩
  termination_by SizeOf.sizeOf u
  decreasing_by
  all_goals
    have := Array.sizeOf_lt_of_mem (Array.mem_toList_iff.1 hx)
    simp
    omega
theorem codeG_ok {γ : Type} {S : SHook} {n : Nat} {c : Code} {t : Fr} {s : St} {g : Ex → Fr → St → γ} {y : γ} (hv : codeG P S n c t s g = some y) (ha : codeA P S n c t s false = codeA P S n c t s true) :
    ∃ x t' s', exec P (hookOf S) n c t s = .ok x t' s' ∧ g x t' s' = y := by
  rcases execK_sym (P := P) S n c t s [] with ⟨⟨x, t', s'⟩, o', h1, h2⟩ | ⟨m, h2⟩
  · have e1 : codeG P S n c t s g = some (g x t' s') := h2 (Option γ) inferInstance (fun _ => none) (fun y _ => some (g y.1 y.2.1 y.2.2))
    have e2 : codeA P S n c t s = fun m => some (Bool.rec (motive := fun _ => List (M V)) (o'.map Prod.fst) (o'.map Prod.snd) m) := h2 (Bool → Option (List (M V))) inferInstance (fun _ _ => none) (fun _ o m => some (Bool.rec (motive := fun _ => List (M V)) (o.map Prod.fst) (o.map Prod.snd) m))
    rw [hv] at e1; injection e1 with e1
    rw [e2] at ha
    have ha : some (o'.map Prod.fst) = some (o'.map Prod.snd) := ha
    injection ha with ha
    exact ⟨x, t', s', okO_some (h1 (holds_map ha)).2, e1.symm⟩
  · have e1 : codeG P S n c t s g = none := h2 (Option γ) inferInstance (fun _ => none) (fun y _ => some (g y.1 y.2.1 y.2.2))
    rw [hv] at e1; cases e1
/-- A piece of code, from slots of which some are not known. -/
theorem codeG_stepH (hmix : P.follows .mixedOrders = true) {γ : Type} {S : SHook} (hS : HookOK P W0 (hookOf S)) {n : Nat} {c : Code} {t : Fr} {s : St} {g : Ex → Fr → St → γ} {y : γ}
    (hv : codeG P S n c t s g = some y) (ha : codeA P S n c t s false = codeA P S n c t s true)
    {ρ : Rho} {w : World} {a : Act} (hR : Rel W0 ρ s w) (hf : FrE ρ t a.tmps) (hd : a.defers = []) :
    c.wp P (fun e a' w' => ∃ x t' s', Post W0 ρ s w x t' s' e a' w' ∧ g x t' s' = y) a w := by
  obtain ⟨x, t', s', hc, hg⟩ := codeG_ok hv ha
  exact wp_mono (runs_ok hmix hS n c t s x t' s' hc ρ w a hR hf hd) fun e a' w' h => ⟨x, t', s', h, hg⟩
theorem codeG_step (hmix : P.follows .mixedOrders = true) {γ : Type} {k : Nat} {tbl : FuncId → Option (List V → List (Option Blk) → V)} {n : Nat} {c : Code} {t : Fr} {s : St} {g : Ex → Fr → St → γ} {y : γ}
    (hv : codeG P (semS P W0 k tbl) n c t s g = some y) (ha : codeA P (semS P W0 k tbl) n c t s false = codeA P (semS P W0 k tbl) n c t s true)
    {ρ : Rho} {w : World} {a : Act} (hR : Rel W0 ρ s w) (hf : FrE ρ t a.tmps) (hd : a.defers = []) :
    c.wp P (fun e a' w' => ∃ x t' s', Post W0 ρ s w x t' s' e a' w' ∧ g x t' s' = y) a w := codeG_stepH hmix semS_ok hv ha hR hf hd
end Go.Clo
/- The interpreter of closed runs, a part of it. -/
namespace Go.Clo
set_option linter.unusedSimpArgs false
set_option linter.unusedVariables false
set_option linter.unnecessarySimpa false
open Go Go.RowKit

variable {P : Program} {W0 : World}
noncomputable section
/-- Slots that are given one by one. -/
def trL : List V → Nat → Tr V → Tr V
  | [], _, t => t
  | v :: l, i, t => trL l (i + 1) (t.set i v)
def frL (l : List V) : Fr := ⟨trL l 0 .nil, l.length⟩
end
theorem get_trL : ∀ (l : List V) (i : Nat) (t : Tr V) (j : Nat), (trL l i t).get j = if i ≤ j ∧ j < i + l.length then l[j - i]? else t.get j
  | [], i, t, j => by
    rw [if_neg (by simp only [List.length_nil]; omega)]; rfl
  | v :: l, i, t, j => by
    show (trL l (i + 1) (t.set i v)).get j = _
    rw [get_trL l (i + 1) (t.set i v) j, Tr.get_set]
    simp only [List.length_cons]
    by_cases h1 : j = i
    · subst h1
      rw [if_neg (by omega), if_pos rfl, if_pos (by omega)]
      simp
    · by_cases h2 : i + 1 ≤ j ∧ j < i + 1 + l.length
      · rw [if_pos h2, if_pos (by omega), show j - i = (j - (i + 1)) + 1 by omega, List.getElem?_cons_succ]
      · rw [if_neg h2, if_neg h1, if_neg (by omega)]
theorem frL_ok {ρ : Rho} {l : List V} {a : Array Value} (hs : a.size = l.length) (h : ∀ i v, l[i]? = some v → E ρ v (a.getD i undef)) : FrE ρ (frL l) a := by
  refine ⟨hs, fun i => ?_⟩
  unfold Fr.get frL
  simp only [get_trL]
  by_cases hi : i < l.length
  · rw [if_pos (by omega)]
    have e : l[i - 0]? = some l[i] := by simp [hi]
    rw [e]
    exact h i _ (by simp [hi])
  · rw [if_neg (by omega)]
    have e : (Tr.nil : Tr V).get i = none := rfl
    rw [e]
    have e2 : a.getD i undef = undef := by simp [Array.getD_eq_getD_getElem?, show ¬ i < a.size by omega]
    rw [e2]
    exact E_undef
end Go.Clo
/- The interpreter of closed runs, a part of it. -/
namespace Go.Clo
set_option linter.unusedSimpArgs false
set_option linter.unusedVariables false
set_option linter.unnecessarySimpa false
open Go Go.RowKit

variable {P : Program} {W0 : World}
noncomputable section
def addB (s : St) (x : Option Blk) : St := match x with | some b => s.alloc b | none => s
def hasB (x : Option Blk) : Bool := match x with | some _ => true | none => false
/-- What a call is known to come to is right, whatever the memory, as far as it is seen. -/
def goodN (P : Program) (W0 : World) (vf : FuncId → St → List (Option Blk)) (f : FuncId) (args : List V) (vw : List (Option Blk)) (n : Nat) (v : V) (x : Option Blk) : Bool :=
  @decide (∀ s, vf f s = vw → (hasB x = true → s.size = n) → GoodM P W0 f args s v (addB s x)) (Classical.propDecidable _)
def sizeB (s : St) (x : Option Blk) : Nat := match x with | some _ => s.size | none => 0
/-- Calls of the named functions are known, if they are good. -/
def semN (P : Program) (W0 : World) (vf : FuncId → St → List (Option Blk)) (tbl : FuncId → Option (List V → Nat → V × Option Blk)) : SHook := fun f args s => match tbl f with
  | some r => some (goodN P W0 vf f args (vf f s) (sizeB s (r args s.size).2) (r args s.size).1 (r args s.size).2, (r args s.size).1, addB s (r args s.size).2)
  | none => none
end
theorem goodN_true {vf : FuncId → St → List (Option Blk)} {f : FuncId} {args : List V} {vw : List (Option Blk)} {n : Nat} {v : V} {x : Option Blk} (h : ∀ s, vf f s = vw → (hasB x = true → s.size = n) → GoodM P W0 f args s v (addB s x)) : goodN P W0 vf f args vw n v x = true := by
  unfold goodN; exact @decide_eq_true _ (Classical.propDecidable _) h
theorem semN_ok {vf : FuncId → St → List (Option Blk)} {tbl : FuncId → Option (List V → Nat → V × Option Blk)} : HookOK P W0 (hookOf (semN P W0 vf tbl)) := by
  intro f args s v s' h
  unfold hookOf semN at h
  cases ht : tbl f with
  | none => rw [ht] at h; cases h
  | some r =>
    rw [ht] at h
    simp only at h
    cases hc : goodN P W0 vf f args (vf f s) (sizeB s (r args s.size).2) (r args s.size).1 (r args s.size).2 with
    | false => rw [hc] at h; cases h
    | true =>
      rw [hc] at h
      injection h with h; injection h with h; injection h with h1 h2; subst h1; subst h2
      unfold goodN at hc
      refine @of_decide_eq_true _ (Classical.propDecidable _) hc s rfl fun hb => ?_
      unfold sizeB
      cases he : (r args s.size).2 with
      | none => rw [he] at hb; cases hb
      | some b => rfl
/-- A call that leaves the memory alone. -/
theorem GoodM.same {f : FuncId} {args : List V} {s : St} {v : V}
    (h : ∀ (ρ : Rho) (w : World) (us : List Value), Rel W0 ρ s w → EL ρ args us → ∃ u, E ρ v u ∧ Calls P f us.toArray w fun e w' => e = .returned u ∧ Below w.heap.size w w') : GoodM P W0 f args s v s := by
  intro ρ w us hR he
  obtain ⟨u, hu, hc⟩ := h ρ w us hR he
  refine hc.mono ?_
  rintro e w' ⟨rfl, hb⟩
  exact ⟨ρ, u, rfl, Step.below hR hb, hu⟩
/-- A value that holds a slice that a call has made. -/
theorem GoodM.rowIn {f : FuncId} {args : List V} {s : St} {c : List V} {len sz : Nat} {ty : TypeId} {v : V} {g : Value → Value}
    (hg : ∀ (ρ : Rho) (u : Value), E ρ (.sl s.size 0 len (.open_ 0)) u → E ρ v (g u))
    (h : ∀ (ρ : Rho) (w : World) (us : List Value), Rel W0 ρ s w → EL ρ args us → Calls P f us.toArray w fun e w' => ∃ blk off cap xs ty', e = .returned (g (.slice (some ⟨blk, off, none⟩) len cap)) ∧ w.heap.size ≤ blk ∧ w'.heap[blk]? = some (.cells (xs : List Value).toArray ty' (0, 0)) ∧
      (∀ (i : Nat) (v : V), c[i]? = some v → ∃ u, xs[off + i]? = some u ∧ E (fun _ => none) v u) ∧ off + cap * sz ≤ xs.length ∧ c.length ≤ cap * sz ∧ Below w.heap.size w w') : GoodM P W0 f args s v (s.alloc (.row c ty sz false [])) := by
  intro ρ w us hR he
  refine (h ρ w us hR he).mono ?_
  rintro e w' ⟨blk, off, cap, xs, ty', rfl, h1, h2, h3, h4, h5, hb⟩
  have hlt : blk < w'.heap.size := by
    by_cases hh : blk < w'.heap.size
    · exact hh
    · rw [Array.getElem?_eq_none (by omega)] at h2; cases h2
  refine ⟨_, _, rfl, Step.made hR hb (l := ⟨blk, off, cap⟩) h1 hlt trivial ⟨xs, ty', h2, fun i v hv => ?_, h4, h5⟩, hg _ _ ?_⟩
  · obtain ⟨u, hu, hE⟩ := h3 i v hv
    exact ⟨u, hu, E.mono (fun b l hb => by cases hb) _ hE⟩
  · simp only [E]
    exact ⟨⟨blk, off, cap⟩, Rho.upd_same _ _ _, rfl⟩
/-- A run with what lies in its result, with any known calls. -/
theorem valG_stepH (hmix : P.follows .mixedOrders = true) {γ : Type} {S : SHook} (hS : HookOK P W0 (hookOf S)) {n : Nat} {f : FuncId} {args : List V} {s : St} {g : V → St → γ} {x : γ}
    (hv : valG P S n f args s g = some x) (ha : askK P S n f args s false = askK P S n f args s true) {ρ : Rho} {w : World} (hR : Rel W0 ρ s w) {us : List Value} (he : EL ρ args us) :
    Calls P f us.toArray w fun e w' => ∃ ρ' v s' u, e = .returned u ∧ Step W0 ρ s w ρ' s' w' ∧ E ρ' v u ∧ g v s' = x := by
  obtain ⟨v, s', hc, hg⟩ := valG_ok hv ha
  refine (callV_ok (runs_ok hmix hS n) hS hc hR he).mono ?_
  rintro e w' ⟨ρ', u, rfl, hst, hE⟩
  exact ⟨ρ', v, s', u, rfl, hst, hE, hg⟩
end Go.Clo
