/- Regions that draw their order: the kinds of operations, without a word of a program. -/
import Derived.Test.YthjeiaildabadaaGreatK1
import Derived.Shelf.Abstract
namespace Go.Proofs.YthjeiaildabadaaGreat
set_option linter.unusedSimpArgs false
set_option linter.unusedVariables false
open Go Go.RowKit


section
variable {P : Program} {ops : Array Oper} {C : Cl} {L : List Value} {K : Env → Prop} {o : Oper} {rest : List Oper} {E : Env} {d : Nat}
theorem chain_val (v : Value) (hr : ∀ w, C.C w → C.R w w) (hd : o.dst = some d) (hsel : ∀ cs b, o.op ≠ .select cs b) (hw : wantB ops o E L = true) (he : exB ops o E = true)
    (h : ∀ w, C.C w → (execOp (evE E L) o).run P w = .ok (.value v) w) (hk : chain P ops C L rest ((d, .ex v) :: E) K) : chain P ops C L (o :: rest) E K :=
  ⟨d, .ex v, hd, trivial, obl_ex hsel hw he fun w hC => by rw [h w hC]; exact ⟨hr w hC, rfl⟩, hk⟩
theorem chain_move (v : Value) (x : Operand) (hr : ∀ w, C.C w → C.R w w) (hd : o.dst = some d) (ho : o.op = .move x) (hw : wantB ops o E L = true) (he : exB ops o E = true)
    (h : evE E L x = v) (hk : chain P ops C L rest ((d, .ex v) :: E) K) : chain P ops C L (o :: rest) E K :=
  chain_val v hr hd (fun cs b e => by rw [ho] at e; cases e) hw he (fun w _ => by simp [execOp, ho, h]) hk
theorem chain_assign (v : Value) (x : Operand) (hr : ∀ w, C.C w → C.R w w) (hd : o.dst = some d) (ho : o.op = .assign x) (hw : wantB ops o E L = true) (he : exB ops o E = true)
    (h : evE E L x = v) (hk : chain P ops C L rest ((d, .ex v) :: E) K) : chain P ops C L (o :: rest) E K :=
  chain_val v hr hd (fun cs b e => by rw [ho] at e; cases e) hw he (fun w _ => by simp [execOp, ho, h]) hk
theorem chain_pick (v : Value) (c x y : Operand) (t : Bool) (hr : ∀ w, C.C w → C.R w w) (hd : o.dst = some d) (ho : o.op = .pick c x y) (hw : wantB ops o E L = true) (he : exB ops o E = true)
    (hc : evE E L c = .bool t) (h : (if t then evE E L x else evE E L y) = v) (hk : chain P ops C L rest ((d, .ex v) :: E) K) : chain P ops C L (o :: rest) E K :=
  chain_val v hr hd (fun cs b e => by rw [ho] at e; cases e) hw he (fun w _ => by
    subst h
    cases t <;> simp [execOp, ho, hc, asBool]) hk
theorem chain_load (v : Value) (t : TypeId) (x : Operand) (u : Value) (hr : ∀ w, C.C w → C.R w w) (hd : o.dst = some d) (ho : o.op = .load t x) (hw : wantB ops o E L = true) (he : exB ops o E = true)
    (hx : evE E L x = u) (h : ∀ w, C.C w → (Instr.loadAt t u).run P w = .ok v w) (hk : chain P ops C L rest ((d, .ex v) :: E) K) : chain P ops C L (o :: rest) E K :=
  chain_val v hr hd (fun cs b e => by rw [ho] at e; cases e) hw he (fun w hC => by simp [execOp, ho, hx, h w hC, Sem.run_bind, Result.andThen]) hk
theorem chain_bin (v : Value) (op : BinOp) (t t' : TypeId) (x y : Operand) (a b : Value) (hr : ∀ w, C.C w → C.R w w) (hd : o.dst = some d) (ho : o.op = .binOp op t x y t') (hw : wantB ops o E L = true) (he : exB ops o E = true)
    (hx : evE E L x = a) (hy : evE E L y = b) (h : ∀ w, (do eqGuard op t x y a b; binOp op t a b : Sem Value).run P w = .ok v w) (hk : chain P ops C L rest ((d, .ex v) :: E) K) : chain P ops C L (o :: rest) E K :=
  chain_val v hr hd (fun cs b e => by rw [ho] at e; cases e) hw he (fun w hC => by
    have := h w
    simp only [execOp, ho, hx, hy]
    rw [Sem.run_bind, this]; rfl) hk
theorem chain_un (v : Value) (op : UnOp) (t : TypeId) (x : Operand) (a : Value) (hr : ∀ w, C.C w → C.R w w) (hd : o.dst = some d) (ho : o.op = .unOp op t x) (hw : wantB ops o E L = true) (he : exB ops o E = true)
    (hx : evE E L x = a) (h : ∀ w, (Op.unary op a).run P w = .ok v w) (hk : chain P ops C L rest ((d, .ex v) :: E) K) : chain P ops C L (o :: rest) E K :=
  chain_val v hr hd (fun cs b e => by rw [ho] at e; cases e) hw he (fun w hC => by
    have := h w
    simp only [execOp, ho, hx]
    rw [Sem.run_bind, this]; rfl) hk
theorem run_enter {ρ : Operand → Value} {f : FuncId} {c : Call} (ho : o.op = .call c) (hc : c.callee = .value (.func f)) (hρ : ρ (.func f) = .func (.func f) #[] #[]) (hf : Enters P f) (w : World) :
    (execOp ρ o).run P w = .ok (.enter f (c.args.map ρ)) w := by
  have := hf (c.args.map ρ) w
  simp [execOp, ho, resolve, hc, hρ, Deferred.ofValue, invoke, this]
theorem chain_call (v : Value) (f : FuncId) (vs : List Value) (xs : List Operand) (c : Call) (hf : Enters P f) (hd : o.dst = some d) (ho : o.op = .call c) (hc : c.callee = .value (.func f)) (hw : wantB ops o E L = true) (he : exB ops o E = true)
    (hxs : c.args = xs.toArray) (ha : xs.map (evE E L) = vs) (h : ∀ w, C.C w → Calls P f vs.toArray w fun e w' => e = .returned v ∧ C.R w w') (hk : chain P ops C L rest ((d, .ex v) :: E) K) : chain P ops C L (o :: rest) E K :=
  ⟨d, .ex v, hd, trivial, obl_ex (fun cs b e => by rw [ho] at e; cases e) hw he fun w hC => by
    rw [run_enter ho hc rfl hf, hxs, List.map_toArray, ha]
    exact (h w hC).mono fun e w' ⟨h1, h2⟩ => ⟨v, h1, h2, rfl⟩, hk⟩
/-- A call whose result is known by a word. -/
theorem chain_call_re (q : Word) (f : FuncId) (vs : List Value) (xs : List Operand) (c : Call) (hq : lasts C q) (hf : Enters P f) (hd : o.dst = some d) (ho : o.op = .call c) (hc : c.callee = .value (.func f)) (hw : wantB ops o E L = true) (he : exB ops o E = true)
    (hxs : c.args = xs.toArray) (ha : xs.map (evE E L) = vs) (h : ∀ w, C.C w → Calls P f vs.toArray w fun e w' => ∃ u, e = .returned u ∧ C.R w w' ∧ q u w') (hk : chain P ops C L rest ((d, .re q) :: E) K) : chain P ops C L (o :: rest) E K :=
  ⟨d, .re q, hd, hq, obl_ex (fun cs b e => by rw [ho] at e; cases e) hw he fun w hC => by
    rw [run_enter ho hc rfl hf, hxs, List.map_toArray, ha]
    exact h w hC, hk⟩
/-- A call of which one argument is known by a word. -/
theorem chain_call_use (v : Value) (k : Nat) (q : Word) (f : FuncId) (vs : Value → List Value) (xs : List Operand) (c : Call) (hf : Enters P f) (hd : o.dst = some d) (ho : o.op = .call c) (hc : c.callee = .value (.func f)) (hw : wantB ops o E L = true)
    (hq : lk E k = some (.re q)) (hl : (o.looksAt ops).contains k = true) (he : ∀ x, exB ops o ((k, .ex x) :: E) = true)
    (hxs : c.args = xs.toArray) (ha : ∀ x, xs.map (evE ((k, .ex x) :: E) L) = vs x) (h : ∀ x w, C.C w → q x w → Calls P f (vs x).toArray w fun e w' => e = .returned v ∧ C.R w w') (hk : chain P ops C L rest ((d, .ex v) :: E) K) : chain P ops C L (o :: rest) E K :=
  ⟨d, .ex v, hd, trivial, obl_re k q (fun cs b e => by rw [ho] at e; cases e) hw hq hl he fun x w hC hx => by
    rw [run_enter ho hc rfl hf, hxs, List.map_toArray, ha]
    exact (h x w hC hx).mono fun e w' ⟨h1, h2⟩ => ⟨v, h1, h2, rfl⟩, hk⟩
/-- Any operation that leaves a new block and a value known by a word. -/
theorem chain_new (q : Word) (hq : lasts C q) (hd : o.dst = some d) (hsel : ∀ cs b, o.op ≠ .select cs b) (hw : wantB ops o E L = true) (he : exB ops o E = true)
    (h : ∀ w, C.C w → ∃ u w', (execOp (evE E L) o).run P w = .ok (.value u) w' ∧ C.R w w' ∧ q u w') (hk : chain P ops C L rest ((d, .re q) :: E) K) : chain P ops C L (o :: rest) E K :=
  ⟨d, .re q, hd, hq, obl_ex hsel hw he fun w hC => by obtain ⟨u, w', h1, h2, h3⟩ := h w hC; rw [h1]; exact ⟨h2, h3⟩, hk⟩

theorem wp_region_old {id : Nat} {Q : Exit → Act → World → Prop} {ds : List Deferred} {w : World} {l : List Oper} (n m : Nat) (hm : P.follows .mixedOrders = true) (hB : invB l n m = true) (hLm : L.length = m)
    (h : chain P l.toArray (clOld w.drew) L (l.take n) [] (fun E => ∀ a' w', Old w.drew w' → a'.defers = ds → a'.tmps.size = m → (∀ d, known E L d (a'.tmps.getD d undef) w') → wpList P l.toArray Q (l.drop n) a' w')) :
    (Code.region id l.toArray true).wp P Q ⟨L.toArray, ds⟩ w :=
  wp_region_inv (C := clOld w.drew) n m hm hB hLm (fun _ _ h hb => Old.step h hb) (Below.refl _ _) h
/-! ### Behind the region -/
def layE (E : Env) (L : List Value) (xs : Nat → Value) : List Value := E.foldr (fun p l => l.set p.1 (match p.2 with | .ex v => v | .re _ => xs p.1)) L
theorem slotL_set (l : List Value) (i d : Nat) (v : Value) : slotL (l.set i v) d = if d = i ∧ d < l.length then v else slotL l d := by
  rw [slotL_eq, slotL_eq, List.getElem?_set]
  by_cases h : i = d
  · subst h
    by_cases hl : i < l.length
    · simp [hl]
    · simp [hl]
  · rw [if_neg h, if_neg (fun hh => h hh.1.symm)]
theorem layE_length (L : List Value) (xs : Nat → Value) : ∀ E : Env, (layE E L xs).length = L.length
  | [] => rfl
  | p :: E => by
    show ((layE E L xs).set _ _).length = _
    rw [List.length_set]; exact layE_length L xs E
theorem layE_slot (L : List Value) (xs : Nat → Value) (d : Nat) (hd : d < L.length) : ∀ E : Env, slotL (layE E L xs) d = match lk E d with
    | some (.ex v) => v
    | some (.re _) => xs d
    | none => slotL L d
  | [] => rfl
  | p :: E => by
    show slotL ((layE E L xs).set _ _) d = _
    obtain ⟨e, x⟩ := p
    rw [slotL_set, lk_cons, layE_length]
    by_cases h : d = e
    · subst h; rw [if_pos ⟨rfl, hd⟩, if_pos rfl]; cases x <;> rfl
    · rw [if_neg (fun hh => h hh.1), if_neg h]; exact layE_slot L xs d hd E
theorem chain_end {Q : Exit → Act → World → Prop} {tail : List Oper} {ds : List Deferred} {m : Nat} (hL : L.length = m)
    (h : ∀ (xs : Nat → Value) w', C.C w' → (∀ d q, lk E d = some (.re q) → q (xs d) w') → wpList P ops Q tail ⟨(layE E L xs).toArray, ds⟩ w') :
    chain P ops C L [] E (fun E => ∀ a' w', C.C w' → a'.defers = ds → a'.tmps.size = m → (∀ d, known E L d (a'.tmps.getD d undef) w') → wpList P ops Q tail a' w') := by
  intro a' w' hC hds hsz hk
  have e : a' = ⟨(layE E L fun d => a'.tmps.getD d undef).toArray, ds⟩ := by
    obtain ⟨tm, df⟩ := a'
    subst hds
    simp only [Act.mk.injEq, and_true]
    apply Array.ext_getElem?
    intro d
    by_cases hd : d < m
    · have h1 := layE_slot L (fun d => tm.getD d undef) d (by omega) E
      have h2 := hk d
      have hd' : d < (layE E L fun d => tm.getD d undef).length := by rw [layE_length]; omega
      have hd3 : d < tm.size := by have : tm.size = m := hsz; omega
      have g1 : tm[d]? = some (tm.getD d undef) := by simp [hd3]
      have g2 : ∀ l : List Value, d < l.length → l[d]? = some (slotL l d) := fun l hl => by rw [slotL_eq]; simp [hl]
      rw [g1, List.getElem?_toArray, g2 _ hd', h1]
      congr 1
      unfold known at h2
      revert h2
      cases lk E d with
      | none => exact fun h => h
      | some y => cases y with
        | ex v => exact fun h => h
        | re q => exact fun _ => rfl
    · have : tm.size = m := hsz
      rw [Array.getElem?_eq_none (xs := tm) (by omega), List.getElem?_toArray, List.getElem?_eq_none (by rw [layE_length]; omega)]
  rw [e]
  refine h _ _ hC fun d q hq => ?_
  have := hk d
  unfold known at this
  rw [hq] at this
  exact this
end



/-- It is not wanted, as far as is known. -/
def skipB (ops : Array Oper) (o : Oper) (E : Env) : Bool :=
  match o.guard with
  | none => false
  | some (g, want) => match (ops[g]?).bind (·.dst) with
    | some d => (match lk E d with
      | some (.ex (.bool b)) => b != want
      | some (.ex (.tuple _)) => false
      | _ => false)
    | none => false
theorem unwanted_of {ops : Array Oper} {o : Oper} {E : Env} {L : List Value} {a : Act} {w : World} (hw : skipB ops o E = true) (hk : ∀ d ∈ o.looksAt ops, known E L d (a.tmps.getD d undef) w) : Region.wanted o (yielded ops a.tmps) ≠ true := by
  unfold skipB at hw
  unfold Region.wanted
  cases hg : o.guard with
  | none => rw [hg] at hw; cases hw
  | some gw =>
    obtain ⟨g, want⟩ := gw
    rw [hg] at hw
    simp only at hw
    split at hw
    · rename_i d hd
      have hk1 := hk d (List.mem_append_right _ (by rw [hg]; simp [hd]))
      unfold known at hk1
      split at hw
      · rename_i b hb
        rw [hb] at hk1
        have := yielded_of (ops := ops) hd hk1
        simp only [this]
        revert hw
        cases b <;> cases want <;> simp
      · cases hw
      · cases hw
    · cases hw
theorem chain_skip {P : Program} {ops : Array Oper} {C : Cl} {L : List Value} {K : Env → Prop} {o : Oper} {rest : List Oper} {E : Env} {d : Nat} (hd : o.dst = some d) (hw : skipB ops o E = true)
    (hk : chain P ops C L rest ((d, .ex undef) :: E) K) : chain P ops C L (o :: rest) E K :=
  ⟨d, .ex undef, hd, trivial, fun a w hc hk => by
    unfold stepAt
    rw [if_neg (unwanted_of hw hk)]
    rfl, hk⟩


def skipU (ops : Array Oper) (o : Oper) (E : Env) : Bool :=
  match o.guard with
  | none => false
  | some (g, _) => match (ops[g]?).bind (·.dst) with
    | some d => (match lk E d with
      | some (.ex (.tuple _)) => true
      | _ => false)
    | none => false
theorem yielded_no {ops : Array Oper} {tmps : Array Value} {g d : Nat} {a : Array Value} (hg : (ops[g]?).bind (·.dst) = some d) (h : tmps.getD d undef = .tuple a) : yielded ops tmps g = none := by
  unfold yielded
  rw [hg]
  rw [Array.getD_eq_getD_getElem?] at h
  simp only [Option.bind_some]
  cases hx : tmps[d]? with
  | none => rfl
  | some v => rw [hx] at h; obtain rfl : v = .tuple a := h; rfl
theorem unwanted_ofU {ops : Array Oper} {o : Oper} {E : Env} {L : List Value} {a : Act} {w : World} (hw : skipU ops o E = true) (hk : ∀ d ∈ o.looksAt ops, known E L d (a.tmps.getD d undef) w) : Region.wanted o (yielded ops a.tmps) ≠ true := by
  unfold skipU at hw
  unfold Region.wanted
  cases hg : o.guard with
  | none => rw [hg] at hw; cases hw
  | some gw =>
    obtain ⟨g, want⟩ := gw
    rw [hg] at hw
    simp only at hw
    split at hw
    · rename_i d hd
      have hk1 := hk d (List.mem_append_right _ (by rw [hg]; simp [hd]))
      unfold known at hk1
      split at hw
      · rename_i b hb
        rw [hb] at hk1
        have := yielded_no (ops := ops) hd hk1
        simp only [this]
        simp
      · cases hw
    · cases hw
theorem chain_skipU {P : Program} {ops : Array Oper} {C : Cl} {L : List Value} {K : Env → Prop} {o : Oper} {rest : List Oper} {E : Env} {d : Nat} (hd : o.dst = some d) (hw : skipU ops o E = true)
    (hk : chain P ops C L rest ((d, .ex undef) :: E) K) : chain P ops C L (o :: rest) E K :=
  ⟨d, .ex undef, hd, trivial, fun a w hc hk => by
    unfold stepAt
    rw [if_neg (unwanted_ofU hw hk)]
    rfl, hk⟩

section
variable {P : Program} {ops : Array Oper} {C : Cl} {L : List Value} {K : Env → Prop} {o : Oper} {rest : List Oper} {E : Env} {d : Nat}
theorem ev_top (k : Nat) (x : Value) (E : Env) (L : List Value) : evE ((k, .ex x) :: E) L (.tmp k) = x := by
  simp [evE, lk_cons]
theorem chain_move_re (k : Nat) (q : Word) (hlq : lasts C q) (hr : ∀ w, C.C w → C.R w w) (hd : o.dst = some d) (ho : o.op = .move (.tmp k)) (hw : wantB ops o E L = true)
    (hq : lk E k = some (.re q)) (hl : (o.looksAt ops).contains k = true) (he : ∀ x, exB ops o ((k, .ex x) :: E) = true) (hk : chain P ops C L rest ((d, .re q) :: E) K) : chain P ops C L (o :: rest) E K :=
  ⟨d, .re q, hd, hlq, obl_re k q (fun cs b e => by rw [ho] at e; cases e) hw hq hl he fun x w hC hx => by
    have : (execOp (evE ((k, .ex x) :: E) L) o).run P w = .ok (.value x) w := by simp [execOp, ho, ev_top]
    rw [this]; exact ⟨hr w hC, hx⟩, hk⟩
theorem chain_assign_re (k : Nat) (q : Word) (hlq : lasts C q) (hr : ∀ w, C.C w → C.R w w) (hd : o.dst = some d) (ho : o.op = .assign (.tmp k)) (hw : wantB ops o E L = true)
    (hq : lk E k = some (.re q)) (hl : (o.looksAt ops).contains k = true) (he : ∀ x, exB ops o ((k, .ex x) :: E) = true) (hk : chain P ops C L rest ((d, .re q) :: E) K) : chain P ops C L (o :: rest) E K :=
  ⟨d, .re q, hd, hlq, obl_re k q (fun cs b e => by rw [ho] at e; cases e) hw hq hl he fun x w hC hx => by
    have : (execOp (evE ((k, .ex x) :: E) L) o).run P w = .ok (.value x) w := by simp [execOp, ho, ev_top]
    rw [this]; exact ⟨hr w hC, hx⟩, hk⟩
theorem chain_ext_re (q2 : Word) (k i : Nat) (q : Word) (hlq : lasts C q2) (hr : ∀ w, C.C w → C.R w w) (hd : o.dst = some d) (ho : o.op = .extract (.tmp k) i) (hw : wantB ops o E L = true)
    (hq : lk E k = some (.re q)) (hl : (o.looksAt ops).contains k = true) (he : ∀ x, exB ops o ((k, .ex x) :: E) = true) (h : ∀ x w, q x w → ∃ vs u, x = .tuple vs ∧ vs[i]? = some u ∧ q2 u w) (hk : chain P ops C L rest ((d, .re q2) :: E) K) : chain P ops C L (o :: rest) E K :=
  ⟨d, .re q2, hd, hlq, obl_re k q (fun cs b e => by rw [ho] at e; cases e) hw hq hl he fun x w hC hx => by
    obtain ⟨vs, u, rfl, h1, h2⟩ := h x w hx
    have : (execOp (evE ((k, .ex (.tuple vs)) :: E) L) o).run P w = .ok (.value u) w := by
      simp only [execOp, ho, ev_top]
      simp [go_sem, Instr.extract, h1]
    rw [this]; exact ⟨hr w hC, h2⟩, hk⟩
theorem chain_ext_ex (v : Value) (k i : Nat) (q : Word) (hr : ∀ w, C.C w → C.R w w) (hd : o.dst = some d) (ho : o.op = .extract (.tmp k) i) (hw : wantB ops o E L = true)
    (hq : lk E k = some (.re q)) (hl : (o.looksAt ops).contains k = true) (he : ∀ x, exB ops o ((k, .ex x) :: E) = true) (h : ∀ x w, q x w → ∃ vs, x = .tuple vs ∧ vs[i]? = some v) (hk : chain P ops C L rest ((d, .ex v) :: E) K) : chain P ops C L (o :: rest) E K :=
  ⟨d, .ex v, hd, trivial, obl_re k q (fun cs b e => by rw [ho] at e; cases e) hw hq hl he fun x w hC hx => by
    obtain ⟨vs, rfl, h1⟩ := h x w hx
    have : (execOp (evE ((k, .ex (.tuple vs)) :: E) L) o).run P w = .ok (.value v) w := by
      simp only [execOp, ho, ev_top]
      simp [go_sem, Instr.extract, h1]
    rw [this]; exact ⟨hr w hC, rfl⟩, hk⟩
end

section
variable {P : Program} {ops : Array Oper} {C : Cl} {L : List Value} {K : Env → Prop} {o : Oper} {rest : List Oper} {E : Env} {d : Nat}
theorem chain_idx (v : Value) (t : TypeId) (x y : Operand) (a b : Value) (hr : ∀ w, C.C w → C.R w w) (hd : o.dst = some d) (ho : o.op = .indexAddr t x y) (hw : wantB ops o E L = true) (he : exB ops o E = true)
    (hx : evE E L x = a) (hy : evE E L y = b) (h : ∀ w, (Instr.indexAt t a b).run P w = .ok v w) (hk : chain P ops C L rest ((d, .ex v) :: E) K) : chain P ops C L (o :: rest) E K :=
  chain_val v hr hd (fun cs b e => by rw [ho] at e; cases e) hw he (fun w hC => by
    have := h w
    simp only [execOp, ho, hx, hy]
    rw [Sem.run_bind, this]; rfl) hk
theorem chain_ext (v : Value) (x : Operand) (i : Nat) (vs : Array Value) (hr : ∀ w, C.C w → C.R w w) (hd : o.dst = some d) (ho : o.op = .extract x i) (hw : wantB ops o E L = true) (he : exB ops o E = true)
    (hx : evE E L x = .tuple vs) (hv : vs[i]? = some v) (hk : chain P ops C L rest ((d, .ex v) :: E) K) : chain P ops C L (o :: rest) E K :=
  chain_val v hr hd (fun cs b e => by rw [ho] at e; cases e) hw he (fun w hC => by
    simp only [execOp, ho, hx]
    simp [go_sem, Instr.extract, hv]) hk
theorem chain_len (v : Value) (c : Call) (x : Operand) (a : Value) (t : TypeId) (hr : ∀ w, C.C w → C.R w w) (hd : o.dst = some d) (ho : o.op = .call c) (hc : c.callee = .builtin .len) (hxs : c.args = #[x]) (ht : c.argTypes = #[t]) (hw : wantB ops o E L = true) (he : exB ops o E = true)
    (hx : evE E L x = a) (h : ∀ (ty : TypeId) (cs : Array Bool) w, (builtin .len #[t] ty cs #[a]).run P w = .ok (.value v) w) (hk : chain P ops C L rest ((d, .ex v) :: E) K) : chain P ops C L (o :: rest) E K :=
  chain_val v hr hd (fun cs b e => by rw [ho] at e; cases e) hw he (fun w hC => by
    simp [execOp, ho, resolve, hc, hxs, ht, invoke, hx, h]) hk
end
section
variable {P : Program} {ops : Array Oper} {C : Cl} {L : List Value} {K : Env → Prop} {o : Oper} {rest : List Oper} {E : Env} {d : Nat}
/-- A value that comes of one known by a word. -/
theorem chain_use (v : Value) (k : Nat) (q : Word) (hr : ∀ w, C.C w → C.R w w) (hd : o.dst = some d) (hsel : ∀ cs b, o.op ≠ .select cs b) (hw : wantB ops o E L = true)
    (hq : lk E k = some (.re q)) (hl : (o.looksAt ops).contains k = true) (he : ∀ x, exB ops o ((k, .ex x) :: E) = true) (h : ∀ x w, q x w → (execOp (evE ((k, .ex x) :: E) L) o).run P w = .ok (.value v) w) (hk : chain P ops C L rest ((d, .ex v) :: E) K) : chain P ops C L (o :: rest) E K :=
  ⟨d, .ex v, hd, trivial, obl_re k q hsel hw hq hl he fun x w hC hx => by
    rw [h x w hx]; exact ⟨hr w hC, rfl⟩, hk⟩
end
theorem old_end {B : Nat} {w w2 w1 : World} (hW : Below B w w2) (h : (clOld w2.drew).C w1) (hB : B ≤ w2.heap.size) : Below B w w1 := hW.drew.trans (Below.mono (show Below w2.drew.heap.size w2.drew w1 from h) hB)
/-- A world's name, with what is known of it. -/
theorem named {p : World → Prop} {W : World} (C : World → Prop) (hC : C W) (h : ∀ V, C V → p V) : p W := h W hC
end Go.Proofs.YthjeiaildabadaaGreat
