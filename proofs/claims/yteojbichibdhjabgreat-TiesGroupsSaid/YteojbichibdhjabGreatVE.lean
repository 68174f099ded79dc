/- The interpreter of closed runs, a part of it. -/
import Derived.Test.YteojbichibdhjabGreatVD
namespace Go.Clo
set_option linter.unusedSimpArgs false
set_option linter.unusedVariables false
set_option linter.unnecessarySimpa false
open Go Go.RowKit

variable {P : Program}

theorem equal_bool' {d : Nat} {t : TypeId} (hu : P.underlying t = some .bool) (a b : Bool) (w : World) : (Op.equalIn (d + 1) t (.bool a) (.bool b)).run P w = .ok (a == b) w := by
  simp [Op.equalIn, run_underlying hu]
theorem equal_bool {t : TypeId} (hu : P.underlying t = some .bool) (a b : Bool) (w : World) : (Op.equal t (.bool a) (.bool b)).run P w = .ok (a == b) w := equal_bool' hu a b w
theorem equal_ptr1' {d : Nat} {t e : TypeId} (hu : P.underlying t = some (.pointer e)) (b : Option Addr) (w : World) : (Op.equalIn (d + 1) t (.pointer none) (.pointer b)).run P w = .ok b.isNone w := by
  cases b <;> simp [Op.equalIn, run_underlying hu]
theorem equal_ptr1 {t e : TypeId} (hu : P.underlying t = some (.pointer e)) (b : Option Addr) (w : World) : (Op.equal t (.pointer none) (.pointer b)).run P w = .ok b.isNone w := equal_ptr1' hu b w
theorem equal_ptr2' {d : Nat} {t e : TypeId} (hu : P.underlying t = some (.pointer e)) (a : Addr) (w : World) : (Op.equalIn (d + 1) t (.pointer (some a)) (.pointer none)).run P w = .ok false w := by
  simp [Op.equalIn, run_underlying hu]
theorem equal_ptr2 {t e : TypeId} (hu : P.underlying t = some (.pointer e)) (a : Addr) (w : World) : (Op.equal t (.pointer (some a)) (.pointer none)).run P w = .ok false w := equal_ptr2' hu a w
theorem equal_sl1' {d : Nat} {t e : TypeId} (hu : P.underlying t = some (.slice e)) (b : Option Addr) (n c : Nat) (w : World) : (Op.equalIn (d + 1) t (.slice none 0 0) (.slice b n c)).run P w = .ok b.isNone w := by
  simp [Op.equalIn, run_underlying hu]
theorem equal_sl1 {t e : TypeId} (hu : P.underlying t = some (.slice e)) (b : Option Addr) (n c : Nat) (w : World) : (Op.equal t (.slice none 0 0) (.slice b n c)).run P w = .ok b.isNone w := equal_sl1' hu b n c w
theorem equal_sl2' {d : Nat} {t e : TypeId} (hu : P.underlying t = some (.slice e)) (a : Addr) (n c : Nat) (w : World) : (Op.equalIn (d + 1) t (.slice (some a) n c) (.slice none 0 0)).run P w = .ok false w := by
  simp [Op.equalIn, run_underlying hu]
theorem equal_sl2 {t e : TypeId} (hu : P.underlying t = some (.slice e)) (a : Addr) (n c : Nat) (w : World) : (Op.equal t (.slice (some a) n c) (.slice none 0 0)).run P w = .ok false w := equal_sl2' hu a n c w
theorem equal_map1' {d : Nat} {t e k : TypeId} (hu : P.underlying t = some (.map k e)) (b : Option Nat) (w : World) : (Op.equalIn (d + 1) t (.map none) (.map b)).run P w = .ok b.isNone w := by
  cases b <;> simp [Op.equalIn, run_underlying hu]
theorem equal_map1 {t e k : TypeId} (hu : P.underlying t = some (.map k e)) (b : Option Nat) (w : World) : (Op.equal t (.map none) (.map b)).run P w = .ok b.isNone w := equal_map1' hu b w
theorem equal_map2' {d : Nat} {t e k : TypeId} (hu : P.underlying t = some (.map k e)) (a : Nat) (w : World) : (Op.equalIn (d + 1) t (.map (some a)) (.map none)).run P w = .ok false w := by
  simp [Op.equalIn, run_underlying hu]
theorem equal_map2 {t e k : TypeId} (hu : P.underlying t = some (.map k e)) (a : Nat) (w : World) : (Op.equal t (.map (some a)) (.map none)).run P w = .ok false w := equal_map2' hu a w
theorem equal_fn0' {d : Nat} {t : TypeId} {x y : Array TypeId} {z : Bool} (hu : P.underlying t = some (.func x y z)) (w : World) : (Op.equalIn (d + 1) t .nilFunc .nilFunc).run P w = .ok true w := by
  simp [Op.equalIn, run_underlying hu]
theorem equal_fn0 {t : TypeId} {x y : Array TypeId} {z : Bool} (hu : P.underlying t = some (.func x y z)) (w : World) : (Op.equal t .nilFunc .nilFunc).run P w = .ok true w := equal_fn0' hu w
theorem equal_fn1' {d : Nat} {t : TypeId} {x y : Array TypeId} {z : Bool} (hu : P.underlying t = some (.func x y z)) (f : Fn) (a b : Array Value) (w : World) : (Op.equalIn (d + 1) t .nilFunc (.func f a b)).run P w = .ok false w := by
  simp [Op.equalIn, run_underlying hu]
theorem equal_fn1 {t : TypeId} {x y : Array TypeId} {z : Bool} (hu : P.underlying t = some (.func x y z)) (f : Fn) (a b : Array Value) (w : World) : (Op.equal t .nilFunc (.func f a b)).run P w = .ok false w := equal_fn1' hu f a b w
theorem equal_fn2' {d : Nat} {t : TypeId} {x y : Array TypeId} {z : Bool} (hu : P.underlying t = some (.func x y z)) (f : Fn) (a b : Array Value) (w : World) : (Op.equalIn (d + 1) t (.func f a b) .nilFunc).run P w = .ok false w := by
  simp [Op.equalIn, run_underlying hu]
theorem equal_fn2 {t : TypeId} {x y : Array TypeId} {z : Bool} (hu : P.underlying t = some (.func x y z)) (f : Fn) (a b : Array Value) (w : World) : (Op.equal t (.func f a b) .nilFunc).run P w = .ok false w := equal_fn2' hu f a b w
theorem equal_ifc1' {d : Nat} {t : TypeId} {x : Array (String × TypeId)} (hu : P.underlying t = some (.interface x)) (k : TypeId) (v : Value) (w : World) : (Op.equalIn (d + 1) t .nilIface (.iface k v)).run P w = .ok false w := by
  simp [Op.equalIn, run_underlying hu]
theorem equal_ifc1 {t : TypeId} {x : Array (String × TypeId)} (hu : P.underlying t = some (.interface x)) (k : TypeId) (v : Value) (w : World) : (Op.equal t .nilIface (.iface k v)).run P w = .ok false w := equal_ifc1' hu k v w
theorem equal_ifc2' {d : Nat} {t : TypeId} {x : Array (String × TypeId)} (hu : P.underlying t = some (.interface x)) (k : TypeId) (v : Value) (w : World) : (Op.equalIn (d + 1) t (.iface k v) .nilIface).run P w = .ok false w := by
  simp [Op.equalIn, run_underlying hu]
theorem equal_ifc2 {t : TypeId} {x : Array (String × TypeId)} (hu : P.underlying t = some (.interface x)) (k : TypeId) (v : Value) (w : World) : (Op.equal t (.iface k v) .nilIface).run P w = .ok false w := equal_ifc2' hu k v w
/-- Values that '==' takes to 'Op.equal'. -/
def plainEq : Value → Bool
  | .int .. | .float .. | .complex .. | .string _ => false
  | _ => true
theorem binOp_eql_plain (t : TypeId) (a b : Value) (h : plainEq a = true) : binOp .eql t a b = (do pure (.bool (← Op.equal t a b))) := by
  cases a <;> first | (simp [plainEq] at h; done) | (cases b <;> rfl)
theorem binOp_neq_plain (t : TypeId) (a b : Value) (h : plainEq a = true) : binOp .neq t a b = (do pure (.bool (!(← Op.equal t a b)))) := by
  cases a <;> first | (simp [plainEq] at h; done) | (cases b <;> rfl)

theorem eq_val {o : Oper} {op : BinOp} {ty ty' : TypeId} {x y : Operand} (ho : o.op = .binOp op ty x y ty') {a : Act} {ua ub : Value} (hx : a.eval x = ua) (hy : a.eval y = ub) (ht : tame ua = true ∨ tame ub = true) (hp : plainEq ua = true) {r : Bool}
    (hr : ∀ w, (Op.equal ty ua ub).run P w = .ok r w) {v : V} (h : nilF op (some r) = some v) : ∃ u, (∀ ρ, E ρ v u) ∧ ∀ w, (execOp a.eval o).run P w = .ok (.value u) w := by
  unfold nilF at h
  split at h
  · cases h
  · rename_i r' hr'
    injection hr' with hr'; subst hr'
    split at h
    · injection h with h; subst h
      refine ⟨_, fun ρ => by simp only [E]; rfl, fun w => ?_⟩
      simp only [execOp, ho]
      refine run_value ?_
      rw [hx, hy]
      simp only [Sem.run_bind, run_eqGuard_tame _ _ _ _ _ _ ht, Result.andThen_ok, binOp_eql_plain _ _ _ hp, hr, Sem.run_pure]
    · injection h with h; subst h
      refine ⟨_, fun ρ => by simp only [E]; rfl, fun w => ?_⟩
      simp only [execOp, ho]
      refine run_value ?_
      rw [hx, hy]
      simp only [Sem.run_bind, run_eqGuard_tame _ _ _ _ _ _ ht, Result.andThen_ok, binOp_neq_plain _ _ _ hp, hr, Sem.run_pure]
    · cases h
theorem tyKind_ok {t : TypeId} : match tyKind P t with
    | .bool => P.underlying t = some .bool
    | .ptr => ∃ e, P.underlying t = some (.pointer e)
    | .sl => ∃ e, P.underlying t = some (.slice e)
    | .map => ∃ k e, P.underlying t = some (.map k e)
    | .fn => ∃ x y z, P.underlying t = some (.func x y z)
    | .ifc => ∃ x, P.underlying t = some (.interface x)
    | .other => True := by
  unfold tyKind
  cases hu : P.underlying t with
  | none => trivial
  | some d => cases d <;> simp
theorem boolF_nilF {op : BinOp} {a b : Bool} {v : V} (h : boolF op (.bool a) (.bool b) = some v) : nilF op (some (a == b)) = some v := by
  unfold boolF at h; unfold nilF
  cases op <;> simp_all
theorem nilF_some {op : BinOp} {r : Option Bool} {v : V} (h : nilF op r = some v) : ∃ b, r = some b ∧ nilF op (some b) = some v := by
  cases r with
  | none => simp [nilF] at h
  | some b => exact ⟨b, rfl, h⟩
theorem gBin_ok {o : Oper} {op : BinOp} {ty ty' : TypeId} {x y : Operand} (ho : o.op = .binOp op ty x y ty') : PureOK P o (gBin P o op (tyKind P ty) x y) := by
  intro ρ t a v hf h
  unfold gBin at h
  obtain ⟨va, h1, h⟩ := M.bind_ok h
  obtain ⟨vb, h2, h⟩ := M.bind_ok h
  have e1 := ev_ok hf h1
  have e2 := ev_ok hf h2
  split at h
  · rename_i r hr
    injection h with h; subst h
    unfold binF at hr
    split at hr
    · simp only [E] at e1 e2
      obtain ⟨u, hu, hrun⟩ := intsF_ok hr ty
      refine ⟨u, hu ρ, fun w => ?_⟩
      simp only [execOp, ho]
      refine run_value ?_
      rw [e1, e2]
      simp only [Sem.run_bind, run_eqGuard_tame (P := P) op ty x y (.int _ _) (.int _ _) (Or.inl rfl) w, Result.andThen_ok, hrun, Sem.run_pure]
    · rename_i hno
      clear hno
      have hk := tyKind_ok (P := P) (t := ty)
      suffices hs : ∃ u, (∀ ρ, E ρ r u) ∧ ∀ w, (execOp a.eval o).run P w = .ok (.value u) w by
        obtain ⟨u, h3, h4⟩ := hs; exact ⟨u, h3 ρ, h4⟩
      unfold eqF at hr
      split at hr
      · rename_i hkk
        rw [hkk] at hk
        simp only at hk
        unfold boolF at hr
        split at hr
        · rename_i p q
          simp only [E] at e1 e2
          exact eq_val ho e1 e2 (Or.inl rfl) rfl (fun w => equal_bool hk p q w) (boolF_nilF (by unfold boolF; exact hr))
        · cases hr
      · rename_i hkk
        rw [hkk] at hk
        obtain ⟨e, hk⟩ := hk
        obtain ⟨b, hb, hr⟩ := nilF_some hr
        unfold ptrNil at hb
        split at hb
        · split at hb
          · injection hb with hb; subst hb; simp only [E] at e1 e2
            exact eq_val ho e1 e2 (Or.inl rfl) rfl (fun w => by rw [equal_ptr1 hk]; rfl) hr
          · injection hb with hb; subst hb; simp only [E] at e1 e2; obtain ⟨l, _, e2⟩ := e2
            exact eq_val ho e1 e2 (Or.inl rfl) rfl (fun w => by rw [equal_ptr1 hk]; rfl) hr
          · cases hb
        · split at hb
          · injection hb with hb; subst hb; simp only [E] at e1 e2; obtain ⟨l, _, e1⟩ := e1
            exact eq_val ho e1 e2 (Or.inl rfl) rfl (fun w => by rw [equal_ptr2 hk]) hr
          · cases hb
        · cases hb
      · rename_i hkk
        rw [hkk] at hk
        obtain ⟨e, hk⟩ := hk
        obtain ⟨b, hb, hr⟩ := nilF_some hr
        unfold slNil at hb
        split at hb
        · split at hb
          · injection hb with hb; subst hb; simp only [E] at e1 e2
            exact eq_val ho e1 e2 (Or.inl rfl) rfl (fun w => by rw [equal_sl1 hk]; rfl) hr
          · rename_i bb oo ll cc
            injection hb with hb; subst hb; simp only [E] at e1
            have : ∃ ad c, a.eval y = .slice (some ad) ll c := by cases cc <;> (simp only [E] at e2; obtain ⟨l, _, e2⟩ := e2; exact ⟨_, _, e2⟩)
            obtain ⟨ad, c, e2⟩ := this
            exact eq_val ho e1 e2 (Or.inl rfl) rfl (fun w => by rw [equal_sl1 hk]; rfl) hr
          · cases hb
        · rename_i bb oo ll cc
          split at hb
          · injection hb with hb; subst hb; simp only [E] at e2
            have : ∃ ad c, a.eval x = .slice (some ad) ll c := by cases cc <;> (simp only [E] at e1; obtain ⟨l, _, e1⟩ := e1; exact ⟨_, _, e1⟩)
            obtain ⟨ad, c, e1⟩ := this
            exact eq_val ho e1 e2 (Or.inl rfl) rfl (fun w => by rw [equal_sl2 hk]) hr
          · cases hb
        · cases hb
      · rename_i hkk
        rw [hkk] at hk
        obtain ⟨kk, e, hk⟩ := hk
        obtain ⟨b, hb, hr⟩ := nilF_some hr
        unfold mapNil at hb
        split at hb
        · split at hb
          · injection hb with hb; subst hb; simp only [E] at e1 e2
            exact eq_val ho e1 e2 (Or.inl rfl) rfl (fun w => by rw [equal_map1 hk]; rfl) hr
          · injection hb with hb; subst hb; simp only [E] at e1 e2; obtain ⟨l, _, e2⟩ := e2
            exact eq_val ho e1 e2 (Or.inl rfl) rfl (fun w => by rw [equal_map1 hk]; rfl) hr
          · cases hb
        · split at hb
          · injection hb with hb; subst hb; simp only [E] at e1 e2; obtain ⟨l, _, e1⟩ := e1
            exact eq_val ho e1 e2 (Or.inl rfl) rfl (fun w => by rw [equal_map2 hk]) hr
          · cases hb
        · cases hb
      · rename_i hkk
        rw [hkk] at hk
        obtain ⟨_, _, _, hk⟩ := hk
        obtain ⟨b, hb, hr⟩ := nilF_some hr
        unfold fnNil at hb
        split at hb
        · split at hb
          · injection hb with hb; subst hb; simp only [E] at e1 e2
            exact eq_val ho e1 e2 (Or.inl rfl) rfl (fun w => by rw [equal_fn0 hk]) hr
          · injection hb with hb; subst hb; simp only [E] at e1 e2; obtain ⟨l, e2, _⟩ := e2
            exact eq_val ho e1 e2 (Or.inl rfl) rfl (fun w => by rw [equal_fn1 hk]) hr
          · cases hb
        · split at hb
          · injection hb with hb; subst hb; simp only [E] at e1 e2; obtain ⟨l, e1, _⟩ := e1
            exact eq_val ho e1 e2 (Or.inl rfl) rfl (fun w => by rw [equal_fn2 hk]) hr
          · cases hb
        · cases hb
      · rename_i hkk
        rw [hkk] at hk
        obtain ⟨_, hk⟩ := hk
        obtain ⟨b, hb, hr⟩ := nilF_some hr
        unfold ifcNil at hb
        split at hb
        · split at hb
          · injection hb with hb; subst hb; simp only [E] at e1 e2; obtain ⟨l, e2, _⟩ := e2
            exact eq_val ho e1 e2 (Or.inr (by rfl)) rfl (fun w => by rw [equal_ifc1 hk]) hr
          · cases hb
        · split at hb
          · injection hb with hb; subst hb; simp only [E] at e1 e2; obtain ⟨l, e1, _⟩ := e1
            exact eq_val ho e1 e2 (Or.inl (by rfl)) rfl (fun w => by rw [equal_ifc2 hk]) hr
          · cases hb
        · cases hb
      · cases hr
  · exact pureOp_ok (by intro cs b; rw [ho]; simp) ρ t a v hf h

theorem gConv_ok {o : Oper} {src dst : TypeId} {x : Operand} (ho : o.op = .convert src dst x) {g : Fr → M V} (h : fConv P o src dst x = .pure g) : PureOK P o g := by
  unfold fConv at h
  split at h
  · rename_i k' k h1 h2
    injection h with h; subst h
    intro ρ t a v hf h
    unfold gConv at h
    obtain ⟨b, h3, h⟩ := M.bind_ok h
    have e1 := ev_ok hf h3
    split at h
    · injection h with h; subst h
      simp only [E] at e1
      refine ⟨_, by simp only [E]; rfl, fun w => ?_⟩
      simp only [execOp, ho]
      refine run_value ?_
      simp [convert, run_underlying h1, run_underlying h2, e1, Conv.intToInt, fit_eq]
    · exact pureOp_ok (by intro cs b; rw [ho]; simp) ρ t a v hf h
  · split at h <;> cases h
  · injection h with h; subst h
    exact pureOp_ok (by intro cs b; rw [ho]; simp)

/-- A call of a built-in function. -/
theorem run_builtin' {o : Oper} {b : Builtin} {args : Array Operand} {tys : Array TypeId} (ho : o.op = .call { callee := .builtin b, args, argTypes := tys }) (a : Act) :
    ∃ cs, ∀ w, (execOp a.eval o).run P w = (builtin b tys o.type cs (args.map a.eval)).run P w := by
  apply Exists.intro
  intro w
  simp only [execOp, ho, resolve, Sem.run_bind, Sem.run_pure, Result.andThen_ok, invoke]
  rfl
theorem toList_two {α : Type} {a : Array α} {x y : α} (h : a.toList = [x, y]) : a = #[x, y] := by cases a; simp_all
theorem toList_one {α : Type} {a : Array α} {x : α} (h : a.toList = [x]) : a = #[x] := by cases a; simp_all
theorem maxI_eq (k : IntKind) (a b : Int) : maxI k a b = .int k (if b > a then b else a) := by
  unfold maxI; rw [intLt_eq]
  by_cases h : a < b <;> simp [h]
theorem minI_eq (k : IntKind) (a b : Int) : minI k a b = .int k (if b < a then b else a) := by
  unfold minI; rw [intLt_eq]
  by_cases h : b < a <;> simp [h]
theorem gMax_ok {o : Oper} {most : Bool} {args : Array Operand} {tys : Array TypeId} {x y : Operand} (ho : o.op = .call { callee := .builtin (if most then .max else .min), args, argTypes := tys }) (ha : args.toList = [x, y]) : PureOK P o (gMax P o most x y) := by
  obtain rfl := toList_two ha
  intro ρ t a v hf h
  unfold gMax at h
  obtain ⟨va, h1, h⟩ := M.bind_ok h
  obtain ⟨vb, h2, h⟩ := M.bind_ok h
  have e1 := ev_ok hf h1
  have e2 := ev_ok hf h2
  split at h
  · injection h with h; subst h
    simp only [E] at e1 e2
    cases most
    · simp only [minI_eq]
      refine ⟨_, by simp only [E]; rfl, fun w => ?_⟩
      obtain ⟨cs, hcs⟩ := run_builtin' (P := P) ho a
      rw [hcs]
      simp [builtin, Builtin.min_, Builtin.min2, e1, e2]
    · simp only [maxI_eq]
      refine ⟨_, by simp only [E]; rfl, fun w => ?_⟩
      obtain ⟨cs, hcs⟩ := run_builtin' (P := P) ho a
      rw [hcs]
      simp [builtin, Builtin.max_, Builtin.max2, e1, e2]
  · exact pureOp_ok (by intro cs b; rw [ho]; simp) ρ t a v hf h
theorem fLen_pure {o : Oper} {args : Array Operand} {tys : Array TypeId} {x : Operand} (ho : o.op = .call { callee := .builtin .len, args, argTypes := tys }) (ha : args.toList = [x]) {g : Fr → M V} (h : fLen P tys.toList.head? x = .pure g) : PureOK P o g := by
  obtain rfl := toList_one ha
  have ht : tys.toList.head? = tys[0]? := by cases tys; rename_i l; cases l <;> simp
  rw [ht] at h
  unfold fLen at h
  split at h
  · cases h
  · rename_i ty hty
    split at h
    · rename_i e hu
      injection h with h; subst h
      intro ρ t a v hf h
      unfold gLenSl at h
      obtain ⟨va, h1, h⟩ := M.bind_ok h
      have e1 := ev_ok hf h1
      split at h
      · rename_i bb oo ll cc
        injection h with h; subst h
        have : ∃ ad c, a.eval x = .slice (some ad) ll c := by cases cc <;> (simp only [E] at e1; obtain ⟨l, _, e1⟩ := e1; exact ⟨_, _, e1⟩)
        obtain ⟨ad, c, e1⟩ := this
        refine ⟨_, by simp only [E]; rfl, fun w => ?_⟩
        obtain ⟨cs, hcs⟩ := run_builtin' (P := P) ho a
        rw [hcs]
        simp [builtin, Builtin.len_, hty, e1, run_underlying hu, goInt]
      · injection h with h; subst h
        simp only [E] at e1
        refine ⟨_, by simp only [E]; rfl, fun w => ?_⟩
        obtain ⟨cs, hcs⟩ := run_builtin' (P := P) ho a
        rw [hcs]
        simp [builtin, Builtin.len_, hty, e1, run_underlying hu, goInt]
      · injection h with h; subst h
        simp only [E] at e1
        obtain ⟨_, _, ad, e1, _⟩ := e1
        refine ⟨_, by simp only [E]; rfl, fun w => ?_⟩
        obtain ⟨cs, hcs⟩ := run_builtin' (P := P) ho a
        rw [hcs]
        simp [builtin, Builtin.len_, hty, e1, run_underlying hu, goInt]
      · cases h
    · rename_i hu
      injection h with h; subst h
      intro ρ t a v hf h
      unfold gLenStr at h
      obtain ⟨va, h1, h⟩ := M.bind_ok h
      have e1 := ev_ok hf h1
      split at h
      · injection h with h; subst h
        simp only [E] at e1
        refine ⟨_, by simp only [E]; rfl, fun w => ?_⟩
        obtain ⟨cs, hcs⟩ := run_builtin' (P := P) ho a
        rw [hcs]
        simp [builtin, Builtin.len_, hty, e1, run_underlying hu, goInt]
      · cases h
    · cases h
    · rename_i n e hu
      injection h with h; subst h
      intro ρ t a v hf h
      unfold gConst at h
      injection h with h; subst h
      refine ⟨_, by simp only [E]; rfl, fun w => ?_⟩
      obtain ⟨cs, hcs⟩ := run_builtin' (P := P) ho a
      rw [hcs]
      simp [builtin, Builtin.len_, hty, run_underlying hu, goInt]
    · rename_i p hu
      split at h
      · rename_i n e hu'
        injection h with h; subst h
        intro ρ t a v hf h
        unfold gConst at h
        injection h with h; subst h
        refine ⟨_, by simp only [E]; rfl, fun w => ?_⟩
        obtain ⟨cs, hcs⟩ := run_builtin' (P := P) ho a
        rw [hcs]
        simp [builtin, Builtin.len_, hty, run_underlying hu, run_underlying hu', goInt]
      · cases h
    · cases h
theorem fCap_pure {o : Oper} {args : Array Operand} {tys : Array TypeId} {x : Operand} (ho : o.op = .call { callee := .builtin .cap, args, argTypes := tys }) (ha : args.toList = [x]) {g : Fr → M V} (h : fCap P tys.toList.head? x = .pure g) : PureOK P o g := by
  obtain rfl := toList_one ha
  have ht : tys.toList.head? = tys[0]? := by cases tys; rename_i l; cases l <;> simp
  rw [ht] at h
  unfold fCap at h
  split at h
  · cases h
  · rename_i ty hty
    split at h
    · rename_i e hu
      injection h with h; subst h
      intro ρ t a v hf h
      unfold gCap at h
      obtain ⟨va, h1, h⟩ := M.bind_ok h
      have e1 := ev_ok hf h1
      split at h
      · split at h
        · injection h with h; subst h
          simp only [E] at e1; obtain ⟨l, _, e1⟩ := e1
          refine ⟨_, by simp only [E]; rfl, fun w => ?_⟩
          obtain ⟨cs, hcs⟩ := run_builtin' (P := P) ho a
          rw [hcs]
          simp [builtin, Builtin.cap_, hty, e1, run_underlying hu, goInt]
        · cases h
      · injection h with h; subst h
        simp only [E] at e1
        refine ⟨_, by simp only [E]; rfl, fun w => ?_⟩
        obtain ⟨cs, hcs⟩ := run_builtin' (P := P) ho a
        rw [hcs]
        simp [builtin, Builtin.cap_, hty, e1, run_underlying hu, goInt]
      · cases h
    · rename_i n e hu
      injection h with h; subst h
      intro ρ t a v hf h
      unfold gConst at h
      injection h with h; subst h
      refine ⟨_, by simp only [E]; rfl, fun w => ?_⟩
      obtain ⟨cs, hcs⟩ := run_builtin' (P := P) ho a
      rw [hcs]
      simp [builtin, Builtin.cap_, hty, run_underlying hu, goInt]
    · cases h
end Go.Clo
