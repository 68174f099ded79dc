/- The interpreter of closed runs, a part of it. -/
import Derived.Test.YthjeiaildabadaaGreatKVA
import Derived.Laws.MakeOwn
import Derived.LoopN
import Derived.Scope
import Derived.RangeFuncIn
import Derived.RangeFuncNested
import Derived.RangeFuncLeaves
import Derived.OrdersIn
import Derived.LoopNIn
/- The interpreter of closed runs, a part of it. -/
namespace Go.Clo
set_option linter.unusedSimpArgs false
set_option linter.unusedVariables false
set_option linter.unnecessarySimpa false
open Go Go.RowKit

variable {P : Program}

/-- An operation that makes a block and no more. -/
def FloatOK (P : Program) (o : Oper) (f : Fr → Nat → M (V × Blk)) : Prop :=
  ∀ (ρ : Rho) (t : Fr) (a : Act) (id : Nat) (v : V) (x : Blk), FrE ρ t a.tmps → f t id = .ok (v, x) → x.alive ∧ ∀ w : World, ∃ (u : Value) (obj : Obj), (execOp a.eval o).run P w = .ok (.value u) (w.alloc obj) ∧
    ∀ ρ' : Rho, ρ.le ρ' → ρ' id = some ⟨w.heap.size, 0, 0⟩ → E ρ' v u ∧ BOK ρ' (w.alloc obj) ⟨w.heap.size, 0, 0⟩ x
theorem BOK_new {ρ : Rho} {w : World} {c : List V} {ty : TypeId} {us : List Value} (h : EL ρ c us) : BOK ρ (w.alloc (.cells us.toArray ty)) ⟨w.heap.size, 0, 0⟩ (.cells c ty) :=
  ⟨rfl, us, heap_alloc_new w _, h⟩
theorem gAlloc_ok {o : Oper} {ty : TypeId} (ho : o.op = .alloc ty) {g : Fr → Nat → M (V × Blk)} (h : fAlloc P ty = .float g) : FloatOK P o g := by
  unfold fAlloc at h
  split at h
  · obtain ⟨z, hz, h⟩ := orBad_float h
    injection h with h; subst h
    obtain ⟨zu, hzo, hzr⟩ := run_zeroT hz
    intro ρ t a id v x hf h
    unfold gAlloc at h
    injection h with h
    simp only [Prod.mk.injEq] at h
    obtain ⟨rfl, rfl⟩ := h
    refine ⟨trivial, fun w => ⟨.pointer (some ⟨w.heap.size, 0, none⟩), .cells zu.cells ty, ?_, fun ρ' hle hid => ⟨?_, ?_⟩⟩⟩
    · simp only [execOp, ho]
      refine run_value ?_
      simp [Instr.alloc, hzr, newVar, newRow]
    · simp only [E]; exact ⟨_, hid, by simp⟩
    · exact BOK_new (us := zu.cells.toList) (E_cells (told_of hzo) (ofVal_ok hzo))
  · cases h
theorem gBox_ok {o : Oper} {ty : TypeId} {y : Operand} (ho : o.op = .box ty y) : FloatOK P o (gBox ty y) := by
  intro ρ t a id v x hf h
  unfold gBox at h
  obtain ⟨v0, h1, h⟩ := M.bind_ok h
  obtain ⟨htold, h⟩ := ask_ok h
  injection h with h
  simp only [Prod.mk.injEq] at h
  obtain ⟨rfl, rfl⟩ := h
  have e1 := ev_ok hf h1
  refine ⟨trivial, fun w => ⟨.pointer (some ⟨w.heap.size, 0, none⟩), .cells (a.eval y).cells ty, ?_, fun ρ' hle hid => ⟨?_, ?_⟩⟩⟩
  · simp only [execOp, ho]
    refine run_value ?_
    simp [Instr.box, newVar, newRow]
  · simp only [E]; exact ⟨_, hid, by simp⟩
  · exact BOK_new (us := (a.eval y).cells.toList) (E_cells htold (e1.mono hle))
theorem repl_succ (n : Nat) (z : List V) : repl (n + 1) z = z ++ repl n z := by
  show appN z (repl n z) = _; rw [appN_eq]
theorem repl_len (n : Nat) (z : List V) : (repl n z).length = n * z.length := by
  induction n with
  | zero => show ([] : List V).length = _; simp
  | succ n ih => rw [repl_succ, List.length_append, ih, Nat.add_mul]; omega
theorem repl_at (z : List V) (hz : 0 < z.length) : ∀ (n i : Nat), i < n * z.length → (repl n z)[i]? = z[i % z.length]?
  | 0, i, h => by omega
  | n + 1, i, h => by
    rw [repl_succ, List.getElem?_append]
    split
    · rename_i hi; rw [Nat.mod_eq_of_lt hi]
    · rename_i hi
      have h' : i < n * z.length + z.length := by rw [Nat.add_mul] at h; omega
      rw [repl_at z hz n (i - z.length) (by omega)]
      conv => rhs; rw [Nat.mod_eq_sub_mod (by omega : i ≥ z.length)]
theorem zeroCells_ok {ty : TypeId} {n : Nat} {z : List V} (h : zeroCells P ty n = some z) : ∃ i u, P.info? ty = some i ∧ i.zero = some u ∧ z.length = n ∧ (∀ ρ, EL ρ z u.cells.toList) := by
  unfold zeroCells at h
  split at h
  · rename_i zz hz
    split at h
    · rename_i hl
      injection h with h; subst h
      obtain ⟨i, u, h1, h2, h3⟩ := zeroT_ok hz
      exact ⟨i, u, h1, h2, by rw [← lenN_eq]; exact beq_eq hl, fun ρ => E_cells (told_of h3) (ofVal_ok h3)⟩
    · cases h
  · cases h
theorem EL_made {ρ : Rho} {z : List V} {u : Array Value} (h : EL ρ z u.toList) (hz : 0 < z.length) (n : Nat) : EL ρ (repl n z) (((Array.range (n * z.length)).map (u[· % u.size]!)).toList) := by
  have hl := h.len
  have hsz : u.size = z.length := by simpa using hl
  refine EL.of_at (by simp [repl_len]) fun i v hi => ?_
  have hlt : i < n * z.length := by
    rw [← repl_len]; exact (List.getElem?_eq_some_iff.1 hi).1
  rw [repl_at z hz n i hlt] at hi
  obtain ⟨y, hy, he⟩ := h.at hi
  refine ⟨y, ?_, he⟩
  have hm : i % z.length < u.size := by rw [hsz]; exact Nat.mod_lt _ hz
  simp [hlt, hsz]
  have : u[i % z.length]? = some y := by simpa using hy
  rw [getElem!_pos u _ hm]
  rw [Array.getElem?_eq_getElem hm] at this
  injection this
theorem isSlice_float {ty : TypeId} {e : String} {f : OpF} {g : Fr → Nat → M (V × Blk)} (h : isSlice P ty e f = .float g) : (∃ el, P.underlying ty = some (.slice el)) ∧ f = .float g := by
  unfold isSlice at h
  split at h
  · rename_i el hu; exact ⟨⟨el, hu⟩, h⟩
  · cases h
theorem isSlice_eff {ty : TypeId} {e : String} {f : OpF} {g : Fr → St → M (V × St)} (h : isSlice P ty e f = .eff g) : (∃ el, P.underlying ty = some (.slice el)) ∧ f = .eff g := by
  unfold isSlice at h
  split at h
  · rename_i el hu; exact ⟨⟨el, hu⟩, h⟩
  · cases h
theorem elem_slice {ty el e : TypeId} {n : Nat} (h : elemT P ty = some (e, n)) (hu : P.underlying ty = some (.slice el)) : el = e := by
  obtain ⟨_, _, hc⟩ := elemT_ok h
  rcases hc with hc | ⟨m, hc⟩
  · rw [hu] at hc; injection hc with hc; injection hc
  · rw [hu] at hc; injection hc with hc; cases hc
theorem gLit_ok {o : Oper} {ty : TypeId} {len : Nat} {parts : Array (Nat × Operand)} (ho : o.op = .buildSlice ty len parts) {g : Fr → Nat → M (V × Blk)} (h : fLit P ty len parts.toList = .float g) : FloatOK P o g := by
  obtain ⟨⟨el, n⟩, hen, h⟩ := orBad_float h
  obtain ⟨hn, hs, _⟩ := elemT_ok hen
  split at h
  · rename_i hle
    have hle := ble_le hle
    obtain ⟨z, hz, h⟩ := orBad_float h
    obtain ⟨⟨el', hu⟩, h⟩ := isSlice_float h
    obtain rfl := elem_slice hen hu
    injection h with h; subst h
    obtain ⟨i, zu, hi, hzi, hzl, hzE⟩ := zeroCells_ok hz
    simp only at hzl hle
    intro ρ t a id v x hf h
    unfold gLit at h
    obtain ⟨ps, h1, h⟩ := M.bind_ok h
    obtain ⟨cs, h2, h⟩ := M.bind_ok h
    injection h with h
    simp only [Prod.mk.injEq] at h
    obtain ⟨rfl, rfl⟩ := h
    obtain ⟨e1, e2⟩ := pairs_ok hf h1
    have hmade := EL_made (hzE ρ) (by omega) len
    rw [hzl] at hmade
    obtain ⟨rs, hr, he⟩ := fillV_ok (ρ := ρ) (placeMul n) (us := (parts.map fun (p : Nat × Operand) => (p.1, a.eval p.2)).toList) (cs := (Array.range (len * n)).map (zu.cells[· % zu.cells.size]!)) h2 (by rw [e1]; simp [Function.comp_def]) (by simpa [Function.comp_def] using e2) hmade
    refine ⟨trivial, fun w => ⟨.slice (some ⟨w.heap.size, 0, none⟩) len len, .cells rs el', ?_, fun ρ' hle' hid => ⟨?_, ?_⟩⟩⟩
    · simp only [execOp, ho]
      refine run_value ?_
      have hbig : ¬ (len * n > 2 ^ 24) := by omega
      have hzr : ∀ w, (zeroValue el').run P w = .ok zu w := fun w => by simp [zeroValue, typeInfo, hi, hzi]
      have hr' : Instr.fill (fun i => some (i * n, n)) ((Array.range (len * n)).map (zu.cells[· % zu.cells.size]!)) (parts.map fun (p : Nat × Operand) => (p.1, a.eval p.2)).toList = some rs := hr
      by_cases h0 : len * n = 0
      · have hrs : (Array.range (len * n)).map (zu.cells[· % zu.cells.size]!) = (Array.range (len * n)).map ((#[] : Array Value)[· % (#[] : Array Value).size]!) := by rw [h0, Array.range_zero']; apply Array.ext'; simp
        rw [hrs] at hr'
        simp only [Instr.buildSlice, Sem.run_bind, run_underlying hu, Result.andThen_ok, run_sizeT hs, if_neg hbig, if_pos h0, Sem.run_pure, newRow, run_newObj, hr', World.alloc_eq]
      · simp only [Instr.buildSlice, Sem.run_bind, run_underlying hu, Result.andThen_ok, run_sizeT hs, if_neg hbig, if_neg h0, Sem.run_pure, hzr, newRow, run_newObj, hr', World.alloc_eq]
    · simp only [E]; exact ⟨_, hid, by simp⟩
    · exact BOK_new (us := rs.toList) (he.mono hle')
  · cases h
theorem gMake_ok {o : Oper} {ty : TypeId} {y z' : Operand} (ho : o.op = .makeSlice ty y z') {g : Fr → Nat → M (V × Blk)} (h : fMake P ty y z' = .float g) : FloatOK P o g := by
  obtain ⟨⟨el, n⟩, hen, h⟩ := orBad_float h
  obtain ⟨hn, hs, _⟩ := elemT_ok hen
  obtain ⟨z, hz, h⟩ := orBad_float h
  obtain ⟨by_, hby, h⟩ := orBad_float h
  obtain ⟨⟨el', hu⟩, h⟩ := isSlice_float h
  obtain rfl := elem_slice hen hu
  injection h with h; subst h
  obtain ⟨i, zu, hi, hzi, hzl, hzE⟩ := zeroCells_ok hz
  simp only at hzl
  have hib : i.bytes = by_ := by unfold bytesT at hby; rw [hi] at hby; injection hby
  have hisz : i.size = n := by obtain ⟨i', h1, h2⟩ := sizeT_ok hs; rw [hi] at h1; injection h1 with h1; rw [h1]; exact h2
  intro ρ t a id v x hf h
  unfold gMake at h
  obtain ⟨l0, h1, h⟩ := M.bind_ok h
  obtain ⟨l, h2, h⟩ := M.bind_ok h
  obtain ⟨c0, h3, h⟩ := M.bind_ok h
  obtain ⟨c, h4, h⟩ := M.bind_ok h
  obtain ⟨h5, h⟩ := ask_ok h
  injection h with h
  simp only [Prod.mk.injEq] at h
  obtain ⟨rfl, rfl⟩ := h
  obtain ⟨g1, g2, g3⟩ := and3 h5
  have g1 := ble_le g1
  have g2 := ble_le g2
  have g3 := ble_le g3
  obtain ⟨kl, hkl⟩ := natI_ok h2 (ev_ok hf h1)
  obtain ⟨kc, hkc⟩ := natI_ok h4 (ev_ok hf h3)
  have hmade := EL_made (hzE ρ) (by omega) c
  rw [hzl] at hmade
  refine ⟨trivial, fun w => ⟨.slice (some ⟨w.heap.size, 0, none⟩) l c, .cells (madeCells zu.cells (c * n)) el', ?_, fun ρ' hle' hid => ⟨?_, ?_⟩⟩⟩
  · simp only [execOp, ho]
    refine run_value ?_
    rw [hkl, hkc]
    have hb : (i.bytes : Int) * (c : Int) ≤ 281474976710656 := by
      rw [hib, ← Int.natCast_mul]
      have h2 : ((by_ * c : Nat) : Int) ≤ ((1073741824 : Nat) : Int) := Int.ofNat_le.2 g2
      exact Int.le_trans h2 (by decide)
    have hc63 : (c : Int) ≤ 9223372036854775807 := by omega
    have hlc : (l : Int) ≤ (c : Int) := by omega
    have hl0 : (0 : Int) ≤ l := by omega
    have := run_make (P := P) w ty el' i zu hu hi hzi kl kc (l : Int) (c : Int) hl0 hlc hb hc63
    rw [Int.toNat_natCast, Int.toNat_natCast, hisz] at this
    exact this
  · simp only [E]; exact ⟨_, hid, by simp⟩
  · exact BOK_new (us := (madeCells zu.cells (c * n)).toList) (hmade.mono hle')
theorem gMap_ok {o : Oper} {ty : TypeId} (ho : o.op = .makeMap ty none) : FloatOK P o gMap := by
  intro ρ t a id v x hf h
  unfold gMap at h
  injection h with h
  simp only [Prod.mk.injEq] at h
  obtain ⟨rfl, rfl⟩ := h
  refine ⟨trivial, fun w => ⟨.map (some w.heap.size), .map #[] 0, ?_, fun ρ' hle' hid => ⟨?_, ?_⟩⟩⟩
  · simp only [execOp, ho]
    refine run_value ?_
    simp [Instr.makeMap]
  · simp only [E]; exact ⟨_, hid, by simp⟩
  · exact ⟨[], 0, heap_alloc_new w _, EL.nil, EL.nil, fun x h => (by cases h), List.nodup_nil⟩
end Go.Clo
/- The interpreter of closed runs, a part of it. -/
namespace Go.Clo
set_option linter.unusedSimpArgs false
set_option linter.unusedVariables false
set_option linter.unnecessarySimpa false
open Go Go.RowKit

variable {P : Program}

/-- An operation that changes memory. -/
def EffOK (P : Program) (o : Oper) (f : Fr → St → M (V × St)) : Prop :=
  ∀ (W0 : World) (ρ : Rho) (s : St) (w : World) (t : Fr) (a : Act) (v : V) (s' : St), Rel W0 ρ s w → FrE ρ t a.tmps → f t s = .ok (v, s') →
    ∃ (u : Value) (w' : World) (ρ' : Rho), ((execOp a.eval o).run P w = .ok (.value u) w' ∨ (execOp a.eval o).run P w = .ok .skip w' ∧ u = undef) ∧ Step W0 ρ s w ρ' s' w' ∧ E ρ' v u

theorem flat1_ok {ρ : Rho} {v : V} {u : Value} (h : flat1 v = true) (e : E ρ v u) : u.oneCell' = true := by
  cases v with
  | agg l => cases h
  | tup l => cases h
  | any => simp only [E] at e; cases u <;> first | rfl | exact absurd rfl (e.2.1 _) | exact absurd rfl (e.2.2 _)
  | fn f l => simp only [E] at e; obtain ⟨us, rfl, _⟩ := e; rfl
  | mfn f a c => simp only [E] at e; obtain ⟨us, ws, rfl, _, _⟩ := e; rfl
  | sl b o n c => cases c <;> (simp only [E] at e; obtain ⟨l, _, rfl⟩ := e; rfl)
  | ptr b o => simp only [E] at e; obtain ⟨l, _, rfl⟩ := e; rfl
  | map b => simp only [E] at e; obtain ⟨l, _, rfl⟩ := e; rfl
  | ifc t v => simp only [E] at e; obtain ⟨l, rfl, _⟩ := e; rfl
  | slz b o k => simp only [E] at e; obtain ⟨l, _, p, rfl, _⟩ := e; rfl
  | yld b => simp only [E] at e; obtain ⟨l, _, rfl⟩ := e; rfl
  | _ => simp only [E] at e; subst e; rfl
theorem flatL_cons (v : V) (l : List V) : flatL (v :: l) = true → flat1 v = true ∧ flatL l = true := by
  intro h
  have h : Bool.rec (motive := fun _ => Bool) false (flatL l) (flat1 v) = true := h
  cases hv : flat1 v with
  | true => rw [hv] at h; exact ⟨rfl, h⟩
  | false => rw [hv] at h; cases h
theorem flatL_ok {ρ : Rho} : ∀ {l : List V} {us : List Value}, flatL l = true → EL ρ l us → ∀ u ∈ us, u.oneCell' = true
  | [], us, _, e, u, hu => by rw [EL.nil_inv e] at hu; cases hu
  | v :: l, us, h, e, u, hu => by
    obtain ⟨h1, h2⟩ := flatL_cons v l h
    obtain ⟨x, r, rfl, e1, e2⟩ := EL.cons_inv e
    rcases List.mem_cons.1 hu with rfl | hu
    · exact flat1_ok h1 e1
    · exact flatL_ok h2 e2 u hu

theorem get_kill1 (t : Tr Blk) (i c : Nat) : (kill1 t i).get c = if c = i ∧ (t.get i).isSome then some .dead else t.get c := by
  unfold kill1
  cases h : t.get i with
  | none => simp
  | some y => simp only [Tr.get_set, Option.isSome_some, and_true]
theorem get_killL : ∀ (L : List Nat) (t : Tr Blk) (c : Nat), (killL t L).get c = if c ∈ L ∧ (t.get c).isSome then some .dead else t.get c
  | [], t, c => by simp [killL]
  | i :: L, t, c => by
    show (killL (kill1 t i) L).get c = _
    rw [get_killL L (kill1 t i) c, get_kill1]
    by_cases hci : c = i
    · subst hci
      cases h : t.get c with
      | none => simp [h]
      | some y => simp [h]
    · simp [hci]

theorem row_over {ρ : Rho} {c l : List V} {us xs : List Value} {o off : Nat} (h : ∀ (i : Nat) (v : V), c[i]? = some v → ∃ u, us[o + i]? = some u ∧ E ρ v u) (hl : EL ρ l xs) (h1 : off + l.length ≤ c.length) (h2 : o + c.length ≤ us.length) :
    ∀ (i : Nat) (v : V), (c.take off ++ l ++ c.drop (off + l.length))[i]? = some v → ∃ u, (us.take (o + off) ++ xs ++ us.drop (o + off + xs.length))[o + i]? = some u ∧ E ρ v u := by
  intro i v hv
  have hx := hl.len
  by_cases hi : i < off
  · rw [List.append_assoc, List.getElem?_append_left (by simp; omega), List.getElem?_take, if_pos hi] at hv
    obtain ⟨u, hu, he⟩ := h i v hv
    refine ⟨u, ?_, he⟩
    rw [List.append_assoc, List.getElem?_append_left (by simp; omega), List.getElem?_take, if_pos (by omega)]
    exact hu
  · by_cases hi2 : i < off + l.length
    · rw [List.getElem?_append_left (by simp; omega), List.getElem?_append_right (by simp; omega)] at hv
      simp only [List.length_take] at hv
      rw [show min off c.length = off by omega] at hv
      obtain ⟨u, hu, he⟩ := hl.at hv
      refine ⟨u, ?_, he⟩
      rw [List.getElem?_append_left (by simp; omega), List.getElem?_append_right (by simp; omega)]
      simp only [List.length_take]
      rw [show min (o + off) us.length = o + off by omega, show o + i - (o + off) = i - off by omega]
      exact hu
    · rw [List.getElem?_append_right (by simp; omega)] at hv
      simp only [List.length_append, List.length_take, List.getElem?_drop] at hv
      rw [show off + l.length + (i - (min off c.length + l.length)) = i by omega] at hv
      obtain ⟨u, hu, he⟩ := h i v hv
      refine ⟨u, ?_, he⟩
      rw [List.getElem?_append_right (by simp; omega)]
      simp only [List.length_append, List.length_take, List.getElem?_drop]
      rw [show o + off + xs.length + (o + i - (min (o + off) us.length + xs.length)) = o + i by omega]
      exact hu
theorem Below.row {B : Nat} {W0 w : World} (h : Below B W0 w) {g : Nat} (hg : B ≤ g) (cs : Array Value) : Below B W0 (w.setRow g cs) :=
  ⟨h.os, h.tape, h.output, by simp only [World.setRow, Array.size_modify]; exact h.size, fun k hk => by rw [setRow_other w g k cs (by omega)]; exact h.block k hk⟩
theorem size_setRow (w : World) (g : Nat) (cs : Array Value) : (w.setRow g cs).heap.size = w.heap.size := by simp [World.setRow]

/-- A store. -/
theorem store_ok {W0 : World} {ρ : Rho} {s s' : St} {w : World} (hR : Rel W0 ρ s w) {b off : Nat} {l : List V} {xs : List Value} {m : Loc} (hm : ρ b = some m) (hl : EL ρ l xs) (h : s.store b off l = .ok s') :
    ∃ w', (storeCells ⟨m.blk, m.off + off, none⟩ xs).run P w = .ok () w' ∧ Step W0 ρ s w ρ s' w' := by
  obtain ⟨hflat, h⟩ := ask_ok h
  have h1 := flatL_ok hflat hl
  have hlen := hl.len
  split at h
  · rename_i c ty hb
    obtain ⟨c', h2, h⟩ := M.bind_ok h
    injection h with h; subst h
    obtain ⟨_, l', hl', hB, hlt, hok⟩ := hR.blk b _ hb
    have hB : W0.heap.size ≤ l'.blk := hB
    rw [hm] at hl'; injection hl' with e; subst e
    obtain ⟨h0, us, hg, hE⟩ := hok
    obtain ⟨e1, e2⟩ := over_eq h2
    have hul := hE.len
    have hdis : ∀ c y k, c ≠ b → (s.put b (.cells c' ty)).get c = some y → y.alive → ρ c = some k → k.blk = m.blk → False := fun d y k hne hd hy hk hblk => by
      rw [St.get_put, if_neg hne] at hd
      rcases hR.dis d b y _ k m hd hb hy trivial hk hm hne hblk with hu | hu
      · cases y <;> exact hu
      · exact hu
    rcases e2 with e2 | e2
    · have hrun := run_storeCells_at P m.blk (m.off + off) ty xs 0 us.toArray w hg (by simp; omega) h1
      refine ⟨_, hrun, Step.write (x' := .cells c' ty) hR hb trivial trivial hm rfl (fun c hc => Or.inl (by rw [St.get_put, if_neg hc])) (by rw [St.get_put, if_pos rfl]) (Below.row hR.below hB _) (size_setRow _ _ _) (fun r hr => setRow_other w _ r _ hr) ?_ (fun d y k hne hd hy hk hblk => (hdis d y k hne hd hy hk hblk).elim)⟩
      refine ⟨h0, _, setRow_heap w m.blk _ _ ty _ hg, ?_⟩
      have := EL.over h2 hE hl
      rw [h0]
      simpa using this
    · subst e2
      have hx : xs = [] := EL.nil_inv hl
      subst hx
      have : c' = c := by rw [e1]; simp
      subst this
      refine ⟨w, rfl, Step.write (x' := .cells c' ty) hR hb trivial trivial hm rfl (fun d hd => Or.inl (by rw [St.get_put, if_neg hd])) (by rw [St.get_put, if_pos rfl]) hR.below rfl (fun _ _ => rfl) ⟨h0, us, hg, hE⟩ (fun d y k hne hd hy hk hblk => (hdis d y k hne hd hy hk hblk).elim)⟩
  · rename_i c ty sz next anc hb
    split at h
    · cases h
    · obtain ⟨c', h2, h⟩ := M.bind_ok h
      injection h with h; subst h
      obtain ⟨_, l', hl', hB, hlt, hok⟩ := hR.blk b _ hb
      have hB : W0.heap.size ≤ l'.blk := hB
      rw [hm] at hl'; injection hl' with e; subst e
      obtain ⟨us, ty', hg, hE, hcap, hcl⟩ := hok
      obtain ⟨e1, e2⟩ := over_eq h2
      have hgetO : ∀ d, d ≠ b → (St.put ⟨killL s.mem anc, s.size⟩ b (.row c' ty sz false [])).get d = if d ∈ anc ∧ (s.get d).isSome then some .dead else s.get d := fun d hd => by
        rw [St.get_put, if_neg hd]; exact get_killL anc s.mem d
      have hget : ∀ d, d ≠ b → (St.put ⟨killL s.mem anc, s.size⟩ b (.row c' ty sz false [])).get d = s.get d ∨ ((St.put ⟨killL s.mem anc, s.size⟩ b (.row c' ty sz false [])).get d = some .dead ∧ ∃ y, s.get d = some y) := fun d hd => by
        rw [hgetO d hd]
        by_cases hk : d ∈ anc ∧ (s.get d).isSome
        · rw [if_pos hk]; exact Or.inr ⟨rfl, Option.isSome_iff_exists.1 hk.2⟩
        · rw [if_neg hk]; exact Or.inl rfl
      have hdis : ∀ d y k, d ≠ b → (St.put ⟨killL s.mem anc, s.size⟩ b (.row c' ty sz false [])).get d = some y → y.alive → ρ d = some k → k.blk = m.blk → False := fun d y k hne hd hy hk hblk => by
        rw [hgetO d hne] at hd
        by_cases hka : d ∈ anc ∧ (s.get d).isSome
        · rw [if_pos hka] at hd; injection hd with hd; subst hd; exact hy
        · rw [if_neg hka] at hd
          rcases hR.dis d b y _ k m hd hb hy trivial hk hm hne hblk with hu | hu
          · cases y with
            | row cy ty1 sz1 nx1 an1 => exact hka ⟨hu.2.1, by rw [hd]; rfl⟩
            | _ => exact hu
          · cases y with
            | row cy ty1 sz1 nx1 an1 => have := hu.1; cases this
            | _ => exact hu
      rcases e2 with e2 | e2
      · have hrun := run_storeCells_at P m.blk (m.off + off) ty' xs 0 us.toArray w hg (by simp; omega) h1
        refine ⟨_, hrun, Step.write (x' := .row c' ty sz false []) hR hb trivial trivial hm rfl hget (by rw [St.get_put, if_pos rfl]) (Below.row hR.below hB _) (size_setRow _ _ _) (fun r hr => setRow_other w _ r _ hr) ?_ (fun d y k hne hd hy hk hblk => (hdis d y k hne hd hy hk hblk).elim)⟩
        refine ⟨_, ty', setRow_heap w m.blk _ _ ty' _ hg, ?_, ?_, ?_⟩
        · rw [e1]
          have := row_over hE hl e2 (by omega : m.off + c.length ≤ us.length)
          simpa using this
        · simp; omega
        · rw [over_len h2]; exact hcl
      · subst e2
        have hx : xs = [] := EL.nil_inv hl
        subst hx
        have : c' = c := by rw [e1]; simp
        subst this
        exact ⟨w, rfl, Step.write (x' := .row c' ty sz false []) hR hb trivial trivial hm rfl hget (by rw [St.get_put, if_pos rfl]) hR.below rfl (fun _ _ => rfl) ⟨us, ty', hg, hE, hcap, hcl⟩ (fun d y k hne hd hy hk hblk => (hdis d y k hne hd hy hk hblk).elim)⟩
  · cases h

theorem fStore_eff {o : Oper} {ty : TypeId} {x y : Operand} (ho : o.op = .store ty x y) {g : Fr → St → M (V × St)} (h : fStore P ty x y = .eff g) : EffOK P o g := by
  obtain ⟨n, hn, h⟩ := orBad_eff h
  injection h with h; subst h
  intro W0 ρ s w t a v s' hR hf h
  unfold gStore at h
  obtain ⟨p, h1, h⟩ := M.bind_ok h
  have e1 := ev_ok hf h1
  split at h
  · obtain ⟨q, h2, h⟩ := M.bind_ok h
    obtain ⟨htold, h⟩ := ask_ok h
    obtain ⟨h3, h⟩ := ask_ok h
    obtain ⟨s2, h4, h⟩ := M.bind_ok h
    injection h with h
    simp only [Prod.mk.injEq] at h
    obtain ⟨rfl, rfl⟩ := h
    have e2 := ev_ok hf h2
    simp only [E] at e1; obtain ⟨l, hl, hx⟩ := e1
    have hc := E_cells htold e2
    obtain ⟨w', hr, hst⟩ := store_ok (P := P) hR hl hc h4
    refine ⟨undef, w', ρ, Or.inr ⟨?_, rfl⟩, hst, E_undef⟩
    have hsz : (a.eval y).cells.size = n := by
      have := hc.len
      have h3 := beq_eq h3
      rw [lenN_eq] at h3
      simp at this; omega
    simp [execOp, ho, Instr.storeAt, hx, Instr.sureAddr, storeVar, hsz, run_sizeT hn, hr]
  · cases h

/-- The first cells of a slice or a text. -/
theorem bytesV_ok {ρ : Rho} : ∀ (l : List UInt8), EL ρ (bytesV l) (l.map fun b => Value.int .u8 (b.toNat : Int))
  | [] => EL.nil
  | b :: l => EL.cons (by simp only [E]; rfl) (bytesV_ok l)
theorem first_ok {W0 : World} {ρ : Rho} {s : St} {w : World} (hR : Rel W0 ρ s w) {sz n : Nat} {y : V} {cs : List V} {u : Value} (hsz : 0 < sz) (he : E ρ y u) (h : firstV s sz n y = .ok cs) (hn : ∀ k, lenV y = .ok k → n ≤ k) :
    ∃ xs : List Value, EL ρ cs xs ∧ xs.length = n * sz ∧ ∀ w' : World, w'.heap = w.heap → (Builtin.firstCells sz n u).run P w' = .ok xs.toArray w' := by
  unfold firstV at h
  split at h
  · rename_i b off len cap
    obtain ⟨h1, h2⟩ := ask_ok h
    have : ∃ l c, ρ b = some l ∧ u = .slice (some ⟨l.blk, l.off + off, none⟩) len c := by cases cap <;> (simp only [E] at he; obtain ⟨l, hl, he⟩ := he; exact ⟨l, _, hl, he⟩)
    obtain ⟨l, c, hl, hu⟩ := this
    obtain ⟨us, h3, h4, h5⟩ := cells_ok hR hl h2
    refine ⟨us, h3, h4, fun w' hw' => ?_⟩
    subst hu
    simp only [Builtin.firstCells]
    rw [← h4]
    exact run_loadCells_list w' _ us (fun j v hv => by
      have := h5 j v hv
      simpa [World.cell?, hw'] using this)
  · obtain ⟨h1, h2⟩ := ask_ok h
    injection h2 with h2; subst h2
    have h1 := beq_eq h1
    subst h1
    simp only [E] at he; subst he
    exact ⟨[], EL.nil, by simp, fun w' _ => by simp [Builtin.firstCells]⟩
  · obtain ⟨h1, h2⟩ := ask_ok h
    injection h2 with h2; subst h2
    have h1 := beq_eq h1
    subst h1
    simp only [E] at he; obtain ⟨_, _, ad, rfl, _⟩ := he
    refine ⟨[], EL.nil, by simp, fun w' _ => ?_⟩
    simp only [Builtin.firstCells]
    have := run_loadCells_list (P := P) w' ad [] (fun j v hj => by simp at hj)
    simpa using this
  · rename_i x
    obtain ⟨h1, h2⟩ := ask_ok h
    have h1 := beq_eq h1
    subst h1
    injection h2 with h2; subst h2
    simp only [E] at he; subst he
    have hle := hn x.size rfl
    rw [takeN_eq]
    refine ⟨_, (bytesV_ok x.data.toList).take n, by simp; omega, fun w' _ => ?_⟩
    simp only [Builtin.firstCells, Sem.run_pure]
    congr 1
    apply Array.ext'
    simp [ByteArray.data_extract, List.map_take]
  · cases h
theorem lenV_ok {ρ : Rho} {y : V} {n : Nat} {u : Value} (he : E ρ y u) (h : lenV y = .ok n) (w : World) : (Builtin.lenOf u).run P w = .ok n w := by
  unfold lenV at h
  split at h
  · rename_i b off len cap
    injection h with h; subst h
    have : ∃ l c, u = .slice l len c := by cases cap <;> (simp only [E] at he; obtain ⟨l, hl, he⟩ := he; exact ⟨_, _, he⟩)
    obtain ⟨l, c, rfl⟩ := this
    rfl
  · injection h with h; subst h; simp only [E] at he; subst he; rfl
  · injection h with h; subst h; simp only [E] at he; obtain ⟨_, _, ad, rfl, _⟩ := he; rfl
  · injection h with h; subst h; simp only [E] at he; subst he; rfl
  · cases h
theorem headTy {tys : Array TypeId} {ty : TypeId} {r : List TypeId} (h : tys.toList = ty :: r) : tys[0]? = some ty := by cases tys; simp_all
theorem fCopy_eff {o : Oper} {args : Array Operand} {tys : Array TypeId} (ho : o.op = .call { callee := .builtin .copy, args, argTypes := tys }) {g : Fr → St → M (V × St)} (h : fCopy P tys.toList args.toList = .eff g) : EffOK P o g := by
  unfold fCopy at h
  split at h
  · rename_i ty r x y hty ha
    obtain ⟨⟨el, n⟩, hen, h⟩ := orBad_eff h
    obtain ⟨⟨el', hu⟩, h⟩ := isSlice_eff h
    obtain rfl := elem_slice hen hu
    injection h with h; subst h
    obtain ⟨hn, hs, _⟩ := elemT_ok hen
    obtain rfl := toList_two ha
    intro W0 ρ s w t a v s' hR hf h
    unfold gCopy at h
    obtain ⟨vx, h1, h⟩ := M.bind_ok h
    obtain ⟨vy, h2, h⟩ := M.bind_ok h
    obtain ⟨ly, h3, h⟩ := M.bind_ok h
    obtain ⟨lx, h4, h⟩ := M.bind_ok h
    obtain ⟨cs, h5, h⟩ := M.bind_ok h
    have ex := ev_ok hf h1
    have ey := ev_ok hf h2
    obtain ⟨xs, g1, g2, g3⟩ := first_ok (P := P) hR hn ey h5 (fun k hk => by rw [h3] at hk; injection hk with hk; subst hk; exact Nat.min_le_left _ _)
    obtain ⟨cst, hcs⟩ := run_builtin' (P := P) ho a
    have hly := fun w => lenV_ok (P := P) ey h3 w
    cases vx with
    | sl b off len cap =>
      obtain ⟨s2, h6, h⟩ := M.bind_ok h
      injection h with h
      simp only [Prod.mk.injEq] at h
      obtain ⟨rfl, rfl⟩ := h
      have : ∃ l c, ρ b = some l ∧ a.eval x = .slice (some ⟨l.blk, l.off + off, none⟩) len c := by cases cap <;> (simp only [E] at ex; obtain ⟨l, hl, he⟩ := ex; exact ⟨l, _, hl, he⟩)
      obtain ⟨l, c, hl, hx⟩ := this
      simp only [lenV] at h4; injection h4 with h4; subst h4
      obtain ⟨w', hr, hst⟩ := store_ok (P := P) hR hl g1 h6
      refine ⟨_, w', ρ, Or.inl ?_, hst, by simp only [E]; rfl⟩
      rw [hcs]
      simp [builtin, Builtin.copy_, headTy hty, run_underlying hu, hx, hly, run_sizeT hs, g3 w rfl, hr, goInt]
    | nils =>
      injection h with h
      simp only [Prod.mk.injEq] at h
      obtain ⟨rfl, rfl⟩ := h
      simp only [lenV] at h4; injection h4 with h4; subst h4
      simp only [E] at ex
      refine ⟨_, w, ρ, Or.inl ?_, Step.refl hR, by simp only [E]; rfl⟩
      rw [hcs]
      have hg3 := g3 w rfl
      rw [show ly.min 0 = 0 from Nat.min_zero ly] at hg3
      simp [builtin, Builtin.copy_, headTy hty, run_underlying hu, ex, hly, run_sizeT hs, hg3, goInt]
    | _ => cases h
  · cases h
theorem fClear_eff {o : Oper} {args : Array Operand} {tys : Array TypeId} (ho : o.op = .call { callee := .builtin .clear, args, argTypes := tys }) {g : Fr → St → M (V × St)} (h : fClear P tys.toList args.toList = .eff g) : EffOK P o g := by
  unfold fClear at h
  split at h
  · rename_i ty r x hty ha
    obtain ⟨⟨el, n⟩, hen, k1⟩ := orBad_eff h
    obtain ⟨z, hz, k2⟩ := orBad_eff k1
    obtain ⟨⟨el', hu⟩, k3⟩ := isSlice_eff k2
    injection k3 with k3; subst k3
    obtain rfl := elem_slice hen hu
    obtain ⟨hn, hs, _⟩ := elemT_ok hen
    obtain rfl := toList_one ha
    obtain ⟨i, zu, hi, hzi, hzl, hzE⟩ := zeroCells_ok hz
    simp only at hzl
    intro W0 ρ s w t a v s' hR hf h
    unfold gClear at h
    obtain ⟨vx, h1, h⟩ := M.bind_ok h
    have ex := ev_ok hf h1
    obtain ⟨cst, hcs⟩ := run_builtin' (P := P) ho a
    cases vx with
    | nils =>
      have h : M.ok (V.tup [], s) = M.ok (v, s') := h
      injection h with h
      simp only [Prod.mk.injEq] at h
      obtain ⟨rfl, rfl⟩ := h
      simp only [E] at ex
      refine ⟨.tuple #[], w, ρ, Or.inl ?_, Step.refl hR, by simp only [E]; exact ⟨[], rfl, EL.nil⟩⟩
      rw [hcs]
      simp [builtin, Builtin.clear_, headTy hty, run_underlying hu, ex]
    | sl b off len cap =>
      obtain ⟨h2, h⟩ := ask_ok h
      have h2 := blt_lt h2
      obtain ⟨s2, h6, h⟩ := M.bind_ok h
      injection h with h
      simp only [Prod.mk.injEq] at h
      obtain ⟨rfl, rfl⟩ := h
      have : ∃ l c, ρ b = some l ∧ a.eval x = .slice (some ⟨l.blk, l.off + off, none⟩) len c := by cases cap <;> (simp only [E] at ex; obtain ⟨l, hl, he⟩ := ex; exact ⟨l, _, hl, he⟩)
      obtain ⟨l, c, hl, hx⟩ := this
      have hmade := EL_made (hzE ρ) (by omega) len
      obtain ⟨w', hr, hst⟩ := store_ok (P := P) hR hl hmade h6
      refine ⟨.tuple #[], w', ρ, Or.inl ?_, hst, by simp only [E]; exact ⟨[], rfl, EL.nil⟩⟩
      obtain ⟨m, rfl⟩ : ∃ m, len = m + 1 := ⟨len - 1, by omega⟩
      have hsz : zu.cells.size = z.length := by rw [← (hzE ρ).len]; simp
      have hr' : (storeCells ⟨l.blk, l.off + off, none⟩ (Builtin.zeroCells zu.cells (m + 1)).toList).run P w = .ok () w' := by
        unfold Builtin.zeroCells
        rw [← hsz] at hr; exact hr
      rw [hcs]
      simp [builtin, Builtin.clear_, headTy hty, run_underlying hu, hx, zeroValue, typeInfo, hi, hzi, hr']
    | _ => cases h
  · cases h
end Go.Clo
/- The interpreter of closed runs, a part of it. -/
namespace Go.Clo
set_option linter.unusedSimpArgs false
set_option linter.unusedVariables false
set_option linter.unnecessarySimpa false
open Go Go.RowKit

variable {P : Program}

/-- Maps that are written. -/
theorem setM_cons (k v : V) (p : V × V) (l : List (V × V)) : setM k v (p :: l) = set1 k v p l (setM k v l) (keyCmp k p.1) := rfl
theorem EL_set {ρ : Rho} : ∀ {l : List V} {us : List Value} {j : Nat} {v : V} {u : Value}, EL ρ l us → E ρ v u → EL ρ (l.set j v) (us.set j u)
  | [], us, j, v, u, h, _ => by rw [EL.nil_inv h]; exact EL.nil
  | a :: l, us, j, v, u, h, e => by
    obtain ⟨x, r, rfl, h1, h2⟩ := EL.cons_inv h
    cases j with
    | zero => exact EL.cons e h2
    | succ j => exact EL.cons h1 (EL_set h2 e)
theorem setM_ok {ρ : Rho} {num : Bool} {d : TypeDesc} (hd : kindOf num d) {k v : V} (hk : keyOk num k = true) {uk : Value} (ek : E ρ k uk) : ∀ {es es' : List (V × V)} {ents : List MapEntry} (i : Nat),
    setM k v es = .ok es' → EL ρ (es.map (·.1)) (ents.map (·.key)) → EL ρ (es.map (·.2)) (ents.map (·.val)) →
    (Instr.findNow d uk ents i = some none ∧ es' = es ++ [(k, v)]) ∨ ∃ j y e, Instr.findNow d uk ents i = some (some (i + j, y)) ∧ ents[j]? = some e ∧ e.key = uk ∧ es' = es.set j (k, v)
  | [], es', ents, i, h, h1, h2 => by
    have : M.ok [(k, v)] = M.ok es' := h
    injection this with this; subst this
    have := EL.nil_inv h1
    have : ents = [] := by simpa using this
    subst this
    exact Or.inl ⟨rfl, rfl⟩
  | p :: es, es', ents, i, h, h1, h2 => by
    cases ents with
    | nil => have := h1.len; simp at this
    | cons e ents =>
      simp only [List.map_cons] at h1 h2
      obtain ⟨u, q, e1, hE1, h1⟩ := EL.cons_inv h1
      obtain ⟨u', q', e2, hE2, h2⟩ := EL.cons_inv h2
      simp only [List.cons.injEq] at e1 e2
      obtain ⟨rfl, rfl⟩ := e1
      obtain ⟨rfl, rfl⟩ := e2
      rw [setM_cons] at h
      unfold set1 at h
      split at h
      · rename_i hc
        injection h with h; subst h
        have hs := keyCmp_ok hd hk hc ek hE1
        exact Or.inr ⟨0, e.val, e, by simp [Instr.findNow, hs.1], rfl, (hs.2 rfl).symm, rfl⟩
      · rename_i hc
        have hs := (keyCmp_ok hd hk hc ek hE1).1
        obtain ⟨es2, h3, h⟩ := M.bind_ok h
        injection h with h; subst h
        rcases setM_ok hd hk ek (i + 1) h3 h1 h2 with ⟨g1, rfl⟩ | ⟨j, y, e', g1, g2, g3, rfl⟩
        · exact Or.inl ⟨by simpa [Instr.findNow, hs] using g1, rfl⟩
        · refine Or.inr ⟨j + 1, y, e', ?_, by simpa using g2, g3, rfl⟩
          simp only [Instr.findNow, hs]
          rw [g1, show i + 1 + j = i + (j + 1) by omega]
      · cases h
theorem sameBits_key {num : Bool} {k : V} (hk : keyOk num k = true) {ρ : Rho} {u : Value} (e : E ρ k u) : Instr.sameBits 10000 u u = true := by
  unfold keyOk at hk
  split at hk
  · simp only [E] at e; subst e; simp [Instr.sameBits]
  · simp only [E] at e; subst e; simp [Instr.sameBits, ba_beq]
  · cases hk
theorem fUpdate_eff {o : Oper} {ty : TypeId} {x k y : Operand} (ho : o.op = .mapUpdate ty x k y ∨ o.op = .insert ty x k y) {g : Fr → St → M (V × St)} (h : fUpdate P ty x k y = .eff g) : EffOK P o g := by
  unfold fUpdate at h
  split at h
  · rename_i kt el hu
    obtain ⟨num, hnum, h⟩ := orBad_eff h
    injection h with h; subst h
    obtain ⟨d, hkd, hd⟩ := keyTy_ok hnum
    intro W0 ρ s w t a v s' hR hf h
    unfold gUpdate at h
    obtain ⟨key, h1, h⟩ := M.bind_ok h
    obtain ⟨hk, h⟩ := ask_ok h
    obtain ⟨val, h2, h⟩ := M.bind_ok h
    obtain ⟨m, h3, h⟩ := M.bind_ok h
    have ek := ev_ok hf h1
    have ev := ev_ok hf h2
    have em := ev_ok hf h3
    split at h
    · rename_i b
      split at h
      · rename_i es hb
        obtain ⟨es', h4, h⟩ := M.bind_ok h
        injection h with h
        simp only [Prod.mk.injEq] at h
        obtain ⟨rfl, rfl⟩ := h
        simp only [E] at em; obtain ⟨l, hl, hx⟩ := em
        obtain ⟨_, l', hl', hB, hlt, hok⟩ := hR.blk b _ hb
        have hB : W0.heap.size ≤ l'.blk := hB
        rw [hl] at hl'; injection hl' with e; subst e
        obtain ⟨ents, clock, hw, g1, g2, gb⟩ := hok
        have hset : ∀ o', w.heap[l.blk]? = some (.map ents.toArray clock) → (setObj l.blk o').run P w = .ok () { w with heap := w.heap.setIfInBounds l.blk o' } := fun o' hh => by simp [setObj, Sem.run, hh]
        have hstep : ∀ (ents' : List MapEntry) (clock' : Nat), EL ρ (es'.map (·.1)) (ents'.map (·.key)) → EL ρ (es'.map (·.2)) (ents'.map (·.val)) → Born ents' clock' →
            Step W0 ρ s w ρ (s.put b (.map es')) { w with heap := w.heap.setIfInBounds l.blk (.map ents'.toArray clock') } := fun ents' clock' q1 q2 q3 => by
          refine Step.write hR hb trivial (by trivial) hl rfl (fun c hc => Or.inl (by rw [St.get_put, if_neg hc])) (x' := .map es') (by rw [St.get_put, if_pos rfl]) ?_ (by simp) (fun r hr => by simp [Array.getElem?_setIfInBounds_ne (Ne.symm hr)]) ⟨ents', clock', by simp [hlt], q1, q2, q3⟩ ?_
          · exact ⟨hR.below.os, hR.below.tape, hR.below.output, by simp; exact hR.below.size, fun r hr => by
              show (w.heap.setIfInBounds l.blk _)[r]? = _
              rw [Array.getElem?_setIfInBounds_ne (by omega)]; exact hR.below.block r hr⟩
          · intro c y' k' hne hc hy hk' hblk
            rw [St.get_put, if_neg hne] at hc
            rcases hR.dis c b y' _ k' l hc hb hy trivial hk' hl hne hblk with hq | hq
            · cases y' <;> exact hq.elim
            · exact hq.elim
        rcases setM_ok hd hk ek 0 h4 g1 g2 with ⟨q1, rfl⟩ | ⟨j, yy, e', q1, q2, q3, rfl⟩
        · refine ⟨undef, _, ρ, Or.inr ⟨?_, rfl⟩, hstep (ents ++ [({ key := a.eval k, val := a.eval y, born := clock } : MapEntry)]) (clock + 1) ?_ ?_ ?_, E_undef⟩
          · have hr : (Instr.mapUpdate ty (a.eval x) (a.eval k) (a.eval y)).run P w = .ok () { w with heap := w.heap.setIfInBounds l.blk (.map (ents ++ [({ key := a.eval k, val := a.eval y, born := clock } : MapEntry)]).toArray (clock + 1)) } := by
              rw [hx]
              simp [Instr.mapUpdate, run_underlying hu, run_getObj_map hw, run_checkKey hkd hd, Instr.findKey, run_underlying hkd, q1, hset _ hw]
            rcases ho with ho | ho <;> simp [execOp, ho, hr]
          · simp only [List.map_append, List.map_cons, List.map_nil]; exact g1.app (EL.cons ek EL.nil)
          · simp only [List.map_append, List.map_cons, List.map_nil]; exact g2.app (EL.cons ev EL.nil)
          · refine ⟨fun e he => ?_, ?_⟩
            · rcases List.mem_append.1 he with he | he
              · exact Nat.lt_succ_of_lt (gb.1 e he)
              · rw [List.mem_singleton.1 he]; exact Nat.lt_succ_self _
            · rw [List.map_append, List.map_cons, List.map_nil, List.nodup_append]
              refine ⟨gb.2, by simp, fun x hx y hy => ?_⟩
              obtain ⟨e, he, rfl⟩ := List.mem_map.1 hx
              rw [List.mem_singleton.1 hy]
              exact Nat.ne_of_lt (gb.1 e he)
        · refine ⟨undef, _, ρ, Or.inr ⟨?_, rfl⟩, hstep (ents.set j { e' with key := a.eval k, val := a.eval y }) clock ?_ ?_ ?_, E_undef⟩
          · have hr : (Instr.mapUpdate ty (a.eval x) (a.eval k) (a.eval y)).run P w = .ok () { w with heap := w.heap.setIfInBounds l.blk (.map (ents.set j { e' with key := a.eval k, val := a.eval y }).toArray clock) } := by
              rw [hx]
              rw [Nat.zero_add] at q1
              have hkeep : (Instr.keyThatStays (((ents.toArray[j]?).map (·.key)).getD (a.eval k)) (a.eval k)).run P w = .ok (a.eval k) w := by
                have : ents.toArray[j]? = some e' := by simpa using q2
                rw [this]
                simp only [Option.map_some, Option.getD_some, q3, Instr.keyThatStays, sameBits_key hk ek, if_true, Sem.run_pure]
              have hmod : (ents.toArray.modify j fun e => { e with key := a.eval k, val := a.eval y }) = (ents.set j { e' with key := a.eval k, val := a.eval y }).toArray := by
                apply Array.ext'
                simp only [Array.toList_modify]
                apply List.ext_getElem?
                intro i
                rw [List.getElem?_modify, List.getElem?_set]
                by_cases hij : j = i
                · subst hij
                  have hlt' : j < ents.length := (List.getElem?_eq_some_iff.1 q2).1
                  have hej : ents[j] = e' := (List.getElem?_eq_some_iff.1 q2).2
                  simp [hlt', hej]
                · simp [hij]
              simp [Instr.mapUpdate, run_underlying hu, run_getObj_map hw, run_checkKey hkd hd, Instr.findKey, run_underlying hkd, q1]
              have hk2 := hkeep
              simp only [List.getElem?_toArray] at hk2
              simp [hk2, hset _ hw]
              have hm2 := hmod
              simp only [List.modify_toArray] at hm2
              rw [hm2]
            rcases ho with ho | ho <;> simp [execOp, ho, hr]
          · rw [List.map_set, List.map_set]; exact EL_set g1 ek
          · rw [List.map_set, List.map_set]; exact EL_set g2 ev
          · have hlt' : j < ents.length := (List.getElem?_eq_some_iff.1 q2).1
            have hej : ents[j] = e' := (List.getElem?_eq_some_iff.1 q2).2
            refine ⟨fun e he => ?_, ?_⟩
            · rcases List.mem_or_eq_of_mem_set he with he | he
              · exact gb.1 e he
              · rw [he]; exact gb.1 e' (List.mem_of_getElem? q2)
            · have : (ents.set j { e' with key := a.eval k, val := a.eval y }).map (·.born) = ents.map (·.born) := by
                apply List.ext_getElem?
                intro i
                rw [List.getElem?_map, List.getElem?_map, List.getElem?_set]
                by_cases hij : j = i
                · subst hij; simp [hlt', hej]
                · simp [hij]
              rw [this]; exact gb.2
      · cases h
    · cases h
  · cases h
end Go.Clo
/- The interpreter of closed runs, a part of it. -/
namespace Go.Clo
set_option linter.unusedSimpArgs false
set_option linter.unusedVariables false
set_option linter.unnecessarySimpa false
open Go Go.RowKit

variable {P : Program}

theorem isRow_ok {ty : TypeId} (h : isRow P (some ty) = true) : (∃ e, P.underlying ty = some (.slice e)) ∨ P.underlying ty = some .string := by
  unfold isRow at h
  simp only at h
  split at h
  · rename_i e hu; exact Or.inl ⟨e, hu⟩
  · rename_i hu; exact Or.inr hu
  · cases h
section model
variable {tys : Array TypeId} {ty ty' el rt : TypeId} {sz : Nat}
theorem append_fit (h0 : tys[0]? = some ty) (h1 : tys[1]? = some ty') (hu : P.underlying ty = some (.slice el)) (hu' : (∃ e, P.underlying ty' = some (.slice e)) ∨ P.underlying ty' = some .string) (hs : sizeT P el = some sz)
    {ad : Addr} {sLen sCap m : Nat} {ux : Value} {xs : List Value} {w w' : World} (hl : (Builtin.lenOf ux).run P w = .ok m w) (hf : (Builtin.firstCells sz m ux).run P w = .ok xs.toArray w) (hle : sLen + m ≤ sCap)
    (hst : (storeCells (ad.add (sLen * sz)) xs).run P w = .ok () w') :
    (Builtin.append_ tys rt #[.slice (some ad) sLen sCap, ux]).run P w = .ok (.slice (some ad) (sLen + m) sCap) w' := by
  rcases hu' with ⟨e', hu'⟩ | hu' <;> simp [Builtin.append_, h0, h1, run_underlying hu, run_underlying hu', run_sizeT hs, hl, hle, hf, hst]
theorem append_none (h0 : tys[0]? = some ty) (h1 : tys[1]? = some ty') (hu : P.underlying ty = some (.slice el)) (hu' : (∃ e, P.underlying ty' = some (.slice e)) ∨ P.underlying ty' = some .string) (hs : sizeT P el = some sz)
    {ux : Value} {xs : List Value} {w : World} (hl : (Builtin.lenOf ux).run P w = .ok 0 w) (hf : (Builtin.firstCells sz 0 ux).run P w = .ok xs.toArray w) :
    (Builtin.append_ tys rt #[.slice none 0 0, ux]).run P w = .ok (.slice none 0 0) w := by
  rcases hu' with ⟨e', hu'⟩ | hu' <;> simp [Builtin.append_, h0, h1, run_underlying hu, run_underlying hu', run_sizeT hs, hl, hf]
theorem append_grow (h0 : tys[0]? = some ty) (h1 : tys[1]? = some ty') (hu : P.underlying ty = some (.slice el)) (hu' : (∃ e, P.underlying ty' = some (.slice e)) ∨ P.underlying ty' = some .string)
    {i : TypeInfo} {z : Value} (hi : P.info? el = some i) (hz : i.zero = some z)
    {base : Option Addr} {sLen sCap m : Nat} {ux : Value} {os xs : List Value} {w : World} (hl : (Builtin.lenOf ux).run P w = .ok m w) (hf : (Builtin.firstCells i.size m ux).run P w.drew = .ok xs.toArray w.drew)
    (ho : (Builtin.firstCells i.size sLen (.slice base sLen sCap)).run P w.drew = .ok os.toArray w.drew) (hgt : sCap < sLen + m) (h63 : sLen + m ≤ 1073741824) (hb : (sLen + m) * i.bytes ≤ 1073741824) :
    (Builtin.append_ tys rt #[.slice base sLen sCap, ux]).run P w = .ok (.slice (some ⟨w.heap.size, 0, none⟩) (sLen + m) (grownCap w (sLen + m) sCap el)) (w.drew.alloc (.cells ((os ++ xs).toArray ++ Builtin.zeroCells z.cells (grownCap w (sLen + m) sCap el - (sLen + m))) el)) := by
  have hn : ¬ (sLen + m ≤ sCap) := by omega
  have h65 : ¬ (9223372036854775807 < (sLen : Int) + (m : Int)) := by omega
  have h48 : ¬ (281474976710656 < Builtin.nextslicecap (sLen + m) sCap * i.bytes) := by
    have := growslice_fits (bytes := i.bytes) hgt (by omega)
    omega
  rcases hu' with ⟨e', hu'⟩ | hu' <;>
    simp [Builtin.append_, h0, h1, run_underlying hu, run_underlying hu', sizeOf, typeInfo, hi, hl, hn, h65, h48, Question.forced, grownCap, ho, hf, zeroValue, hz, newRow]
  all_goals
    congr 2
    apply Array.ext'
    simp
theorem zeroCells_made (z : Array Value) (n : Nat) : Builtin.zeroCells z n = madeCells z (n * z.size) := rfl
theorem zeroCells_none {z : Array Value} {n : Nat} (h : n * z.size = 0) : Builtin.zeroCells z n = #[] := by
  unfold Builtin.zeroCells; rw [h]; simp
theorem wrap_small {m : Nat} (h : m ≤ 1073741824) : IntKind.i64.wrap (m : Int) = (m : Int) := by
  unfold IntKind.wrap; simp [IntKind.bits, IntKind.signed]; omega
theorem append_fitZ (h0 : tys[0]? = some ty) (h1 : tys[1]? = some ty') (hu : P.underlying ty = some (.slice el)) {kk : IntKind} (hu' : P.underlying ty' = some (.int kk))
    {i : TypeInfo} {z : Value} (hi : P.info? el = some i) (hz : i.zero = some z) (hzs : z.cells.size = i.size) {k : IntKind} {m : Nat} (hm : m ≤ 1073741824) (hmb : m * i.bytes ≤ 1073741824)
    {ad : Addr} {sLen sCap : Nat} {w w' : World} (hle : sLen + m ≤ sCap) (hst : (storeCells (ad.add (sLen * i.size)) (Builtin.zeroCells z.cells m).toList).run P w = .ok () w') :
    (Builtin.append_ tys rt #[.slice (some ad) sLen sCap, .int k m]).run P w = .ok (.slice (some ad) (sLen + m) sCap) w' := by
  have hw := wrap_small hm
  have hneg : ¬ ((m : Int) < 0) := by omega
  have h48 : ¬ (281474976710656 < (m : Int) * (i.bytes : Int)) := by
    rw [← Int.natCast_mul]; omega
  by_cases hs : m * i.size = 0
  · rw [zeroCells_none (by rw [hzs]; exact hs)] at hst
    simp at hst
    simp [Builtin.append_, h0, h1, run_underlying hu, run_underlying hu', sizeOf, typeInfo, hi, asInt, asIntOf, hw, hneg, h48, hs, hle, hst]
  · simp [Builtin.append_, h0, h1, run_underlying hu, run_underlying hu', sizeOf, typeInfo, hi, asInt, asIntOf, hw, hneg, h48, hs, hle, zeroValue, hz, hst]
theorem append_noneZ (h0 : tys[0]? = some ty) (h1 : tys[1]? = some ty') (hu : P.underlying ty = some (.slice el)) {kk : IntKind} (hu' : P.underlying ty' = some (.int kk))
    {i : TypeInfo} (hi : P.info? el = some i) {k : IntKind} {w : World} :
    (Builtin.append_ tys rt #[.slice none 0 0, .int k (0 : Nat)]).run P w = .ok (.slice none 0 0) w := by
  have hw := wrap_small (m := 0) (by omega)
  simp at hw
  simp [Builtin.append_, h0, h1, run_underlying hu, run_underlying hu', sizeOf, typeInfo, hi, asInt, asIntOf, hw]
theorem append_growZ (h0 : tys[0]? = some ty) (h1 : tys[1]? = some ty') (hu : P.underlying ty = some (.slice el)) {kk : IntKind} (hu' : P.underlying ty' = some (.int kk))
    {i : TypeInfo} {z : Value} (hi : P.info? el = some i) (hz : i.zero = some z) (hzs : z.cells.size = i.size) {k : IntKind} {m : Nat}
    {base : Option Addr} {sLen sCap : Nat} {os : List Value} {w : World}
    (ho : (Builtin.firstCells i.size sLen (.slice base sLen sCap)).run P w.drew = .ok os.toArray w.drew) (hgt : sCap < sLen + m) (h63 : sLen + m ≤ 1073741824) (hb : (sLen + m) * i.bytes ≤ 1073741824) :
    (Builtin.append_ tys rt #[.slice base sLen sCap, .int k m]).run P w = .ok (.slice (some ⟨w.heap.size, 0, none⟩) (sLen + m) (grownCap w (sLen + m) sCap el)) (w.drew.alloc (.cells ((os ++ (Builtin.zeroCells z.cells m).toList).toArray ++ Builtin.zeroCells z.cells (grownCap w (sLen + m) sCap el - (sLen + m))) el)) := by
  have hw := wrap_small (m := m) (by omega)
  have hneg : ¬ ((m : Int) < 0) := by omega
  have hn : ¬ (sLen + m ≤ sCap) := by omega
  have h65 : ¬ (9223372036854775807 < (sLen : Int) + (m : Int)) := by omega
  have hmb : m * i.bytes ≤ 1073741824 := Nat.le_trans (Nat.mul_le_mul_right _ (by omega)) hb
  have h48' : ¬ (281474976710656 < (m : Int) * (i.bytes : Int)) := by
    rw [← Int.natCast_mul]; omega
  have h48 : ¬ (281474976710656 < Builtin.nextslicecap (sLen + m) sCap * i.bytes) := by
    have := growslice_fits (bytes := i.bytes) hgt (by omega)
    omega
  by_cases hs : m * i.size = 0
  · rw [zeroCells_none (by rw [hzs]; exact hs)]
    simp [Builtin.append_, h0, h1, run_underlying hu, run_underlying hu', sizeOf, typeInfo, hi, asInt, asIntOf, hw, hneg, h48', hs, hn, h65, h48, Question.forced, grownCap, ho, zeroValue, hz, newRow]
  · simp [Builtin.append_, h0, h1, run_underlying hu, run_underlying hu', sizeOf, typeInfo, hi, asInt, asIntOf, hw, hneg, h48', hs, hn, h65, h48, Question.forced, grownCap, ho, zeroValue, hz, newRow]
    all_goals
      congr 2
      apply Array.ext'
      simp
end model

/-- A row that an append has made. -/
theorem grown_row {W0 : World} {ρ : Rho} {s : St} {w : World} (hR : Rel W0 ρ s w) {c : List V} {cs : List Value} (hE : EL ρ c cs) {e sz k need : Nat} {z : Value} (hz : z.cells.size = sz) (hlen : c.length = need * sz) (hk : need ≤ k) (anc : List Nat) :
    Step W0 ρ s w (ρ.upd s.size ⟨w.heap.size, 0, k⟩) (s.alloc (.row c e sz false anc)) (w.drew.alloc (.cells (cs.toArray ++ Builtin.zeroCells z.cells (k - need)) e)) := by
  have h1 := Step.draw (w' := w.drew) hR rfl rfl rfl rfl
  have hw : w.drew.heap.size = w.heap.size := rfl
  refine h1.trans ?_
  rw [← hw]
  have hle := Rho.le_upd (ρ := ρ) (b := s.size) ⟨w.drew.heap.size, 0, k⟩ (hR.fresh _ (Nat.le_refl _))
  refine Step.alloc h1.rel _ _ k trivial ?_
  refine ⟨cs ++ (Builtin.zeroCells z.cells (k - need)).toList, e, ?_, ?_, ?_, ?_⟩
  · rw [heap_alloc_new]
    congr 2
    apply Array.ext'; simp
  · intro i v hv
    obtain ⟨u, hu, he⟩ := (EL.mono hle _ hE).at hv
    refine ⟨u, ?_, he⟩
    rw [Nat.zero_add, List.getElem?_append_left (by exact (List.getElem?_eq_some_iff.1 hu).1)]
    exact hu
  · have := hE.len
    simp [size_zeroCells, hz, this, hlen]
    rw [← Nat.add_mul]
    exact Nat.mul_le_mul_right _ (by omega)
  · rw [hlen]; exact Nat.mul_le_mul_right _ hk
theorem drew_first {sz n : Nat} {u : Value} {xs : List Value} {w : World} (h : ∀ w' : World, w'.heap = w.heap → (Builtin.firstCells sz n u).run P w' = .ok xs.toArray w') : (Builtin.firstCells sz n u).run P w.drew = .ok xs.toArray w.drew := h w.drew rfl
/-- That a row has been appended to is noted. -/
theorem Step.flag {W0 : World} {ρ : Rho} {s : St} {w : World} (hR : Rel W0 ρ s w) {b : Nat} {c : List V} {ty : TypeId} {sz : Nat} {next : Bool} {anc : List Nat} (hb : s.get b = some (.row c ty sz next anc)) :
    Step W0 ρ s w ρ (s.put b (.row c ty sz true anc)) w := by
  obtain ⟨_, m, hm, hB, hlt, hok⟩ := hR.blk b _ hb
  refine Step.write hR hb trivial (by trivial) hm rfl (fun d hd => Or.inl (by rw [St.get_put, if_neg hd])) (x' := .row c ty sz true anc) (by rw [St.get_put, if_pos rfl]) hR.below rfl (fun _ _ => rfl) hok ?_
  intro d y k hne hd hy hk hblk
  rw [St.get_put, if_neg hne] at hd
  obtain ⟨_, k', hk', _, _, hoky⟩ := hR.blk d _ hd
  rw [hk] at hk'; injection hk' with e; subst e
  refine ⟨?_, hoky⟩
  rcases hR.dis d b y _ k m hd hb hy trivial hk hm hne hblk with hu | hu
  · refine Or.inl ?_
    cases y with
    | row => exact hu
    | _ => exact hu.elim
  · refine Or.inr ?_
    cases y with
    | row => exact ⟨rfl, hu.2.1, hu.2.2⟩
    | _ => exact hu.elim
/-- A row that has grown in place. -/
theorem inPlace {W0 : World} {ρ : Rho} {s : St} {w : World} (hR : Rel W0 ρ s w) {b off len n k e sz : Nat} {c : List V} {ty : TypeId} {anc : List Nat} (hb : s.get b = some (.row c ty sz false anc)) {m : Loc} (hm : ρ b = some m)
    {old new : List V} {os xs : List Value} (hold : s.cells b off (len * sz) = .ok old) (hEo : EL ρ old os) (hos : ∀ (j : Nat) (u : Value), os[j]? = some u → w.cell? ((⟨m.blk, m.off + off, none⟩ : Addr).add j) = some u) (hEn : EL ρ new xs) (hfl : flatL new = true) (hoff : off = k * sz) (hend : off + len * sz = c.length) (hnew : new.length = n * sz) (hroom : len + n ≤ m.cap - k) (hn : 0 < n) (hsz : 0 < sz) :
    ∃ w', (storeCells ((⟨m.blk, m.off + off, none⟩ : Addr).add (len * sz)) xs).run P w = .ok () w' ∧
      Step W0 ρ s w (ρ.upd s.size ⟨m.blk, m.off + off, m.cap - k⟩) ((s.put b (.row c ty sz true anc)).alloc (.row (old ++ new) e sz false (b :: anc))) w' := by
  obtain ⟨hbs, m', hm', hB, hlt, hok⟩ := hR.blk b _ hb
  rw [hm] at hm'; injection hm' with e'; subst e'
  obtain ⟨us, ty', hg, hE, hcap, hcl⟩ := hok
  have hxl := hEn.len
  have holen : old.length = len * sz := by
    unfold St.cells at hold
    rw [hb] at hold
    exact cut_len hold
  have hcapk : (k + len + n) * sz ≤ m.cap * sz := Nat.mul_le_mul_right _ (by omega)
  have hcapk' : k * sz + len * sz + n * sz ≤ m.cap * sz := by rw [← Nat.add_mul, ← Nat.add_mul]; exact hcapk
  have h1 := flatL_ok hfl hEn
  have hrun := run_storeCells_at P m.blk (m.off + off + len * sz) ty' xs 0 us.toArray w hg (by simp; omega) h1
  rw [Addr_add]
  refine ⟨_, hrun, ?_⟩
  -- the flag
  have s1 := Step.flag hR hb
  refine s1.trans ?_
  have hR1 := s1.rel
  have hb1 : (s.put b (.row c ty sz true anc)).get b = some (.row c ty sz true anc) := by rw [St.get_put, if_pos rfl]
  generalize hS : s.put b (.row c ty sz true anc) = S at *
  have hSz : S.size = s.size := by rw [← hS]; rfl
  -- the cells behind the row
  have hothers : ∀ d y q, d ≠ b → S.get d = some y → y.alive → ρ d = some q → q.blk = m.blk → Under d y q (.row c ty sz false anc) m := fun d y q hne hd hy hq hblk => by
    have hd0 : s.get d = some y := by rw [← hS, St.get_put, if_neg hne] at hd; exact hd
    rcases hR.dis d b y _ q m hd0 hb hy trivial hq hm hne hblk with hu | hu
    · exact hu
    · cases y with
      | row => have := hu.1; cases this
      | _ => exact hu.elim
  have hw1 : ∀ (cy : List V) (q : Loc), q.blk = m.blk → q.off + cy.length ≤ m.off + c.length → ∀ (ty1 : TypeId) (sz1 : Nat) (nx : Bool) (an : List Nat), BOK ρ w q (.row cy ty1 sz1 nx an) → BOK ρ (w.setRow m.blk (us.toArray.toList.take (m.off + off + len * sz + 0) ++ xs ++ us.toArray.toList.drop (m.off + off + len * sz + 0 + xs.length)).toArray) q (.row cy ty1 sz1 nx an) := by
    rintro cy q hq hle ty1 sz1 nx an ⟨us1, ty2, g1, g2, g3, g4⟩
    rw [hq] at g1
    rw [hg] at g1
    injection g1 with g1
    injection g1 with g1 g1'
    have g1 : us = us1 := by simpa using g1
    subst g1
    refine ⟨_, ty', by rw [hq]; exact setRow_heap w m.blk _ _ ty' _ hg, ?_, ?_, g4⟩
    · intro i v hv
      obtain ⟨u, hu, he⟩ := g2 i v hv
      refine ⟨u, ?_, he⟩
      have hi : i < cy.length := (List.getElem?_eq_some_iff.1 hv).1
      simp only [Nat.add_zero]
      rw [List.append_assoc, List.getElem?_append_left (by simp; omega), List.getElem?_take, if_pos (by omega)]
      exact hu
    · simp; omega
  have s2 : Step W0 ρ S w ρ S (w.setRow m.blk (us.toArray.toList.take (m.off + off + len * sz + 0) ++ xs ++ us.toArray.toList.drop (m.off + off + len * sz + 0 + xs.length)).toArray) := by
    refine Step.write hR1 hb1 trivial (by trivial) hm rfl (fun d hd => Or.inl rfl) hb1 (Below.row hR.below hB _) (size_setRow _ _ _) (fun r hr => setRow_other w _ r _ hr) (hw1 c m rfl (Nat.le_refl _) _ _ _ _ ⟨us, ty', hg, hE, hcap, hcl⟩) ?_
    intro d y q hne hd hy hq hblk
    have hu := hothers d y q hne hd hy hq hblk
    obtain ⟨_, q', hq', _, _, hoky⟩ := hR1.blk d _ hd
    rw [hq] at hq'; injection hq' with e; subst e
    cases y with
    | row cy ty1 sz1 nx an => exact ⟨Or.inl hu, hw1 cy q hblk hu.2.2 _ _ _ _ hoky⟩
    | _ => exact hu.elim
  refine s2.trans ?_
  have hR2 := s2.rel
  have hnone : ρ S.size = none := hR2.fresh _ (Nat.le_refl _)
  have hgn : S.get S.size = none := by
    cases hgn : S.get S.size with
    | none => rfl
    | some y => have := (hR2.blk _ _ hgn).1; omega
  rw [← hSz]
  have hle := Rho.le_upd (ρ := ρ) (b := S.size) ⟨m.blk, m.off + off, m.cap - k⟩ hnone
  have hR3 := hR2.place (id := S.size) (n := S.size + 1) ⟨m.blk, m.off + off, m.cap - k⟩ hnone hgn (by omega) (by omega)
  have hb2 : b < S.size := by rw [hSz]; exact hbs
  have hR4 := hR3.add' (id := S.size) (x := .row (old ++ new) e sz false (b :: anc)) (by show S.size < S.size + 1; omega) (Rho.upd_same _ _ _) hB (by rw [size_setRow]; exact hlt) (by
    intro d y q hne hd hy hq hblk
    have hd : S.get d = some y := hd
    rw [Rho.upd_other _ _ hne] at hq
    by_cases hdb : d = b
    · subst hdb
      rw [hb1] at hd; injection hd with hd; subst hd
      rw [hm] at hq; injection hq with hq; subst hq
      refine ⟨rfl, List.mem_cons_self, ?_⟩
      simp [holen]; omega
    · have hu := hothers d y q hdb hd hy hq hblk
      cases y with
      | row cy ty1 sz1 nx an =>
        refine ⟨hu.1, List.mem_cons_of_mem _ hu.2.1, ?_⟩
        have := hu.2.2
        simp [holen]; omega
      | _ => exact hu.elim) (by
    refine ⟨_, ty', setRow_heap w m.blk _ _ ty' _ hg, ?_, ?_, ?_⟩
    · intro i v hv
      simp only [Nat.add_zero]
      by_cases hi : i < len * sz
      · rw [List.getElem?_append_left (by rw [holen]; exact hi)] at hv
        obtain ⟨u, hu, he⟩ := hEo.at hv
        refine ⟨u, ?_, he.mono hle⟩
        have := hos i u hu
        rw [Addr_add, cell_of_row w m.blk _ _ _ _ hg] at this
        rw [List.append_assoc, List.getElem?_append_left (by simp; omega), List.getElem?_take, if_pos (by omega)]
        simpa using this
      · rw [List.getElem?_append_right (by rw [holen]; omega), holen] at hv
        obtain ⟨u, hu, he⟩ := hEn.at hv
        have hiu : i - len * sz < xs.length := (List.getElem?_eq_some_iff.1 hu).1
        refine ⟨u, ?_, he.mono hle⟩
        rw [List.getElem?_append_left (by simp; omega), List.getElem?_append_right (by simp; omega)]
        simp only [List.length_take]
        rw [show m.off + off + i - min (m.off + off + len * sz) us.toArray.toList.length = i - len * sz by simp; omega]
        exact hu
    · have : (m.cap - k) * sz + k * sz = m.cap * sz := by rw [← Nat.add_mul]; congr 1; omega
      simp; omega
    · rw [List.length_append, holen, hnew, ← Nat.add_mul]; exact Nat.mul_le_mul_right _ hroom)
  have hmimg : Img ρ S m.blk := ⟨b, _, m, hb1, trivial, hm, rfl⟩
  refine ⟨hle, hR4, by rw [St.size_alloc]; omega, Nat.le_refl _, fun _ _ _ => rfl, ?_, fun d hd hn => by rw [St.get_alloc, if_neg (by omega)]; exact hn, fun d hd hn => by rw [Rho.upd_other _ _ (by omega)]; exact hn, ?_⟩
  · rintro r hr ⟨d, y, q, hd, hy, hq, rfl⟩
    rw [St.get_alloc] at hd
    by_cases hds : d = S.size
    · subst hds
      rw [Rho.upd_same] at hq; injection hq with hq; subst hq
      exact hmimg
    · rw [if_neg hds] at hd
      rw [Rho.upd_other _ _ hds] at hq
      exact ⟨d, y, q, hd, hy, hq, rfl⟩
  · intro d y hy
    rw [St.get_alloc]
    by_cases hds : d = S.size
    · rw [if_pos hds]; exact ⟨_, rfl⟩
    · rw [if_neg hds]; exact ⟨y, hy⟩
end Go.Clo
/- The interpreter of closed runs, a part of it. -/
namespace Go.Clo
set_option linter.unusedSimpArgs false
set_option linter.unusedVariables false
set_option linter.unnecessarySimpa false
open Go Go.RowKit

variable {P : Program}

theorem appendN_inv {s s' : St} {e sz n : Nat} {new : List V} {v : V} (h : appendN s e sz n new = .ok (v, s')) : (n = 0 ∧ v = .nils ∧ s' = s) ∨ (n ≠ 0 ∧ v = .sl s.size 0 n (.open_ 0) ∧ s' = s.alloc (.row new e sz false [])) := by
  unfold appendN at h
  cases hn : Nat.beq n 0 with
  | true => rw [hn] at h; injection h with h; simp only [Prod.mk.injEq] at h; exact Or.inl ⟨beq_eq hn, h.1.symm, h.2.symm⟩
  | false => rw [hn] at h; injection h with h; simp only [Prod.mk.injEq] at h; exact Or.inr ⟨beq_false hn, h.1.symm, h.2.symm⟩
theorem appendE_inv {s s' : St} {e sz b off len n k : Nat} {old new : List V} {v : V} (h : appendE s e sz b off len n k old new = .ok (v, s')) :
    (len + n ≤ k ∧ n = 0 ∧ v = .sl b off len (.exact k) ∧ s' = s) ∨ (len + n ≤ k ∧ s.store b (off + len * sz) new = .ok s' ∧ v = .sl b off (len + n) (.exact k)) ∨ (k < len + n ∧ v = .sl s.size 0 (len + n) (.open_ 0) ∧ s' = s.alloc (.row (old ++ new) e sz false [])) := by
  unfold appendE at h
  cases hk : Nat.ble (len + n) k with
  | true =>
    rw [hk] at h
    cases hn : Nat.beq n 0 with
    | true => rw [hn] at h; injection h with h; simp only [Prod.mk.injEq] at h; exact Or.inl ⟨ble_le hk, beq_eq hn, h.1.symm, h.2.symm⟩
    | false =>
      rw [hn] at h
      obtain ⟨s2, h1, h2⟩ := M.bind_ok h
      injection h2 with h2; simp only [Prod.mk.injEq] at h2; obtain ⟨rfl, rfl⟩ := h2
      exact Or.inr (Or.inl ⟨ble_le hk, h1, rfl⟩)
  | false => rw [hk] at h; injection h with h; simp only [Prod.mk.injEq, appN_eq] at h; exact Or.inr (Or.inr ⟨ble_false hk, h.1.symm, h.2.symm⟩)
theorem appendR_inv {s s' : St} {e sz b off len n : Nat} {c : List V} {ty : TypeId} {next : Bool} {anc : List Nat} {cap : Cap} {old new : List V} {v : V} (h : appendR s e sz b off len n c ty next anc cap old new = .ok (v, s')) :
    (off + (len + n) * sz ≤ c.length ∧ n = 0 ∧ v = .sl b off len cap ∧ s' = s) ∨ (off + (len + n) * sz ≤ c.length ∧ s.store b (off + len * sz) new = .ok s' ∧ v = .sl b off (len + n) cap) ∨
      (c.length < off + (len + n) * sz ∧ next = false ∧ off + len * sz = c.length ∧ flatL new = true ∧ v = .sl s.size 0 (len + n) (.open_ 0) ∧ s' = (s.put b (.row c ty sz true anc)).alloc (.row (old ++ new) e sz false (b :: anc))) := by
  unfold appendR at h
  cases hk : Nat.ble (off + (len + n) * sz) (lenN c) with
  | true =>
    rw [hk] at h
    have hk := ble_le hk
    rw [lenN_eq] at hk
    cases hn : Nat.beq n 0 with
    | true => rw [hn] at h; injection h with h; simp only [Prod.mk.injEq] at h; exact Or.inl ⟨hk, beq_eq hn, h.1.symm, h.2.symm⟩
    | false =>
      rw [hn] at h
      obtain ⟨s2, h1, h2⟩ := M.bind_ok h
      injection h2 with h2; simp only [Prod.mk.injEq] at h2; obtain ⟨rfl, rfl⟩ := h2
      exact Or.inr (Or.inl ⟨hk, h1, rfl⟩)
  | false =>
    rw [hk] at h
    have hk := ble_false hk
    rw [lenN_eq] at hk
    obtain ⟨h1, h⟩ := ask_ok h
    obtain ⟨h2, h3, h4⟩ := and3 h1
    have h3 := beq_eq h3
    rw [lenN_eq] at h3
    injection h with h; simp only [Prod.mk.injEq, appN_eq] at h
    exact Or.inr (Or.inr ⟨hk, by cases next <;> simp at h2 ⊢, h3, h4, h.1.symm, h.2.symm⟩)
theorem appendO_inv {s s' : St} {e sz b off len n : Nat} {cap : Cap} {old new : List V} {v : V} (h : appendO s e sz b off len n cap old new = .ok (v, s')) :
    ∃ c ty next anc k, s.get b = some (.row c ty sz next anc) ∧ cap = .open_ k ∧ off = k * sz ∧ appendR s e sz b off len n c ty next anc cap old new = .ok (v, s') := by
  unfold appendO at h
  cases hb : s.get b with
  | none => rw [hb] at h; cases h
  | some x =>
    rw [hb] at h
    cases x with
    | row c ty sz' next anc =>
      obtain ⟨h1, h⟩ := ask_ok h
      rw [Bool.and_eq_true] at h1
      have h2 := beq_eq h1.1
      subst h2
      cases cap with
      | exact k => cases h1.2
      | open_ k => exact ⟨c, ty, next, anc, k, rfl, rfl, beq_eq h1.2, h⟩
    | _ => cases h
/-- An append, where it is told what the operation makes of the model's memory. -/
theorem append_core {o : Oper} {a : Act} {W0 : World} {ρ : Rho} {s s' : St} {w : World} {x : Operand} {vx v : V} {n : Nat} {new : List V} {xs : List Value} {i : TypeInfo} {z : Value} {el' : TypeId} (hR : Rel W0 ρ s w) (ex : E ρ vx (a.eval x))
    (g1 : EL ρ new xs) (g2 : xs.length = n * i.size) (hsz : 0 < i.size) (hzs : z.cells.size = i.size) (hnewl : new.length = n * i.size)
    (Hnone : n = 0 → a.eval x = .slice none 0 0 → (execOp a.eval o).run P w = .ok (.value (.slice none 0 0)) w)
    (Hfit : ∀ ad sLen sCap w', a.eval x = .slice (some ad) sLen sCap → sLen + n ≤ sCap → (storeCells (ad.add (sLen * i.size)) xs).run P w = .ok () w' → (execOp a.eval o).run P w = .ok (.value (.slice (some ad) (sLen + n) sCap)) w')
    (Hgrow : ∀ base sLen sCap (os : List Value), a.eval x = .slice base sLen sCap → (Builtin.firstCells i.size sLen (.slice base sLen sCap)).run P w.drew = .ok os.toArray w.drew → sCap < sLen + n → sLen + n ≤ 1073741824 → (sLen + n) * i.bytes ≤ 1073741824 →
      (execOp a.eval o).run P w = .ok (.value (.slice (some ⟨w.heap.size, 0, none⟩) (sLen + n) (grownCap w (sLen + n) sCap el'))) (w.drew.alloc (.cells ((os ++ xs).toArray ++ Builtin.zeroCells z.cells (grownCap w (sLen + n) sCap el' - (sLen + n))) el')))
    (h : appendW s el' i.size i.bytes vx n new = .ok (v, s')) :
    ∃ (u : Value) (w' : World) (ρ' : Rho), ((execOp a.eval o).run P w = .ok (.value u) w' ∨ (execOp a.eval o).run P w = .ok .skip w' ∧ u = undef) ∧ Step W0 ρ s w ρ' s' w' ∧ E ρ' v u := by
  unfold appendW at h
  cases vx with
  | nils =>
    simp only [E] at ex
    obtain ⟨h5, h⟩ := ask_ok h
    rw [Bool.and_eq_true] at h5
    have h6 := ble_le h5.1
    have h7 := ble_le h5.2
    rcases appendN_inv h with ⟨rfl, rfl, rfl⟩ | ⟨hn, rfl, rfl⟩
    · refine ⟨.slice none 0 0, w, ρ, Or.inl ?_, Step.refl hR, by simp only [E]⟩
      exact Hnone rfl ex
    · have hk := grownCap_ge w (0 + n) 0 el'
      have hst := grown_row hR (e := el') (sz := i.size) (k := grownCap w (0 + n) 0 el') (need := 0 + n) (z := z) (by simpa using g1) hzs (by rw [hnewl, Nat.zero_add]) hk []
      refine ⟨.slice (some ⟨w.heap.size, 0, none⟩) (0 + n) (grownCap w (0 + n) 0 el'), _, _, Or.inl ?_, hst, ?_⟩
      · have := Hgrow none 0 0 [] ex (by simp [Builtin.firstCells]) (by omega) (by omega) (by rw [Nat.zero_add]; omega)
        simpa using this
      · simp only [E]
        exact ⟨_, Rho.upd_same _ _ _, by simp⟩
  | slz b off k =>
    obtain ⟨h5, h⟩ := ask_ok h
    rw [Bool.and_eq_true] at h5
    have h6 := ble_le h5.1
    have h7 := ble_le h5.2
    simp only [E] at ex
    obtain ⟨m, hm, p, hx, hp⟩ := ex
    unfold appendZ at h
    cases hb : s.get b with
    | none => rw [hb] at h; cases h
    | some blk =>
    rw [hb] at h
    cases blk with
    | row c cty sz' next anc =>
      simp only at h
      obtain ⟨h8, h9⟩ := ask_ok h
      clear h
      simp only [Bool.and_eq_true] at h8
      obtain ⟨⟨⟨⟨⟨k1, k2⟩, k3⟩, k4⟩, hfl⟩, k6⟩ := h8
      have k1 := beq_eq k1
      subst k1
      have hoff := beq_eq k2
      have k4 := beq_eq k4
      rw [lenN_eq] at k4
      have hnpos := blt_lt k6
      have hnext : next = false := by cases next <;> simp_all
      subst hnext
      injection h9 with h9
      simp only [Prod.mk.injEq] at h9
      obtain ⟨rfl, rfl⟩ := h9
      have hold : s.cells b off (0 * i.size) = .ok [] := by
        unfold St.cells
        rw [hb]
        show cut c off (0 * i.size) = .ok []
        rw [Nat.zero_mul]
        have : ∀ l : List V, ask (lenLe 0 l) "load outside" (M.ok (takeN l 0)) = .ok [] := fun l => by cases l <;> rfl
        exact this _
      have hos : ∀ (j : Nat) (u : Value), ([] : List Value)[j]? = some u → w.cell? ((⟨m.blk, m.off + off, none⟩ : Addr).add j) = some u := fun j u hu => by simp at hu
      by_cases hroom : 0 + n ≤ m.cap - k
      · have hpe := hp (by omega)
        subst hpe
        obtain ⟨w', hr, hst⟩ := inPlace (P := P) hR (e := el') hb hm hold EL.nil hos g1 hfl hoff (by rw [Nat.zero_mul, Nat.add_zero]; exact k4) hnewl hroom hnpos hsz
        refine ⟨_, w', ρ.upd s.size ⟨m.blk, m.off + off, m.cap - k⟩, Or.inl (Hfit _ _ _ _ hx hroom hr), ?_, ?_⟩
        · simpa using hst
        · simp only [E]
          exact ⟨_, Rho.upd_same _ _ _, by simp⟩
      · have hflag := Step.flag hR hb
        have hk := grownCap_ge w (0 + n) (m.cap - k) el'
        have hst := grown_row hflag.rel (e := el') (sz := i.size) (k := grownCap w (0 + n) (m.cap - k) el') (need := 0 + n) (z := z) (by simpa using g1) hzs (by rw [hnewl, Nat.zero_add]) hk (b :: anc)
        refine ⟨.slice (some ⟨w.heap.size, 0, none⟩) (0 + n) (grownCap w (0 + n) (m.cap - k) el'), _, _, Or.inl ?_, hflag.trans hst, ?_⟩
        · have := Hgrow (some p) 0 (m.cap - k) [] hx (by simp only [Builtin.firstCells, Nat.zero_mul]; exact run_loadCells_list _ _ [] (fun j u hu => by simp at hu)) (by omega) (by omega) (by rw [Nat.zero_add]; omega)
          simpa using this
        · simp only [E]
          exact ⟨_, Rho.upd_same _ _ _, by simp⟩
    | _ => cases h
  | sl b off len cap =>
    obtain ⟨h5, h⟩ := ask_ok h
    rw [Bool.and_eq_true] at h5
    have h6 := ble_le h5.1
    have h7 := ble_le h5.2
    obtain ⟨old, h8, h⟩ := M.bind_ok h
    have hb' : ∃ m c, ρ b = some m ∧ a.eval x = .slice (some ⟨m.blk, m.off + off, none⟩) len c := by cases cap <;> (simp only [E] at ex; obtain ⟨l, hl, he⟩ := ex; exact ⟨l, _, hl, he⟩)
    obtain ⟨m, sCap, hm, hx⟩ := hb'
    obtain ⟨os, q1, q2, q3⟩ := cells_ok hR hm h8
    have holdl : old.length = len * i.size := by rw [← q1.len]; exact q2
    have hofirst : ∀ (w' : World), w'.heap = w.heap → ∀ c, (Builtin.firstCells i.size len (.slice (some ⟨m.blk, m.off + off, none⟩) len c)).run P w' = .ok os.toArray w' := fun w' hw' c => by
      simp only [Builtin.firstCells]
      rw [← q2]
      exact run_loadCells_list w' _ os (fun j u hu => by simpa [World.cell?, hw'] using q3 j u hu)
    have hfull : ∀ (sCap : Nat), sCap < len + n → a.eval x = .slice (some ⟨m.blk, m.off + off, none⟩) len sCap → ∀ (S : St) (anc : List Nat), Rel W0 ρ S w → Step W0 ρ s w ρ S w →
        ∃ (u : Value) (w' : World) (ρ' : Rho), ((execOp a.eval o).run P w = .ok (.value u) w' ∨ (execOp a.eval o).run P w = .ok .skip w' ∧ u = undef) ∧ Step W0 ρ s w ρ' (S.alloc (.row (old ++ new) el' i.size false anc)) w' ∧ E ρ' (.sl S.size 0 (len + n) (.open_ 0)) u := by
      intro sCap hgt hx S anc hRS hSt
      have hk := grownCap_ge w (len + n) sCap el'
      have hst := grown_row hRS (e := el') (sz := i.size) (k := grownCap w (len + n) sCap el') (need := len + n) (z := z) (q1.app g1) hzs (by rw [List.length_append, holdl, hnewl, ← Nat.add_mul]) hk anc
      refine ⟨.slice (some ⟨w.heap.size, 0, none⟩) (len + n) (grownCap w (len + n) sCap el'), _, _, Or.inl ?_, hSt.trans hst, ?_⟩
      · exact Hgrow _ _ _ os hx (hofirst w.drew rfl sCap) hgt h7 h6
      · simp only [E]
        exact ⟨_, Rho.upd_same _ _ _, by simp⟩
    have hfit : ∀ (sCap : Nat), len + n ≤ sCap → a.eval x = .slice (some ⟨m.blk, m.off + off, none⟩) len sCap → ∀ {w' : World}, (storeCells ((⟨m.blk, m.off + off, none⟩ : Addr).add (len * i.size)) xs).run P w = .ok () w' →
        (execOp a.eval o).run P w = .ok (.value (.slice (some ⟨m.blk, m.off + off, none⟩) (len + n) sCap)) w' := by
      intro sCap hle hx w' hst
      exact Hfit _ _ _ _ hx hle hst
    have hempty : n = 0 → xs = [] := fun hn => by subst hn; exact List.eq_nil_of_length_eq_zero (by simpa using g2)
    cases cap with
    | exact k =>
      simp only [E] at ex; obtain ⟨m', hm', ex⟩ := ex
      rw [hm] at hm'; injection hm' with e; subst e
      rcases appendE_inv h with ⟨hle, rfl, rfl, rfl⟩ | ⟨hle, h9, rfl⟩ | ⟨hle, rfl, rfl⟩
      · refine ⟨_, w, ρ, Or.inl (hfit k hle ex (by rw [hempty rfl]; rfl)), Step.refl hR, ?_⟩
        simp only [E]; exact ⟨m, hm, rfl⟩
      · obtain ⟨w', hr, hst⟩ := store_ok (P := P) hR hm g1 h9
        refine ⟨_, w', ρ, Or.inl (hfit k hle ex (by rw [Addr_add, Nat.add_assoc]; exact hr)), hst, ?_⟩
        simp only [E]; exact ⟨m, hm, rfl⟩
      · exact hfull k hle ex s [] hR (Step.refl hR)
    | open_ j =>
      simp only [E] at ex; obtain ⟨m', hm', ex⟩ := ex
      rw [hm] at hm'; injection hm' with e; subst e
      obtain ⟨c, cty, next, anc, j', hb, hj, hoff, h⟩ := appendO_inv h
      injection hj with hj; subst hj
      obtain ⟨hbs, m', hm', hB, hlt, hok⟩ := hR.blk b _ hb
      rw [hm] at hm'; injection hm' with e; subst e
      obtain ⟨us, cty', hg, hE, hcap, hcl⟩ := hok
      have hroom' : off + (len + n) * i.size ≤ c.length → len + n ≤ m.cap - j := fun hle => by
        have h11 : (j + (len + n)) * i.size ≤ m.cap * i.size := by rw [Nat.add_mul, ← hoff]; exact Nat.le_trans hle hcl
        have := Nat.le_of_mul_le_mul_right h11 hsz
        omega
      rcases appendR_inv h with ⟨hle, rfl, rfl, rfl⟩ | ⟨hle, h12, rfl⟩ | ⟨hle, rfl, hend, hfl, rfl, rfl⟩
      · refine ⟨_, w, ρ, Or.inl (hfit _ (hroom' hle) ex (by rw [hempty rfl]; rfl)), Step.refl hR, ?_⟩
        simp only [E]; exact ⟨m, hm, rfl⟩
      · obtain ⟨w', hr, hst⟩ := store_ok (P := P) hR hm g1 h12
        refine ⟨_, w', ρ, Or.inl (hfit _ (hroom' hle) ex (by rw [Addr_add, Nat.add_assoc]; exact hr)), hst, ?_⟩
        simp only [E]; exact ⟨m, hm, rfl⟩
      · have hflag := Step.flag hR hb
        by_cases hroom : len + n ≤ m.cap - j
        · have hnpos : 0 < n := by
            rcases Nat.eq_zero_or_pos n with hn | hn
            · subst hn; rw [Nat.add_zero, hend] at hle; exact absurd hle (Nat.lt_irrefl _)
            · exact hn
          obtain ⟨w', hr, hst⟩ := inPlace (P := P) hR (e := el') hb hm h8 q1 q3 g1 hfl hoff hend hnewl hroom hnpos hsz
          refine ⟨_, w', _, Or.inl (hfit _ hroom ex hr), hst, ?_⟩
          simp only [E]
          exact ⟨_, Rho.upd_same _ _ _, by simp⟩
        · exact hfull _ (by omega) ex _ (b :: anc) hflag.rel hflag
  | _ => cases h
theorem fAppend_eff {o : Oper} {args : Array Operand} {tys : Array TypeId} (ho : o.op = .call { callee := .builtin .append, args, argTypes := tys }) {g : Fr → St → M (V × St)} (h : fAppend P tys.toList args.toList = .eff g) : EffOK P o g := by
  unfold fAppend at h
  split at h
  · rename_i ty ty' r x y hty ha
    split at h
    · rename_i hrow
      obtain ⟨⟨el, sz⟩, hen, h⟩ := orBad_eff h
      obtain ⟨by_, hby, h⟩ := orBad_eff h
      obtain ⟨zc, hzc, h⟩ := orBad_eff h
      obtain ⟨⟨el', hu⟩, h⟩ := isSlice_eff h
      obtain rfl := elem_slice hen hu
      injection h with h; subst h
      obtain ⟨hsz, hs, _⟩ := elemT_ok hen
      obtain rfl := toList_two ha
      have hu' := isRow_ok hrow
      have ht0 : tys[0]? = some ty := headTy hty
      have ht1 : tys[1]? = some ty' := by cases tys; simp at hty; subst hty; simp
      obtain ⟨i, z, hi, hz, hzl, hzE⟩ := zeroCells_ok hzc
      simp only at hzl
      have hzs : z.cells.size = sz := by have := (hzE (fun _ => none)).len; simp at this; omega
      have hisz : i.size = sz := by obtain ⟨i', h1, h2⟩ := sizeT_ok hs; rw [hi] at h1; injection h1 with h1; rw [h1]; exact h2
      have hiby : i.bytes = by_ := by unfold bytesT at hby; rw [hi] at hby; injection hby
      subst hisz
      subst hiby
      intro W0 ρ s w t a v s' hR hf h
      unfold gAppend at h
      obtain ⟨vx, h1, h⟩ := M.bind_ok h
      obtain ⟨vy, h2, h⟩ := M.bind_ok h
      have ex := ev_ok hf h1
      have ey := ev_ok hf h2
      unfold appendV at h
      obtain ⟨n, h3, h⟩ := M.bind_ok h
      obtain ⟨new, h4, h⟩ := M.bind_ok h
      obtain ⟨xs, g1, g2, g3⟩ := first_ok (P := P) hR hsz ey h4 (fun k hk => by rw [h3] at hk; injection hk with hk; omega)
      have hnewl : new.length = n * i.size := by rw [← g1.len]; exact g2
      obtain ⟨cst, hcs⟩ := run_builtin' (P := P) ho a
      have hly := fun w => lenV_ok (P := P) ey h3 w
      have hrun : ∀ {r : Value} {w' : World}, (Builtin.append_ tys o.type #[a.eval x, a.eval y]).run P w = .ok r w' → (execOp a.eval o).run P w = .ok (.value r) w' := fun hr => by
        rw [hcs]; simp [builtin, hr]
      exact append_core (P := P) hR ex g1 g2 hsz hzs hnewl
        (fun hn hx => hrun (by subst hn; rw [hx]; exact append_none ht0 ht1 hu hu' hs (hly w) (g3 w rfl)))
        (fun ad sLen sCap w' hx hle hst => hrun (by rw [hx]; exact append_fit ht0 ht1 hu hu' hs (hly w) (g3 w rfl) hle hst))
        (fun base sLen sCap os hx ho hgt h63 hb => hrun (by rw [hx]; exact append_grow (P := P) (rt := o.type) ht0 ht1 hu hu' hi hz (hly w) (drew_first g3) ho hgt h63 hb))
        h
    · split at h
      · rename_i kk hu'
        obtain ⟨⟨el, sz⟩, hen, h⟩ := orBad_eff h
        obtain ⟨by_, hby, h⟩ := orBad_eff h
        obtain ⟨zc, hzc, h⟩ := orBad_eff h
        obtain ⟨⟨el', hu⟩, h⟩ := isSlice_eff h
        obtain rfl := elem_slice hen hu
        injection h with h; subst h
        obtain ⟨hsz, hs, _⟩ := elemT_ok hen
        obtain rfl := toList_two ha
        have ht0 : tys[0]? = some ty := headTy hty
        have ht1 : tys[1]? = some ty' := by cases tys; simp at hty; subst hty; simp
        obtain ⟨i, z, hi, hz, hzl, hzE⟩ := zeroCells_ok hzc
        simp only at hzl
        have hzs : z.cells.size = sz := by have := (hzE (fun _ => none)).len; simp at this; omega
        have hisz : i.size = sz := by obtain ⟨i', h1, h2⟩ := sizeT_ok hs; rw [hi] at h1; injection h1 with h1; rw [h1]; exact h2
        have hiby : i.bytes = by_ := by unfold bytesT at hby; rw [hi] at hby; injection hby
        subst hisz
        subst hiby
        intro W0 ρ s w t a v s' hR hf h
        unfold gAppendZ at h
        obtain ⟨vx, h1, h⟩ := M.bind_ok h
        obtain ⟨vy, h2, h⟩ := M.bind_ok h
        obtain ⟨n, h3, h⟩ := M.bind_ok h
        have ex := ev_ok hf h1
        obtain ⟨k, hy⟩ := natI_ok h3 (ev_ok hf h2)
        obtain ⟨cst, hcs⟩ := run_builtin' (P := P) ho a
        have hrun : ∀ {r : Value} {w' : World}, (Builtin.append_ tys o.type #[a.eval x, .int k n]).run P w = .ok r w' → (execOp a.eval o).run P w = .ok (.value r) w' := fun hr => by
          rw [hcs]; simp [builtin, hy, hr]
        have hmade := EL_made (hzE ρ) (by omega) n
        have hnb : n ≤ 1073741824 ∧ n * i.bytes ≤ 1073741824 := by
          unfold appendW at h
          cases vx with
          | nils =>
            obtain ⟨h5, _⟩ := ask_ok h
            rw [Bool.and_eq_true] at h5
            exact ⟨ble_le h5.2, ble_le h5.1⟩
          | sl b off len cap =>
            obtain ⟨h5, _⟩ := ask_ok h
            rw [Bool.and_eq_true] at h5
            have h6 := ble_le h5.1
            have h7 := ble_le h5.2
            refine ⟨by omega, Nat.le_trans (Nat.mul_le_mul_right _ (by omega)) h6⟩
          | slz b off k =>
            obtain ⟨h5, _⟩ := ask_ok h
            rw [Bool.and_eq_true] at h5
            exact ⟨ble_le h5.2, ble_le h5.1⟩
          | _ => cases h
        have hxs : (repl n zc).length = n * i.size := by rw [← hmade.len]; simp [madeCells, hzl]
        refine append_core (P := P) (xs := (Builtin.zeroCells z.cells n).toList) hR ex ?_ ?_ hsz hzs hxs
          (fun hn hx => hrun (by subst hn; rw [hx]; exact append_noneZ ht0 ht1 hu hu' hi))
          (fun ad sLen sCap w' hx hle hst => hrun (by rw [hx]; exact append_fitZ ht0 ht1 hu hu' hi hz hzs hnb.1 hnb.2 hle hst))
          (fun base sLen sCap os hx ho hgt h63 hb => hrun (by rw [hx]; exact append_growZ ht0 ht1 hu hu' hi hz hzs ho hgt h63 hb))
          h
        · rw [zeroCells_made, hzs, ← hzl]; exact hmade
        · rw [zeroCells_made]; simp [madeCells, hzs]
      · cases h
  · cases h
end Go.Clo
/- The interpreter of closed runs, a part of it. -/
namespace Go.Clo
set_option linter.unusedSimpArgs false
set_option linter.unusedVariables false
set_option linter.unnecessarySimpa false
open Go Go.RowKit

variable {P : Program}

theorem orBad_call {α : Type} {x : Option α} {e : String} {f : α → OpF} {g : Operand} {l : List Operand} (h : orBad x e f = .call g l) : ∃ y, x = some y ∧ f y = .call g l := by
  cases x with
  | none => cases h
  | some y => exact ⟨y, rfl, h⟩
/-- What each function of the interpreter is worth. -/
def OpOK (P : Program) (o : Oper) : OpF → Prop
  | .pure f => PureOK P o f
  | .read f => ReadOK P o f
  | .float f => FloatOK P o f
  | .eff f => EffOK P o f
  | .call f args => ∃ c : Call, o.op = .call c ∧ c.callee = .value f ∧ c.args.toList = args
  | .bad _ => True
theorem orBad_ok {α : Type} {o : Oper} {x : Option α} {e : String} {f : α → OpF} (h : ∀ y, x = some y → OpOK P o (f y)) : OpOK P o (orBad x e f) := by
  cases x with
  | none => trivial
  | some y => exact h y rfl
theorem opok_of {o : Oper} {F : OpF} (h1 : ∀ f, F = .pure f → PureOK P o f) (h2 : ∀ f, F = .read f → ReadOK P o f) (h3 : ∀ f, F = .float f → FloatOK P o f) (h4 : ∀ f, F = .eff f → EffOK P o f) (h5 : ∀ f l, F ≠ .call f l) : OpOK P o F := by
  cases F with
  | pure f => exact h1 f rfl
  | read f => exact h2 f rfl
  | float f => exact h3 f rfl
  | eff f => exact h4 f rfl
  | call f l => exact absurd rfl (h5 f l)
  | bad e => trivial
/-- The shape of what a table's function gives. -/
inductive Sh where
  | pure | read | float | eff
def shOf : OpF → Sh → Prop
  | .pure _, .pure | .read _, .read | .float _, .float | .eff _, .eff | .bad _, _ => True
  | _, _ => False
theorem orBad_sh {α : Type} {x : Option α} {e : String} {f : α → OpF} {s : Sh} (h : ∀ y, shOf (f y) s) : shOf (orBad x e f) s := by
  cases x with
  | none => cases s <;> trivial
  | some y => exact h y
theorem isSlice_sh {ty : TypeId} {e : String} {f : OpF} {s : Sh} (h : shOf f s) : shOf (isSlice P ty e f) s := by
  unfold isSlice; split
  · exact h
  · cases s <;> trivial
theorem ok_pure {o : Oper} {F : OpF} (hs : shOf F .pure) (h : ∀ f, F = .pure f → PureOK P o f) : OpOK P o F := by
  cases F <;> first | exact h _ rfl | trivial | exact hs.elim
theorem ok_read {o : Oper} {F : OpF} (hs : shOf F .read) (h : ∀ f, F = .read f → ReadOK P o f) : OpOK P o F := by
  cases F <;> first | exact h _ rfl | trivial | exact hs.elim
theorem ok_float {o : Oper} {F : OpF} (hs : shOf F .float) (h : ∀ f, F = .float f → FloatOK P o f) : OpOK P o F := by
  cases F <;> first | exact h _ rfl | trivial | exact hs.elim
theorem ok_eff {o : Oper} {F : OpF} (hs : shOf F .eff) (h : ∀ f, F = .eff f → EffOK P o f) : OpOK P o F := by
  cases F <;> first | exact h _ rfl | trivial | exact hs.elim
theorem notSelect {o : Oper} {x : Op} (ho : o.op = x) (hx : ∀ cs b, x ≠ .select cs b) : ∀ cs b, o.op ≠ .select cs b := fun cs b => by rw [ho]; exact hx cs b

theorem fBuiltin_ok {o : Oper} {b : Builtin} {args : Array Operand} {tys : Array TypeId} (ho : o.op = .call { callee := .builtin b, args, argTypes := tys }) : OpOK P o (fBuiltin P o b args.toList tys.toList) := by
  have hns : ∀ cs b, o.op ≠ .select cs b := notSelect ho (by intro cs b h; cases h)
  unfold fBuiltin
  split
  · split
    · rename_i x ha
      refine opok_of (fun f h => fLen_pure ho ha h) (fun f h => fLen_read ho ha h) (fun f h => ?_) (fun f h => ?_) (fun f l h => ?_)
      all_goals
        unfold fLen at h
        split at h
        · cases h
        · split at h <;> first | (cases h; done) | (split at h <;> cases h; done)
    · trivial
  · split
    · rename_i x ha
      refine ok_pure ?_ (fun f h => fCap_pure ho ha h)
      unfold fCap
      split
      · trivial
      · split <;> trivial
    · trivial
  · split
    · rename_i x y ha
      exact gMax_ok (most := true) (by simpa using ho) ha
    · exact pureOp_ok hns
  · split
    · rename_i x y ha
      exact gMax_ok (most := false) (by simpa using ho) ha
    · exact pureOp_ok hns
  · refine ok_eff ?_ (fun f h => fAppend_eff ho h)
    unfold fAppend
    split
    · split
      · exact orBad_sh fun en => orBad_sh fun b => orBad_sh fun z => isSlice_sh trivial
      · split
        · exact orBad_sh fun en => orBad_sh fun b => orBad_sh fun z => isSlice_sh trivial
        · trivial
    · trivial
  · refine ok_eff ?_ (fun f h => fCopy_eff ho h)
    unfold fCopy
    split
    · exact orBad_sh fun en => isSlice_sh trivial
    · trivial
  · refine ok_eff ?_ (fun f h => fClear_eff ho h)
    unfold fClear
    split
    · exact orBad_sh fun en => orBad_sh fun z => isSlice_sh trivial
    · trivial
  · trivial
theorem opF_ok (o : Oper) : OpOK P o (opF P o) := by
  cases hop : o.op with
  | move x => simp only [opF, hop]; exact gMove_ok (Or.inl hop)
  | assign x => simp only [opF, hop]; exact gMove_ok (Or.inr hop)
  | pick c a b => simp only [opF, hop]; exact gPick_ok hop
  | build ty parts =>
    simp only [opF, hop]
    refine ok_pure ?_ (fun f h => fBuild_ok hop h)
    refine orBad_sh fun z => ?_
    split
    · exact orBad_sh fun _ => trivial
    · exact orBad_sh fun _ => trivial
    · trivial
  | nilCheck x => simp only [opF, hop]; exact gNil_ok hop
  | binOp op ty x y ty' => simp only [opF, hop]; exact gBin2_ok hop
  | unOp u ty x =>
    cases u with
    | not => simp only [opF, hop]; exact gNot_ok hop
    | _ => simp only [opF, hop]; exact pureOp_ok (notSelect hop (by intro cs b h; cases h))
  | convert src dst x =>
    simp only [opF, hop]
    refine opok_of (fun f h => gConv_ok hop h) (fun f h => gStr_ok hop h) (fun f h => ?_) (fun f h => ?_) (fun f l h => ?_)
    all_goals
      unfold fConv at h
      split at h <;> first | (cases h; done) | (split at h <;> cases h; done)
  | fieldAddr st x f =>
    simp only [opF, hop]
    refine ok_pure ?_ (fun f h => gOff_ok hop h)
    refine orBad_sh fun fd => ?_
    split <;> trivial
  | field st x f =>
    simp only [opF, hop]
    refine ok_pure ?_ (fun f h => gField_ok hop h)
    exact orBad_sh fun fd => orBad_sh fun _ => orBad_sh fun _ => trivial
  | indexAddr ty x ix =>
    simp only [opF, hop]
    refine ok_pure ?_ (fun f h => gIdx_ok hop h)
    refine orBad_sh fun en => ?_
    split <;> trivial
  | index ty x ix =>
    simp only [opF, hop]
    refine ok_pure ?_ (fun f h => gIndex_ok hop h)
    unfold fIndex
    split
    · exact orBad_sh fun _ => orBad_sh fun _ => trivial
    · trivial
  | makeFunc fn first captured =>
    simp only [opF, hop]
    refine ok_pure ?_ (fun f h => gFunc_ok hop h)
    unfold fFunc; split <;> trivial
  | makeInterface ty x =>
    simp only [opF, hop]
    refine ok_pure ?_ (fun f h => gIface_ok hop h)
    unfold fIface; split <;> trivial
  | extract x i => simp only [opF, hop]; exact gExtract_ok hop
  | load ty a =>
    simp only [opF, hop]
    refine ok_read ?_ (fun f h => gLoad_ok hop h)
    exact orBad_sh fun _ => orBad_sh fun _ => trivial
  | slice ty x lo hi mx =>
    simp only [opF, hop]
    by_cases hp : ∃ f, fSlice P o ty x lo hi mx = .pure f
    · obtain ⟨f, hf⟩ := hp
      rw [hf]
      unfold fSlice at hf
      split at hf
      · cases hf
      · split at hf
        · obtain ⟨_, _, h⟩ := orBad_pure hf; cases h
        · obtain ⟨_, _, h⟩ := orBad_pure hf; cases h
        · injection hf with hf; subst hf
          exact pureOp_ok (notSelect hop (by intro cs b h; cases h))
    · refine opok_of (fun f h => absurd ⟨f, h⟩ hp) (fun f h => fSlice_read hop h) (fun f h => ?_) (fun f h => ?_) (fun f l h => ?_)
      all_goals
        unfold fSlice at h
        split at h
        · cases h
        · split at h
          · first
              | (obtain ⟨_, _, h⟩ := orBad_float h; cases h; done)
              | (obtain ⟨_, _, h⟩ := orBad_eff h; cases h; done)
              | (obtain ⟨_, _, h⟩ := orBad_call h; cases h; done)
          · first
              | (obtain ⟨_, _, h⟩ := orBad_float h; cases h; done)
              | (obtain ⟨_, _, h⟩ := orBad_eff h; cases h; done)
              | (obtain ⟨_, _, h⟩ := orBad_call h; cases h; done)
          · cases h
  | lookup ty x k ok =>
    simp only [opF, hop]
    refine ok_read ?_ (fun f h => fLookup_read hop h)
    unfold fLookup
    split
    · exact orBad_sh fun _ => orBad_sh fun _ => trivial
    · trivial
  | alloc ty =>
    simp only [opF, hop]
    refine ok_float ?_ (fun f h => gAlloc_ok hop h)
    unfold fAlloc
    split
    · exact orBad_sh fun _ => trivial
    · trivial
  | box ty x => simp only [opF, hop]; exact gBox_ok hop
  | buildSlice ty len parts =>
    simp only [opF, hop]
    refine ok_float ?_ (fun f h => gLit_ok hop h)
    refine orBad_sh fun en => ?_
    split
    · exact orBad_sh fun _ => isSlice_sh trivial
    · trivial
  | makeSlice ty l c =>
    simp only [opF, hop]
    refine ok_float ?_ (fun f h => gMake_ok hop h)
    exact orBad_sh fun _ => orBad_sh fun _ => orBad_sh fun _ => isSlice_sh trivial
  | makeMap ty r =>
    cases r with
    | none => simp only [opF, hop]; exact gMap_ok hop
    | some r => simp only [opF, hop]; trivial
  | store ty a x =>
    simp only [opF, hop]
    refine ok_eff ?_ (fun f h => fStore_eff hop h)
    exact orBad_sh fun _ => trivial
  | mapUpdate ty x k y =>
    simp only [opF, hop]
    refine ok_eff ?_ (fun f h => fUpdate_eff (Or.inl hop) h)
    unfold fUpdate
    split
    · exact orBad_sh fun _ => trivial
    · trivial
  | insert ty x k y =>
    simp only [opF, hop]
    refine ok_eff ?_ (fun f h => fUpdate_eff (Or.inr hop) h)
    unfold fUpdate
    split
    · exact orBad_sh fun _ => trivial
    · trivial
  | call c =>
    simp only [opF, hop]
    unfold fCall
    obtain ⟨callee, args, tys⟩ := c
    cases callee with
    | value f => exact ⟨_, hop, rfl, rfl⟩
    | builtin b => exact fBuiltin_ok hop
    | invoke r m => trivial
  | _ => simp only [opF, hop]; trivial

/-- A scope that is gone through by jumps. -/
def goRounds (P : Program) (body : Code) (Q : Exit → Act → World → Prop) : Nat → Code → Act → World → Prop
  | 0, _, _, _ => False
  | n + 1, c, a, w => c.wp P (fun e a w => match e with
    | .goto l => match findLabel body l with
      | some rest => goRounds P body Q n rest a w
      | none => Q (.goto l) a w
    | e => Q e a w) a w
theorem wp_scope_rounds {Q : Exit → Act → World → Prop} {a : Act} {w : World} {body : Code} (n : Nat) (h : goRounds P body Q n body a w) : (Code.scope body).wp P Q a w := by
  intro b k cs
  have key : ∀ n c a w, goRounds P body Q n c a w → ∃ e a' w', Q e a' w' ∧ Arrives P (lone (b.at a (.code c :: .inScope body :: k)) cs w) b k cs e a' w' := by
    intro n
    induction n with
    | zero => intro c a w h; exact h.elim
    | succ n ih =>
      intro c a w h
      obtain ⟨e, a₁, w₁, hq, harr⟩ := h b (.inScope body :: k) cs
      cases e with
      | normal => exact ⟨.normal, a₁, w₁, hq, Steps.trans harr (.one step_inScope)⟩
      | exit id => exact ⟨.exit id, a₁, w₁, hq, fun k' hk => harr k' (by simp [exitTo, hk])⟩
      | goto l =>
        cases hf : findLabel body l with
        | none =>
          simp only [hf] at hq
          exact ⟨.goto l, a₁, w₁, hq, fun k' hk => harr k' (by simp [gotoIn, hf, hk])⟩
        | some rest =>
          simp only [hf] at hq
          obtain ⟨e₂, a₂, w₂, hq₂, harr₂⟩ := ih rest a₁ w₁ hq
          exact ⟨e₂, a₂, w₂, hq₂, .of_steps (harr _ (by simp [gotoIn, hf])) harr₂⟩
      | ret => exact ⟨_, a₁, w₁, hq, harr⟩
      | panic ch => exact ⟨_, a₁, w₁, hq, harr⟩
      | outgrown => exact ⟨_, a₁, w₁, hq, harr⟩
  obtain ⟨e, a', w', hq, harr⟩ := key n body a w h
  exact ⟨e, a', w', hq, .of_steps (.one step_scope) harr⟩
end Go.Clo
/- The interpreter of closed runs, a part of it. -/
namespace Go.Clo
set_option linter.unusedSimpArgs false
set_option linter.unusedVariables false
set_option linter.unnecessarySimpa false
open Go Go.RowKit

variable {P : Program} {W0 : World}

def exitOf : Ex → Exit
  | .normal => .normal
  | .exit id => .exit id
  | .goto l => .goto l
  | .ret => .ret
/-- No fence but that the frame is a round's, or none. -/
def FR (r : Option Nat) : Fence := { Fence.wide with round := r }
theorem FR_fn (r : Option Nat) (f : FuncId) : (FR r).fn f := trivial
/-- What stands behind a part of a run. -/
def Post (W0 : World) (B : Nat) (r : Option Nat) (ρ : Rho) (s : St) (w : World) (x : Ex) (t' : Fr) (s' : St) : Exit → Act → World → Prop :=
  fun e a' w' => e = exitOf x ∧ ∃ ρ', Step W0 ρ s w ρ' s' w' ∧ FrA B r ρ' s' w' t' a'
theorem Post.trans {B : Nat} {r : Option Nat} {ρ ρ1 : Rho} {s s1 : St} {w w1 : World} (h : Step W0 ρ s w ρ1 s1 w1) {x : Ex} {t' : Fr} {s' : St} {e : Exit} {a' : Act} {w' : World} (k : Post W0 B r ρ1 s1 w1 x t' s' e a' w') : Post W0 B r ρ s w x t' s' e a' w' := by
  obtain ⟨h1, ρ', h3, h4⟩ := k
  exact ⟨h1, ρ', h.trans h3, h4⟩
def RunOK (P : Program) (W0 : World) (ih : Run) : Prop :=
  ∀ c t s x t' s', ih c t s = .ok x t' s' → ∀ ρ w a B r, Rel W0 ρ s w → FrA B r ρ s w t a → B ≤ w.heap.size → c.wpIn (FR r) 0 P (Post W0 B r ρ s w x t' s') a w
/-- What a call is worth. -/
def Ret (W0 : World) (ρ : Rho) (s : St) (w : World) (v : V) (s' : St) : Ending → World → Prop :=
  fun e w' => ∃ ρ' u, e = .returned u ∧ Step W0 ρ s w ρ' s' w' ∧ E ρ' v u
def HookOK (P : Program) (W0 : World) (H : Hook) : Prop :=
  ∀ f args s v s', H f args s = some (.ok (v, s')) → ∀ ρ w (us : List Value), Rel W0 ρ s w → EL ρ args us → Calls P f us.toArray w (Ret W0 ρ s w v s')

/-- Frames at their begin. -/
theorem fillF_cons (v : V) (l : List V) (t : Tr V) (i : Nat) : fillF (v :: l) t i = fillF l (t.set i v) (i + 1) := rfl
theorem get_fillF : ∀ (l : List V) (t : Tr V) (i j : Nat), (fillF l t i).get j = if i ≤ j ∧ j < i + l.length then l[j - i]? else t.get j
  | [], t, i, j => by
    have h : ¬ (i ≤ j ∧ j < i + ([] : List V).length) := by simp only [List.length_nil]; omega
    rw [if_neg h]; rfl
  | v :: l, t, i, j => by
    rw [fillF_cons, get_fillF l (t.set i v) (i + 1) j, Tr.get_set]
    simp only [List.length_cons]
    by_cases h1 : j = i
    · subst h1
      rw [if_neg (by omega), if_pos rfl, if_pos (by omega)]
      simp
    · by_cases h2 : i + 1 ≤ j ∧ j < i + 1 + l.length
      · rw [if_pos h2, if_pos (by omega), show j - i = (j - (i + 1)) + 1 by omega]
        simp
      · rw [if_neg h2, if_neg h1, if_neg (by omega)]
theorem enterF_ok {ρ : Rho} {args : List V} {us : List Value} (h : EL ρ args us) (n : Nat) : FrE ρ (enterF args (Nat.max n (lenN args))) (us.toArray ++ Array.replicate (n - us.toArray.size) undef) := by
  have hl := h.len
  refine ⟨?_, fun i => ?_⟩
  · show _ = Nat.max n (lenN args)
    rw [lenN_eq]
    simp [hl]
    show _ = max n args.length
    omega
  · have hg : (enterF args (Nat.max n (lenN args))).get i = match (if 0 ≤ i ∧ i < 0 + args.length then args[i - 0]? else none) with | some v => v | none => undefV := by
      unfold Fr.get enterF
      simp only
      rw [get_fillF]
      rfl
    rw [hg]
    by_cases hi : i < args.length
    · rw [if_pos (by omega)]
      simp only [Nat.sub_zero]
      have h1 : args[i]? = some args[i] := by simp [hi]
      rw [h1]
      obtain ⟨u, hu, he⟩ := h.at h1
      have h2 : (us.toArray ++ Array.replicate (n - us.toArray.size) undef).getD i undef = u := by
        have : i < us.length := by omega
        have h3 : us[i] = u := (List.getElem?_eq_some_iff.1 hu).2
        simp [Array.getElem?_append, this, h3]
      rw [h2]; exact he
    · rw [if_neg (by omega)]
      have h2 : (us.toArray ++ Array.replicate (n - us.toArray.size) undef).getD i undef = undef := by
        have : ¬ i < us.length := by omega
        simp [Array.getElem?_append, this, Array.getElem?_replicate]
        split <;> rfl
      rw [h2]; exact E_undef

/-- The results of a call. -/
def resOne (tmps : Array Value) (x : ResultVar) : Sem Value := match x with
  | .tmp i => pure (tmps.getD i undef)
  | .cell x ty => do loadVar ty (← asAddr (tmps.getD x undef))
theorem results_eq (fn : Func) (tmps : Array Value) : results fn tmps = (do
    let vs ← fn.results.mapM (resOne tmps)
    pure (if h : vs.size = 1 then vs[0] else .tuple vs)) := by
  unfold results
  rfl
theorem resV_ok {ρ : Rho} {s : St} {w : World} {t : Fr} {a : Act} (hR : Rel W0 ρ s w) (hf : FrE ρ t a.tmps) : ∀ {l : List ResultVar} {r : List V}, resV P t s l = .ok r →
    ∃ us : List Value, EL ρ r us ∧ (l.mapM (resOne a.tmps)).run P w = .ok us w
  | [], r, h => by
    have : M.ok [] = M.ok r := h
    injection this with this; subst this
    exact ⟨[], EL.nil, rfl⟩
  | .tmp i :: l, r, h => by
    have h : (resV P t s l).bind (fun r => .ok (t.get i :: r)) = .ok r := h
    obtain ⟨r', h1, h2⟩ := M.bind_ok h
    injection h2 with h2; subst h2
    obtain ⟨us, h3, h4⟩ := resV_ok hR hf h1
    exact ⟨_, EL.cons (hf.2 i) h3, by simp only [List.mapM_cons, resOne, Sem.run_bind, Sem.run_pure, Result.andThen_ok, h4]⟩
  | .cell x ty :: l, r, h => by
    have h : (need (isAggT P ty) "result").bind (fun ag => (need (sizeT P ty) "result").bind fun n => (gLoad ag n (.tmp x) t s).bind fun v => (resV P t s l).bind fun r => .ok (v :: r)) = .ok r := h
    obtain ⟨ag, h1, h⟩ := M.bind_ok h
    obtain ⟨n, h2, h⟩ := M.bind_ok h
    obtain ⟨v, h3, h⟩ := M.bind_ok h
    obtain ⟨r', h4, h⟩ := M.bind_ok h
    injection h with h; subst h
    obtain ⟨us, h5, h6⟩ := resV_ok hR hf h4
    unfold gLoad at h3
    obtain ⟨p, h7, h3⟩ := M.bind_ok h3
    have e1 := ev_ok hf h7
    split at h3
    · simp only [E] at e1; obtain ⟨m, hm, hx⟩ := e1
      obtain ⟨u, hE, hr⟩ := loadVar_ok (P := P) (v := v) hR (need_ok h1) (need_ok h2) hm (by cases ag <;> exact h3)
      have hx : a.tmps.getD x undef = _ := hx
      refine ⟨_, EL.cons hE h5, ?_⟩
      simp only [List.mapM_cons, resOne, Sem.run_bind, hx, asAddr, Sem.run_pure, Result.andThen_ok, hr, h6]
    · cases h3
    · cases h3
theorem single_ok {ρ : Rho} {r : List V} {us : List Value} (h : EL ρ r us) : E ρ (single r) (if h : us.toArray.size = 1 then us.toArray[0] else .tuple us.toArray) := by
  cases r with
  | nil => rw [EL.nil_inv h]; simp only [single, E]; exact ⟨[], rfl, EL.nil⟩
  | cons v r =>
    obtain ⟨u, q, rfl, h1, h2⟩ := EL.cons_inv h
    cases r with
    | nil => rw [EL.nil_inv h2]; simpa [single] using h1
    | cons v' r =>
      obtain ⟨u', q', rfl, h3, h4⟩ := EL.cons_inv h2
      simp only [single, E]
      exact ⟨u :: u' :: q', by simp, h⟩
theorem run_results {ρ : Rho} {s : St} {w : World} {t : Fr} {a : Act} (hR : Rel W0 ρ s w) (hf : FrE ρ t a.tmps) {fn : Func} {r : List V} (h : resV P t s fn.results.toList = .ok r) :
    ∃ u, E ρ (single r) u ∧ (results fn a.tmps).run P w = .ok u w := by
  obtain ⟨us, h1, h2⟩ := resV_ok (P := P) hR hf h
  refine ⟨_, single_ok h1, ?_⟩
  have hl : fn.results = fn.results.toList.toArray := by simp
  rw [results_eq, hl, List.mapM_toArray]
  simp only [Sem.run_bind, Sem.run_map]
  rw [h2]
  simp
theorem callable_ok {f : FuncId} (h : callable P f = true) : ∃ fn body, P.funcs[f]? = some fn ∧ fn.body = some body ∧ (fn.name == "runtime.NumGoroutine") = false := by
  unfold callable at h
  split at h
  · rename_i fn hfn
    rw [Bool.and_eq_true] at h
    obtain ⟨body, hb⟩ := Option.isSome_iff_exists.1 h.1
    exact ⟨fn, body, hfn, hb, by simpa using h.2⟩
  · cases h
theorem leaves_dfr {ρ ρ' : Rho} {s s' : St} {w : World} (hR : Rel W0 ρ s w) {F : Fence} {n : Nat} {fn : Func} {tmps : Array Value} {R : Ending → World → Prop} : ∀ (rs : List Nat) (W : World), Step W0 ρ s w ρ' s' W → rs.Pairwise (· ≠ ·) →
    (∀ D ∈ rs, w.heap.size ≤ D ∧ D < W.heap.size ∧ ¬ Img ρ' s' D ∧ W.heap[D]? = some (.deferred (some []))) → (∀ W', Step W0 ρ s w ρ' s' W' → LeavesIn F n P fn tmps R [] .returning W') → LeavesInM F n P fn tmps R (rs.map markD) .returning W
  | [], W, hst, _, _, h => h W hst
  | D :: rs, W, hst, hp, hall, h => by
    have hp := List.pairwise_cons.1 hp
    obtain ⟨k1, k2, k3, k4⟩ := hall D (by simp)
    refine ⟨by simp, .inl ⟨D, _, rfl, run_takeDeferred k4, ?_⟩⟩
    refine leaves_dfr hR rs _ (hst.taken hR k1 k3 _ k2) hp.2 (fun x hx => ?_) h
    obtain ⟨q1, q2, q3, q4⟩ := hall x (by simp [hx])
    exact ⟨q1, by simp; exact q2, q3, by rw [World.putObj_heap_other (fun e => hp.1 x hx e.symm)]; exact q4⟩
theorem callV_ok {H : Hook} {ih : Run} (hih : RunOK P W0 ih) (hH : HookOK P W0 H) {f : FuncId} {args : List V} {s s' : St} {v : V} (h : callV P H ih f args s = .ok (v, s')) {ρ : Rho} {w : World} {us : List Value} (hR : Rel W0 ρ s w) (he : EL ρ args us) :
    Calls P f us.toArray w (Ret W0 ρ s w v s') := by
  unfold callV at h
  cases hh : H f args s with
  | some r =>
    rw [hh] at h
    simp only at h
    subst h
    exact hH f args s v s' hh ρ w us hR he
  | none =>
    rw [hh] at h
    simp only at h
    cases hfn : P.funcs[f]? with
    | none => rw [hfn] at h; cases h
    | some fn =>
      rw [hfn] at h
      simp only at h
      cases hb : fn.body with
      | none => rw [hb] at h; cases h
      | some body =>
        rw [hb] at h
        simp only at h
        cases hx : ih body (enterF args (Nat.max fn.ntmps (lenN args))) s with
        | err e => rw [hx] at h; cases h
        | ok x t1 s1 =>
          rw [hx] at h
          simp only at h
          have hwp := hih _ _ _ _ _ _ hx ρ w { tmps := us.toArray ++ Array.replicate (fn.ntmps - us.toArray.size) undef, defers := [] } w.heap.size none hR ⟨enterF_ok he fn.ntmps, Dfr.nil, trivial⟩ (Nat.le_refl _)
          refine (callsIn_wide (n := 0)).1 (callsIn_of_wp_marks (F := FR none) hfn hb (FR_fn _ _) (wpIn_mono hwp fun e a' w' hp => ?_))
          obtain ⟨rfl, ρ', hst, hf, hd, _⟩ := hp
          have fin : ∀ {m : M (V × St)}, ((resV P t1 s1 fn.results.toList).bind fun l => M.ok (single l, s1)) = .ok (v, s') → LeavesInM (FR none) 0 P fn a'.tmps (Ret W0 ρ s w v s') a'.defers .returning w' := fun {_} h => by
            obtain ⟨r, h1, h2⟩ := M.bind_ok h
            injection h2 with h2
            simp only [Prod.mk.injEq] at h2
            obtain ⟨rfl, rfl⟩ := h2
            obtain ⟨rs, hrs, hp, hall⟩ := hd
            rw [hrs]
            refine leaves_dfr hR rs w' hst hp hall fun W' hst' => ?_
            obtain ⟨u, hu, hr⟩ := run_results (P := P) hst'.rel hf h1
            exact ⟨u, hr, ρ', u, rfl, hst', hu⟩
          cases x with
          | normal => exact fin (m := .err "") h
          | ret => exact fin (m := .err "") h
          | exit id => cases h
          | goto l => cases h

/-- A loop's record is turned. -/
theorem Step.loop {ρ : Rho} {s : St} {w : World} (h : Rel W0 ρ s w) {b : Nat} {t : Fr} {ps : List Nat} {a c : Code} {st : Nat} {pend : Option Code} (hb : s.get b = some (.loop t ps a c st pend)) {m : Loc} (hm : ρ b = some m) {q : Loop} (hq : w.heap[m.blk]? = some (.loop q)) {st' : Nat} {pend' : Option Code} (q' : Loop)
    (hok : FrE ρ t q'.tmps ∧ q'.params.toList = ps ∧ q'.assign = a ∧ q'.body = c ∧ stNo q'.state = st' ∧ q'.pending = pend') : Step W0 ρ s w ρ (s.put b (.loop t ps a c st' pend')) (w.putObj m.blk (.loop q')) := by
  have hlt : m.blk < w.heap.size := (Array.getElem?_eq_some_iff.1 hq).1
  obtain ⟨_, m', hm', hside, _, _⟩ := h.blk b _ hb
  rw [hm] at hm'; injection hm' with e; subst e
  have hW : W0.heap.size ≤ m.blk := hside
  have hoth : ∀ k, k ≠ m.blk → (w.putObj m.blk (.loop q')).heap[k]? = w.heap[k]? := fun k hk => World.putObj_heap_other hk
  refine Step.write (x := .loop t ps a c st pend) (x' := .loop t ps a c st' pend') h hb trivial trivial hm rfl (fun k hk => Or.inl (by rw [St.get_put, if_neg hk])) (by rw [St.get_put, if_pos rfl]) ⟨h.below.os, h.below.tape, h.below.output, by rw [World.putObj_size]; exact h.below.size, fun k hk => (hoth k (by omega)).trans (h.below.block k hk)⟩ (by simp) hoth ⟨q', World.putObj_heap_same hlt, hok⟩ (fun k y m2 hne hk hy hm2 hblk => ?_)
  rw [St.get_put, if_neg hne] at hk
  rcases h.dis k b y _ m2 m hk hb hy trivial hm2 hm hne hblk with hu | hu
  · cases y <;> simp [Under] at hu
  · simp [Under] at hu
theorem loopAt_ok {s : St} {b st : Nat} {q : Lp} (h : loopAt s b st = some q) : s.get b = some (.loop q.t q.ps q.assign q.body st none) := by
  unfold loopAt at h
  split at h
  · rename_i t ps a c st' pend hb
    split at h
    · rename_i he
      split at h
      · injection h with h; subst h
        rw [hb, beq_eq he]
      · cases h
    · cases h
  · cases h
theorem loop_at {ρ : Rho} {s : St} {w : World} (hR : Rel W0 ρ s w) {b st : Nat} {q : Lp} (h : loopAt s b st = some q) {m : Loc} (hm : ρ b = some m) : ∃ u : Loop, w.heap[m.blk]? = some (.loop u) ∧ FrE ρ q.t u.tmps ∧ u.params.toList = q.ps ∧ u.assign = q.assign ∧ u.body = q.body ∧ stNo u.state = st ∧ u.pending = none := by
  obtain ⟨_, m', hm', _, _, hok⟩ := hR.blk b _ (loopAt_ok h)
  rw [hm] at hm'; injection hm' with e; subst e
  exact hok
theorem lenP_eq (l : List Nat) : lenP l = l.length := by
  induction l with
  | nil => rfl
  | cons a l ih => show Nat.succ (lenP l) = _; rw [ih]; rfl
theorem setPs_cons (p : Nat) (ps : List Nat) (v : V) (vs : List V) (t : Fr) : setPs (p :: ps) (v :: vs) t = setPs ps vs (t.set p v) := rfl
theorem setPs_ok {ρ : Rho} : ∀ (ps : List Nat) {l : List V} {us : List Value} {t : Fr} {a : Array Value}, EL ρ l us → FrE ρ t a → FrE ρ (setPs ps l t) ((ps.zip us).foldl (fun t p => t.setIfInBounds p.1 p.2) a)
  | [], l, us, t, a, _, hf => hf
  | p :: ps, [], us, t, a, hl, hf => by rw [EL.nil_inv hl]; exact hf
  | p :: ps, v :: l, us, t, a, hl, hf => by
    obtain ⟨u, r, rfl, h1, h2⟩ := EL.cons_inv hl
    rw [setPs_cons]
    exact setPs_ok ps h2 (putV_ok (a := { tmps := a, defers := [] }) hf (some p) h1)
theorem setPs_r : ∀ (ps : List Nat) (l : List V) (t : Fr), (setPs ps l t).r = t.r
  | [], _, _ => rfl
  | p :: ps, [], t => rfl
  | p :: ps, v :: l, t => by
    rw [setPs_cons, setPs_r ps l]
    unfold Fr.set
    split <;> rfl
theorem zip_foldl (ps : Array Nat) (us : List Value) (a : Array Value) : (ps.zip us.toArray).foldl (fun t (p, v) => t.setIfInBounds p v) a = (ps.toList.zip us).foldl (fun t p => t.setIfInBounds p.1 p.2) a := by
  rw [← Array.foldl_toList]
  simp
theorem jump_post {l : Nat} {R : Ending → World → Prop} {x : Ex} {a : Act} {w : World} (h : ∃ v w', (Instr.endRound l (jumpOf x)).run P w = .ok v w' ∧ R (.returned v) w') : roundPost P l R (exitOf x) a w := by
  cases x <;> exact h
/-- A round. -/
theorem yieldV_ok {ih : Run} (hih : RunOK P W0 ih) {b : Nat} {l : List V} {s s' : St} {v : V} (h : yieldV ih b l s = .ok (v, s')) {ρ : Rho} {w : World} {us : List Value} (hR : Rel W0 ρ s w) (hl : EL ρ l us) {m : Loc} (hm : ρ b = some m) (r : Option Nat) :
    ∃ q : Loop, w.heap[m.blk]? = some (.loop q) ∧ us.toArray.size = q.params.size ∧ RoundIn (FR r) 0 P m.blk q.fn ((q.params.zip us.toArray).foldl (fun t (p, v) => t.setIfInBounds p v) q.tmps) q.assign q.body w (Ret W0 ρ s w v s') := by
  unfold yieldV at h
  cases hq : loopAt s b 0 with
  | none => rw [hq] at h; cases h
  | some q =>
    rw [hq] at h
    simp only at h
    obtain ⟨u, hu, hft, hps, has, hbd, hst, hpe⟩ := loop_at hR hq hm
    cases hn : Nat.beq (lenN l) (lenP q.ps) with
    | false => rw [hn] at h; cases h
    | true =>
      rw [hn] at h
      simp only at h
      have hn := beq_eq hn
      rw [lenN_eq, lenP_eq] at hn
      have hlen := hl.len
      refine ⟨u, hu, by simp [hlen, hn, ← hps], ?_⟩
      cases hx : ih q.assign (setPs q.ps l ⟨q.t.t, q.t.n, some b⟩) s with
      | err e => rw [hx] at h; cases h
      | ok x t1 s1 =>
        rw [hx] at h
        simp only at h
        cases x with
        | normal =>
          simp only at h
          have hf0 : FrE ρ (⟨q.t.t, q.t.n, some b⟩ : Fr) u.tmps := hft
          have hf1 : FrA w.heap.size (some m.blk) ρ s w (setPs q.ps l ⟨q.t.t, q.t.n, some b⟩) { tmps := (u.params.zip us.toArray).foldl (fun t (p, v) => t.setIfInBounds p v) u.tmps, defers := [] } := by
            refine ⟨?_, Dfr.nil, ?_⟩
            · rw [zip_foldl, hps]; exact setPs_ok q.ps hl hf0
            · rw [setPs_r]; exact ⟨m, hm, rfl⟩
          refine roundIn_of_wpIn (F := FR r) (FR_fn _ _) ?_
          rw [has]
          refine wpIn_mono (hih _ _ _ _ _ _ hx ρ w _ w.heap.size (some m.blk) hR hf1 (Nat.le_refl _)) fun e a1 w1 hp => ?_
          obtain ⟨rfl, ρ1, hst1, hfa1⟩ := hp
          have hm1 := hst1.le _ _ hm
          unfold roundBody at h
          cases hq1 : loopAt s1 b 0 with
          | none => rw [hq1] at h; cases h
          | some q1 =>
            rw [hq1] at h
            simp only at h
            obtain ⟨u1, hu1, hft1, hps1, has1, hbd1, hs1, hpe1⟩ := loop_at hst1.rel hq1 hm1
            have hready : u1.state = .ready := by cases hh : u1.state <;> rw [hh] at hs1 <;> simp [stNo] at hs1 <;> rfl
            refine ⟨_, run_beginRound hu1 hready, ?_⟩
            have hst2 := Step.loop hst1.rel (loopAt_ok hq1) hm1 hu1 (st' := 1) (pend' := none) { u1 with state := .busy } ⟨hft1, hps1, has1, hbd1, rfl, hpe1⟩
            cases hy : ih q.body t1 (s1.put b (q1.blk 1 none)) with
            | err e => rw [hy] at h; cases h
            | ok x2 t2 s2 =>
              rw [hy] at h
              simp only at h
              have hB : w.heap.size ≤ (w1.putObj m.blk (.loop { u1 with state := .busy })).heap.size := by rw [World.putObj_size]; exact hst1.wsize
              rw [hbd]
              refine wpIn_mono (hih _ _ _ _ _ _ hy ρ1 _ _ w.heap.size (some m.blk) hst2.rel (hfa1.step hst2) hB) fun e2 a2 w2 hp2 => ?_
              obtain ⟨rfl, ρ2, hst3, hfa2⟩ := hp2
              have hm2 := hst3.le _ _ hm1
              unfold roundEnd at h
              cases hq2 : loopAt s2 b 1 with
              | none => rw [hq2] at h; cases h
              | some q2 =>
                rw [hq2] at h
                simp only at h
                obtain ⟨u2, hu2, hft2, hps2, has2, hbd2, hs2, hpe2⟩ := loop_at hst3.rel hq2 hm2
                refine jump_post ⟨_, _, run_endRound (jumpOf x2) hu2, ?_⟩
                have hall := (hst1.trans hst2).trans hst3
                cases hj : jumpOf x2 with
                | none =>
                  rw [hj] at h
                  simp only at h
                  injection h with h
                  simp only [Prod.mk.injEq] at h
                  obtain ⟨rfl, rfl⟩ := h
                  exact ⟨ρ2, .bool true, rfl, hall.trans (Step.loop hst3.rel (loopAt_ok hq2) hm2 hu2 _ ⟨hft2, hps2, has2, hbd2, rfl, rfl⟩), by simp only [E]⟩
                | some c =>
                  rw [hj] at h
                  simp only at h
                  injection h with h
                  simp only [Prod.mk.injEq] at h
                  obtain ⟨rfl, rfl⟩ := h
                  exact ⟨ρ2, .bool false, rfl, hall.trans (Step.loop hst3.rel (loopAt_ok hq2) hm2 hu2 _ ⟨hft2, hps2, has2, hbd2, rfl, rfl⟩), by simp only [E]⟩
        | _ => cases h

/-- An operation, in a region. -/
theorem operV_at {H : Hook} {ih : Run} (hih : RunOK P W0 ih) (hH : HookOK P W0 H) {o : Oper} {t : Fr} {s s' : St} {v : V} (h : operV P H ih t s (opF P o) = .ok (v, s')) {ρ : Rho} {w : World} {a : Act} (hR : Rel W0 ρ s w) {r : Option Nat} {c : Act} (heq : execOp c.eval o = execOp a.eval o) (hf : FrE ρ t c.tmps)
    {K : Act → World → Prop} {Q : Exit → Act → World → Prop} (hK : ∀ ρ' u w', Step W0 ρ s w ρ' s' w' → E ρ' v u → K (a.put o.dst u) w') : o.wpIn (FR r) 0 P a w K Q := by
  have hok := opF_ok (P := P) o
  have hnd : ∀ cl, o.op ≠ .defer cl := fun cl hc => by
    have : opF P o = .bad "an operation" := by unfold opF; rw [hc]
    rw [this] at h; cases h
  refine ⟨fun _ _ => FR_fn _ _, ?_⟩
  rw [Oper.semAt_eq _ _ _ hnd, ← heq]
  cases hF : opF P o with
  | pure f =>
    rw [hF] at h hok
    obtain ⟨v', h1, h2⟩ := M.bind_ok h
    injection h2 with h2
    simp only [Prod.mk.injEq] at h2
    obtain ⟨rfl, rfl⟩ := h2
    obtain ⟨u, hE, hr⟩ := hok ρ t c _ hf h1
    rw [hr w]
    exact hK ρ u w (Step.refl hR) hE
  | read f =>
    rw [hF] at h hok
    obtain ⟨v', h1, h2⟩ := M.bind_ok h
    injection h2 with h2
    simp only [Prod.mk.injEq] at h2
    obtain ⟨rfl, rfl⟩ := h2
    obtain ⟨u, hE, hr⟩ := hok W0 ρ s w t c _ hR hf h1
    rw [hr]
    exact hK ρ u w (Step.refl hR) hE
  | float f =>
    rw [hF] at h hok
    obtain ⟨⟨v', x⟩, h1, h2⟩ := M.bind_ok h
    injection h2 with h2
    simp only [Prod.mk.injEq] at h2
    obtain ⟨rfl, rfl⟩ := h2
    obtain ⟨hal, hw⟩ := hok ρ t c _ _ _ hf h1
    obtain ⟨u, obj, hr, hρ⟩ := hw w
    rw [hr]
    have hn : ρ s.size = none := hR.fresh _ (Nat.le_refl _)
    have hEu := hρ (ρ.upd s.size ⟨w.heap.size, 0, 0⟩) (Rho.le_upd _ hn) (Rho.upd_same _ _ _)
    exact hK _ u _ (Step.alloc hR x obj 0 hal hEu.2) hEu.1
  | eff f =>
    rw [hF] at h hok
    obtain ⟨u, w', ρ', hr, hst, hE⟩ := hok W0 ρ s w t c v s' hR hf h
    rcases hr with hr | ⟨hr, rfl⟩
    · rw [hr]; exact hK ρ' u w' hst hE
    · rw [hr]; exact hK ρ' undef w' hst hE
  | call fo args =>
    rw [hF] at h hok
    obtain ⟨cl, hc, hcal, hargs⟩ := hok
    obtain ⟨fv, h1, h2⟩ := M.bind_ok h
    have e1 := ev_ok hf h1
    cases fv with
    | fn g cap =>
      obtain ⟨h3, h2⟩ := ask_ok h2
      obtain ⟨l, h4, h2⟩ := M.bind_ok h2
      rw [appN_eq] at h2
      have e2 := evs_ok hf h4
      simp only [E] at e1
      obtain ⟨us, hx, hE⟩ := e1
      obtain ⟨fn, body, hfn, hb, hnm⟩ := callable_ok h3
      have hrun : (execOp c.eval o).run P w = .ok (.enter g (args.map c.eval ++ us).toArray) w := by
        simp only [execOp, hc, resolve, hcal, Sem.run_bind, hx, Deferred.ofValue, Sem.run_pure, Result.andThen_ok, invoke, callFunc, run_program, hfn, hnm, hb]
        have : cl.args = args.toArray := by rw [← hargs]
        rw [this]
        simp
      rw [hrun]
      refine ⟨fun hh => (by cases hh), ?_⟩
      show CallsIn Fence.wide (0 - 1) P g _ w _
      refine callsIn_wide.2 ((callV_ok hih hH h2 hR (e2.app hE)).mono fun e w' hret => ?_)
      obtain ⟨ρ', u, rfl, hst, hEu⟩ := hret
      exact hK ρ' u w' hst hEu
    | mfn g fs cap =>
      obtain ⟨h3, h2⟩ := ask_ok h2
      obtain ⟨l, h4, h2⟩ := M.bind_ok h2
      rw [appN_eq, appN_eq] at h2
      have e2 := evs_ok hf h4
      simp only [E] at e1
      obtain ⟨us, ws, hx, hE1, hE2⟩ := e1
      obtain ⟨fn, body, hfn, hb, hnm⟩ := callable_ok h3
      have hrun : (execOp c.eval o).run P w = .ok (.enter g (us ++ (args.map c.eval ++ ws)).toArray) w := by
        simp only [execOp, hc, resolve, hcal, Sem.run_bind, hx, Deferred.ofValue, Sem.run_pure, Result.andThen_ok, invoke, callFunc, run_program, hfn, hnm, hb]
        have : cl.args = args.toArray := by rw [← hargs]
        rw [this]
        simp
      rw [hrun]
      refine ⟨fun hh => (by cases hh), ?_⟩
      show CallsIn Fence.wide (0 - 1) P g _ w _
      refine callsIn_wide.2 ((callV_ok hih hH h2 hR (hE1.app (e2.app hE2))).mono fun e w' hret => ?_)
      obtain ⟨ρ', u, rfl, hst, hEu⟩ := hret
      exact hK ρ' u w' hst hEu
    | yld b =>
      obtain ⟨l, h4, h2⟩ := M.bind_ok h2
      have e2 := evs_ok hf h4
      simp only [E] at e1
      obtain ⟨m, hm, hx⟩ := e1
      obtain ⟨q, hq, hsz, hround⟩ := yieldV_ok hih h2 hR e2 hm r
      have hrun : (execOp c.eval o).run P w = .ok (.round m.blk q.fn ((q.params.zip (args.map c.eval).toArray).foldl (fun t (p, v) => t.setIfInBounds p v) q.tmps) q.assign q.body) w := by
        have hy := run_yield (P := P) hq hsz
        simp only [execOp, hc, resolve, hcal, Sem.run_bind, hx, Deferred.ofValue, Sem.run_pure, Result.andThen_ok, invoke]
        have : cl.args = args.toArray := by rw [← hargs]
        rw [this]
        simpa using hy
      rw [hrun]
      refine ⟨fun hh => (by cases hh), ?_⟩
      refine hround.mono fun e w' hret => ?_
      obtain ⟨ρ', u, rfl, hst, hEu⟩ := hret
      exact hK ρ' u w' hst hEu
    | _ => cases h2
  | bad e => rw [hF] at h; cases h
theorem operV_ok {H : Hook} {ih : Run} (hih : RunOK P W0 ih) (hH : HookOK P W0 H) {o : Oper} {t : Fr} {s s' : St} {v : V} (h : operV P H ih t s (opF P o) = .ok (v, s')) {ρ : Rho} {w : World} {a : Act} {r : Option Nat} (hR : Rel W0 ρ s w) (hf : FrE ρ t a.tmps)
    {K : Act → World → Prop} {Q : Exit → Act → World → Prop} (hK : ∀ ρ' u w', Step W0 ρ s w ρ' s' w' → E ρ' v u → K (a.put o.dst u) w') : o.wpIn (FR r) 0 P a w K Q := operV_at hih hH h hR rfl hf hK
end Go.Clo
/- The interpreter of closed runs, a part of it. -/
namespace Go.Clo
set_option linter.unusedSimpArgs false
set_option linter.unusedVariables false
set_option linter.unnecessarySimpa false
open Go Go.RowKit

variable {P : Program} {W0 : World}

theorem E.bool_inv {ρ : Rho} {v : V} {b : Bool} (h : E ρ v (.bool b)) : v = .bool b := by
  cases v with
  | bool c => simp only [E] at h; injection h with h; rw [h]
  | sl b o n c => cases c <;> simp [E] at h
  | _ => simp [E] at h
theorem guardOf_some {ops : Array Oper} {o : Oper} {j : Nat} {want : Bool} (hg : o.guard = some (j, want)) : guardOf ops o = some ((ops[j]?).bind (·.dst), want) := by
  unfold guardOf
  rw [hg]
  show some ((match ops[j]? with | some p => p.dst | none => none), want) = _
  cases hp : ops[j]? <;> simp
/-- Whether an operation is wanted. -/
theorem wantedV_ok {ρ : Rho} {ops : Array Oper} {t : Fr} {o : Oper} {a : Array Value} (h : ∀ d b, guardOf ops o = some (some d, b) → E ρ (t.get d) (a.getD d undef)) :
    Region.wanted o (yielded ops a) = wantedV t (guardOf ops o) := by
  unfold Region.wanted
  cases hg : o.guard with
  | none => unfold guardOf; rw [hg]; rfl
  | some gw =>
    obtain ⟨j, want⟩ := gw
    rw [guardOf_some hg] at h ⊢
    show (yielded ops a j == some want) = _
    unfold yielded
    cases hs : (ops[j]?).bind (·.dst) with
    | none => rfl
    | some d =>
      have he := h d want (by rw [hs])
      show ((match a[d]? with | some (.bool b) => some b | _ => none) == some want) = (match t.get d with | .bool b => b == want | _ => false)
      cases ha : a[d]? with
      | none =>
        have hu : a.getD d undef = undef := by simp [Array.getD_eq_getD_getElem?, ha]
        rw [hu] at he
        cases htd : t.get d with
        | bool b => rw [htd] at he; simp [E, undef] at he
        | _ => rfl
      | some u =>
        have hu : a.getD d undef = u := by simp [Array.getD_eq_getD_getElem?, ha]
        rw [hu] at he
        cases htd : t.get d with
        | bool b =>
          rw [htd] at he
          simp only [E] at he
          subst he
          rfl
        | _ =>
          cases u with
          | bool b => have := E.bool_inv he; rw [htd] at this; cases this
          | _ => rfl
theorem put_defers' (a : Act) (d : Option Tmp) (v : Value) : (a.put d v).defers = a.defers := by cases d <;> rfl

theorem putV_r (t : Fr) (d : Option Tmp) (v : V) : (putV t d v).r = t.r := by
  cases d with
  | none => rfl
  | some d => show (t.set d v).r = t.r; unfold Fr.set; split <;> rfl
theorem FrA.put {B : Nat} {r : Option Nat} {ρ ρ' : Rho} {s s' : St} {w w' : World} {t : Fr} {a : Act} (h : FrA B r ρ s w t a) (hs : Step W0 ρ s w ρ' s' w') (d : Option Tmp) {v : V} {u : Value} (he : E ρ' v u) : FrA B r ρ' s' w' (putV t d v) (a.put d u) := by
  obtain ⟨h1, h2, h3⟩ := h.step hs
  exact ⟨putV_ok h1 d he, by rw [put_defers']; exact h2, by rw [putV_r]; exact h3⟩
theorem regionV_ok {H : Hook} {ih : Run} (hih : RunOK P W0 ih) (hH : HookOK P W0 H) {ops : Array Oper} {x : Ex} {t' : Fr} {s' : St} {ρ0 : Rho} {s0 : St} {w0 : World} {B : Nat} {r : Option Nat} : ∀ (l : List Oper) (i : Nat), ops.toList.drop i = l → ∀ {t : Fr} {s : St}, regionV P H ih ops l t s = .ok x t' s' →
    ∀ {ρ : Rho} {w : World} {a : Act}, Step W0 ρ0 s0 w0 ρ s w → FrA B r ρ s w t a → wpOpsIn (FR r) 0 P ops (Post W0 B r ρ0 s0 w0 x t' s') (List.range' i l.length) a w
  | [], i, hd, t, s, h, ρ, w, a, hR, hf => by
    have h : Out.ok .normal t s = .ok x t' s' := h
    injection h with h1 h2 h3; subst h1; subst h2; subst h3
    exact ⟨rfl, ρ, hR, hf⟩
  | o :: l, i, hd, t, s, h, ρ, w, a, hR, hf => by
    have hi : ops[i]? = some o := by
      have : ops.toList[i]? = some o := by
        have := congrArg (fun l => l[0]?) hd
        simpa [List.getElem?_drop] using this
      simpa using this
    have hl : ops.toList.drop (i + 1) = l := by
      have := congrArg List.tail hd
      simpa [List.tail_drop] using this
    have h : regionS P H ih ops (regionV P H ih ops l) o t s = .ok x t' s' := h
    show wpOpsIn (FR r) 0 P ops _ (List.range' i (l.length + 1)) a w
    rw [List.range'_succ, wpOpsIn_cons]
    unfold wpOpIn
    simp only [hi]
    rw [wantedV_ok (t := t) (fun d _ _ => hf.1.2 d)]
    unfold regionS at h
    cases hw : wantedV t (guardOf ops o) with
    | false =>
      rw [hw] at h
      simp only [Bool.false_eq_true, if_false]
      exact ⟨fun _ _ => FR_fn _ _, regionV_ok hih hH l (i + 1) hl h hR (hf.put (Step.refl hR.rel) o.dst E_undef)⟩
    | true =>
      rw [hw] at h
      simp only [if_true]
      cases hr : operV P H ih t s (opF P o) with
      | err e => rw [hr] at h; cases h
      | ok q =>
        rw [hr] at h
        have h : regionV P H ih ops l (putV t o.dst q.1) q.2 = .ok x t' s' := h
        refine operV_ok hih hH (v := q.1) (s' := q.2) hr hR.rel hf.1 fun ρ' u w' hst hE => ?_
        exact regionV_ok hih hH l (i + 1) hl h (hR.trans hst) (hf.put hst o.dst hE)
/-- The regions that draw their order. -/
def DrawOK (P : Program) (W0 : World) (H : Hook) : Prop :=
  ∀ ih, RunOK P W0 ih → ∀ id ops t s x t' s', drawV P H ih ops t s = .ok x t' s' → ∀ ρ w a B r, Rel W0 ρ s w → FrA B r ρ s w t a → (Code.region id ops true).wpIn (FR r) 0 P (Post W0 B r ρ s w x t' s') a w

theorem thenV_ok {o : Out} {f : Fr → St → Out} {x : Ex} {t' : Fr} {s' : St} (h : thenV o f = .ok x t' s') :
    ∃ x1 t1 s1, o = .ok x1 t1 s1 ∧ ((x1 = .normal ∧ f t1 s1 = .ok x t' s') ∨ (x1 ≠ .normal ∧ x = x1 ∧ t' = t1 ∧ s' = s1)) := by
  cases o with
  | err e => cases h
  | ok x1 t1 s1 =>
    refine ⟨x1, t1, s1, rfl, ?_⟩
    cases x1 with
    | normal => exact Or.inl ⟨rfl, h⟩
    | _ =>
      unfold thenV at h
      simp only at h
      injection h with h1 h2 h3
      exact Or.inr ⟨by (intro e; cases e), h1.symm, h2.symm, h3.symm⟩
theorem then_of {B : Nat} {r : Option Nat} {ρ0 : Rho} {s0 : St} {w0 : World} {x : Ex} {t' : Fr} {s' : St} {x1 : Ex} {t1 : Fr} {s1 : St} {next : Act → World → Prop}
    (hc : (x1 = .normal ∧ ∀ ρ w a, Step W0 ρ0 s0 w0 ρ s1 w → FrA B r ρ s1 w t1 a → next a w) ∨ (x1 ≠ .normal ∧ x = x1 ∧ t' = t1 ∧ s' = s1)) {e : Exit} {a : Act} {w : World} (h : Post W0 B r ρ0 s0 w0 x1 t1 s1 e a w) :
    Exit.then next (Post W0 B r ρ0 s0 w0 x t' s') e a w := by
  rcases hc with ⟨rfl, hn⟩ | ⟨hne, rfl, rfl, rfl⟩
  · obtain ⟨rfl, ρ, hst, hf⟩ := h
    exact hn ρ w a hst hf
  · have he := h.1
    subst he
    cases x with
    | normal => exact absurd rfl hne
    | _ => exact h
/-- Loops. -/
def LoopOK (P : Program) (W0 : World) (ih : Run) : Prop :=
  ∀ c t s x t' s', ih (.loop c) t s = .ok x t' s' → ∃ k, ∀ ρ0 s0 w0 ρ w a B r, Step W0 ρ0 s0 w0 ρ s w → FrA B r ρ s w t a → B ≤ w.heap.size → Code.roundsIn (FR r) 0 P c (Post W0 B r ρ0 s0 w0 x t' s') k a w
theorem RunOK.from {ih : Run} (hih : RunOK P W0 ih) {c : Code} {t : Fr} {s : St} {x : Ex} {t' : Fr} {s' : St} (h : ih c t s = .ok x t' s') {ρ0 : Rho} {s0 : St} {w0 : World} {ρ : Rho} {w : World} {a : Act} {B : Nat} {r : Option Nat}
    (hst : Step W0 ρ0 s0 w0 ρ s w) (hf : FrA B r ρ s w t a) (hB : B ≤ w.heap.size) : c.wpIn (FR r) 0 P (Post W0 B r ρ0 s0 w0 x t' s') a w :=
  wpIn_mono (hih _ _ _ _ _ _ h ρ w a B r hst.rel hf hB) fun _ _ _ hp => Post.trans hst hp
def goRoundsIn (F : Fence) (P : Program) (body : Code) (Q : Exit → Act → World → Prop) : Nat → Code → Act → World → Prop
  | 0, _, _, _ => False
  | n + 1, c, a, w => c.wpIn F 0 P (fun e a w => match e with
    | .goto l => match findLabel body l with
      | some rest => goRoundsIn F P body Q n rest a w
      | none => Q (.goto l) a w
    | e => Q e a w) a w
theorem stepR_scope {P : Program} {b : Frame} {a : Act} {k : List Item} {cs : List Frame} {w : World} {c : Code} : step P (lone (b.atR a (.code (.scope c) :: k)) cs w) = .next (lone (b.atR a (.code c :: .inScope c :: k)) cs w) :=
  step_lone_go (by simp [stepG, stepG.exec, Frame.atR])
theorem stepR_inScope {P : Program} {b : Frame} {a : Act} {k : List Item} {cs : List Frame} {w : World} {c : Code} : step P (lone (b.atR a (.inScope c :: k)) cs w) = .next (lone (b.atR a k) cs w) :=
  step_lone_go (by simp [stepG, stepG.exec, Frame.atR])
theorem wpIn_scope_rounds {F : Fence} {Q : Exit → Act → World → Prop} {a : Act} {w : World} {body : Code} (n : Nat) (h : goRoundsIn F P body Q n body a w) : (Code.scope body).wpIn F 0 P Q a w := by
  intro b k cs hro hb hr
  have key : ∀ n c a w, goRoundsIn F P body Q n c a w → ∃ e a' w', Q e a' w' ∧ ArrivesIn (Machine.fenced P F) P (lone (b.atR a (.code c :: .inScope body :: k)) cs w) b k cs e a' w' := by
    intro n
    induction n with
    | zero => intro c a w h; exact h.elim
    | succ n ih =>
      intro c a w h
      obtain ⟨e, a₁, w₁, hq, harr⟩ := h b (.inScope body :: k) cs hro hb hr
      cases e with
      | normal => exact ⟨.normal, a₁, w₁, hq, StepsIn.trans harr (.one (fenced_calm (fr := b.atR a₁ (.inScope body :: k)) hb hr rfl) stepR_inScope)⟩
      | exit id =>
        have hx : exitTo id (.inScope body :: k) = exitTo id k := by simp [exitTo]
        exact ⟨.exit id, a₁, w₁, hq, fun k' hk => harr.1 k' (by rw [hx]; exact hk), fun hr' hk => harr.2 hr' (by rw [hx]; exact hk)⟩
      | goto l =>
        cases hf : findLabel body l with
        | none =>
          simp only [hf] at hq
          have hx : gotoIn l (.inScope body :: k) = gotoIn l k := by simp [gotoIn, hf]
          exact ⟨.goto l, a₁, w₁, hq, fun k' hk => harr.1 k' (by rw [hx]; exact hk), fun hr' hk => harr.2 hr' (by rw [hx]; exact hk)⟩
        | some rest =>
          simp only [hf] at hq
          obtain ⟨e₂, a₂, w₂, hq₂, harr₂⟩ := ih rest a₁ w₁ hq
          exact ⟨e₂, a₂, w₂, hq₂, .of_steps (harr.1 _ (by simp [gotoIn, hf])) harr₂⟩
      | ret => exact ⟨_, a₁, w₁, hq, harr⟩
      | panic ch => exact ⟨_, a₁, w₁, hq, harr⟩
      | outgrown => exact ⟨_, a₁, w₁, hq, harr⟩
  obtain ⟨e, a', w', hq, harr⟩ := key n body a w h
  exact ⟨e, a', w', hq, .of_steps (.one (fenced_calm (fr := b.atR a (.code (.scope body) :: k)) hb hr rfl) stepR_scope) harr⟩
theorem scopeV_ok {ih : Run} (hih : RunOK P W0 ih) {body : Code} {x : Ex} {t' : Fr} {s' : St} {ρ0 : Rho} {s0 : St} {w0 : World} {B : Nat} {r : Option Nat} : ∀ (n : Nat) {c : Code} {t : Fr} {s : St}, scopeV body ih n (ih c t s) = .ok x t' s' →
    ∀ {ρ : Rho} {w : World} {a : Act}, Step W0 ρ0 s0 w0 ρ s w → FrA B r ρ s w t a → B ≤ w.heap.size → goRoundsIn (FR r) P body (Post W0 B r ρ0 s0 w0 x t' s') n c a w
  | 0, c, t, s, h, _, _, _, _, _, _ => by cases h
  | n + 1, c, t, s, h, ρ, w, a, hst, hf, hB => by
    cases ho : ih c t s with
    | err e => rw [ho] at h; cases h
    | ok x1 t1 s1 =>
      rw [ho] at h
      refine wpIn_mono (hih _ _ _ _ _ _ ho ρ w a B r hst.rel hf hB) fun e a1 w1 hp => ?_
      obtain ⟨rfl, ρ', hst1, hf1⟩ := hp
      cases x1 with
      | goto l =>
        unfold scopeV at h
        simp only at h
        show (match findLabel body l with | some rest => goRoundsIn (FR r) P body _ n rest a1 w1 | none => _)
        cases hl : findLabel body l with
        | none =>
          rw [hl] at h
          injection h with h1 h2 h3; subst h1; subst h2; subst h3
          exact ⟨rfl, ρ', hst.trans hst1, hf1⟩
        | some rest =>
          rw [hl] at h
          exact scopeV_ok hih n h (hst.trans hst1) hf1 (Nat.le_trans hB hst1.wsize)
      | _ =>
        unfold scopeV at h
        simp only at h
        injection h with h1 h2 h3; subst h1; subst h2; subst h3
        exact ⟨rfl, ρ', hst.trans hst1, hf1⟩
theorem enter_ok {B : Nat} {r : Option Nat} {ρ : Rho} {s : St} {w : World} {t : Fr} {a : Act} (hR : Rel W0 ρ s w) (hf : FrA B r ρ s w t a) (hB : B ≤ w.heap.size) (hin : inLoop s t.r = true) (fn : FuncId) (ps : Array Tmp) (assign body : Code) :
    ∃ (mark : List Deferred) (w1 : World) (ρ1 : Rho) (m : Loc), (Instr.enterLoop fn a.tmps ps assign body r).run P w = .ok (m.blk, mark) w1 ∧ Step W0 ρ s w ρ1 (s.alloc (.loop t ps.toList assign body 0 none)) w1 ∧ ρ1 s.size = some m ∧ Dfr B ρ1 (s.alloc (.loop t ps.toList assign body 0 none)) w1 (mark ++ a.defers) := by
  obtain ⟨hf1, hf2, hf3⟩ := hf
  have hn : ρ s.size = none := hR.fresh _ (Nat.le_refl _)
  cases r with
  | none =>
    have hst0 := Step.grow hR (.deferred (some []))
    have hst1 := Step.alloc hst0.rel (.loop t ps.toList assign body 0 none) (.loop { state := .ready, pending := none, fn, tmps := a.tmps, params := ps, assign, body, defers := w.heap.size }) 0 trivial
      ⟨_, heap_alloc_new _ _, hf1.mono (Rho.le_upd _ hn), rfl, rfl, rfl, rfl, rfl⟩
    have hst := hst0.trans hst1
    refine ⟨[markD w.heap.size], _, ρ.upd s.size ⟨(w.alloc (.deferred (some []))).heap.size, 0, 0⟩, ⟨(w.alloc (.deferred (some []))).heap.size, 0, 0⟩, ?_, hst, Rho.upd_same _ _ _, ?_⟩
    · rw [run_enterLoop_outer fn a.tmps ps assign body]
      simp [markD]
    · have h1 : ¬ Img (ρ.upd s.size ⟨(w.alloc (.deferred (some []))).heap.size, 0, 0⟩) (s.alloc (.loop t ps.toList assign body 0 none)) w.heap.size := fun hi => by
        have := hR.lt (hst1.img w.heap.size (by simp) hi)
        omega
      have h2 : ((w.alloc (.deferred (some []))).alloc (.loop { state := .ready, pending := none, fn, tmps := a.tmps, params := ps, assign, body, defers := w.heap.size })).heap[w.heap.size]? = some (.deferred (some [])) := by
        rw [heap_alloc_old _ _ (by simp)]; exact heap_alloc_new _ _
      have := hf2.cons (fun rs h => h.step hst) hB (Nat.le_refl _) h1 h2
      simpa using this
  | some l0 =>
    cases hr : t.r with
    | none => rw [hr] at hf3; exact hf3.elim
    | some b0 =>
      rw [hr] at hf3 hin
      obtain ⟨m0, hm0, rfl⟩ := hf3
      have : ∃ t0 p0 a0 c0 st0 pe0, s.get b0 = some (.loop t0 p0 a0 c0 st0 pe0) := by
        unfold inLoop at hin
        split at hin
        · rename_i h; cases h
        · rename_i b h
          injection h with h; subst h
          split at hin
          · rename_i h; exact ⟨_, _, _, _, _, _, h⟩
          · cases hin
      obtain ⟨t0, p0, a0, c0, st0, pe0, hb0⟩ := this
      obtain ⟨_, m1, hm1, _, _, q0, hq0, _⟩ := hR.blk b0 _ hb0
      rw [hm0] at hm1; injection hm1 with e; subst e
      have hst1 := Step.alloc hR (.loop t ps.toList assign body 0 none) (.loop { state := .ready, pending := none, fn, tmps := a.tmps, params := ps, assign, body, defers := q0.defers }) 0 trivial
        ⟨_, heap_alloc_new _ _, hf1.mono (Rho.le_upd _ hn), rfl, rfl, rfl, rfl, rfl⟩
      exact ⟨[], _, _, ⟨w.heap.size, 0, 0⟩, run_enterLoop_inner hq0 fn a.tmps ps assign body, hst1, Rho.upd_same _ _ _, hf2.step hst1⟩
theorem rangeV_ok {H : Hook} {ih : Run} (hih : RunOK P W0 ih) (hH : HookOK P W0 H) {g : Operand} {ps : Array Tmp} {assign body : Code} {t : Fr} {s : St} {x : Ex} {t' : Fr} {s' : St} (h : rangeV P H ih g ps.toList assign body t s = .ok x t' s') {ρ : Rho} {w : World} {a : Act} {B : Nat} {r : Option Nat} (hR : Rel W0 ρ s w) (hf : FrA B r ρ s w t a) (hB : B ≤ w.heap.size) :
    (Code.rangeFunc g ps assign body).wpIn (FR r) 0 P (Post W0 B r ρ s w x t' s') a w := by
  unfold rangeV at h
  cases hin : inLoop s t.r with
  | false => rw [hin] at h; cases h
  | true =>
    rw [hin] at h
    simp only at h
    cases hg : ev t g with
    | err e => rw [hg] at h; cases h
    | ok gv =>
      rw [hg] at h
      have e1 := ev_ok hf.1 hg
      cases gv with
      | fn f cap =>
        simp only at h
        cases hcal : callable P f with
        | false => rw [hcal] at h; cases h
        | true =>
          rw [hcal] at h
          simp only at h
          simp only [E] at e1
          obtain ⟨us, hx, hE⟩ := e1
          obtain ⟨fnn, bodyf, hfn, hb, hnm⟩ := callable_ok hcal
          cases hc : callV P H ih f (.yld s.size :: cap) (s.alloc (.loop t ps.toList assign body 0 none)) with
          | err e => rw [hc] at h; cases h
          | ok q =>
            rw [hc] at h
            have h : behindV ih s.size t q.2 = .ok x t' s' := h
            refine wpIn_rangeFunc fun fn hfnn => ?_
            obtain ⟨mark, w1, ρ1, m, he, hst1, hm, hd1⟩ := enter_ok (P := P) hR hf hB hin fn ps assign body
            refine ⟨m.blk, mark, w1, { target := .fn (.func f) us.toArray, args := #[.func (.yield m.blk) #[] #[]] }, w1, f, #[.func (.yield m.blk) #[] #[]] ++ us.toArray, w1, he, ?_, fun _ _ => FR_fn _ _, ?_, fun hh => (by cases hh), ?_⟩
            · simp only [resolve, hx, Sem.run_pure, Deferred.ofValue]
              simp [go_sem]
            · simp only [invoke, callFunc, run_program, Sem.run_bind, Result.andThen_ok, hfn, hnm, hb]
              simp
            · show CallsIn Fence.wide (0 - 1) P f _ w1 _
              have hargs : (#[.func (.yield m.blk) #[] #[]] ++ us.toArray : Array Value) = (Value.func (.yield m.blk) #[] #[] :: us).toArray := by simp
              rw [hargs]
              refine callsIn_wide.2 ((callV_ok hih hH hc hst1.rel (EL.cons (by simp only [E]; exact ⟨m, hm, rfl⟩) (EL.mono hst1.le _ hE))).mono fun e w3 hret => ?_)
              obtain ⟨ρ2, u, rfl, hst2, _⟩ := hret
              have hm2 := hst2.le _ _ hm
              unfold behindV at h
              split at h
              · rename_i t0 ps0 a0 c0 st pend hb0
                cases hst : Nat.beq st 1 with
                | true => rw [hst] at h; cases h
                | false =>
                  rw [hst] at h
                  simp only at h
                  obtain ⟨_, m3, hm3, _, _, qq, hq, hqf, hq1, hq2, hq3, hq4, hq5⟩ := hst2.rel.blk _ _ hb0
                  rw [hm2] at hm3; injection hm3 with e; subst e
                  have hnb : qq.state ≠ .busy := fun e => by rw [e] at hq4; subst hq4; simp [stNo] at hst
                  have hst3 := Step.loop hst2.rel hb0 hm2 hq (st' := 3) (pend' := pend) { qq with state := .exhausted } ⟨hqf, hq1, hq2, hq3, rfl, hq5⟩
                  have hall := (hst1.trans hst2).trans hst3
                  have hfa : FrA B r ρ2 (q.2.put s.size (.loop t0 ps0 a0 c0 3 pend)) (w3.putObj m.blk (.loop { qq with state := .exhausted })) t { a with defers := mark ++ a.defers } :=
                    ⟨hf.1.mono hall.le, hd1.step (hst2.trans hst3), hf.2.2.mono hall.le⟩
                  have hend := run_endLoop (P := P) hq hnb
                  obtain ⟨w4, hw4⟩ : ∃ w4, w4 = w3.putObj m.blk (.loop { qq with state := .exhausted }) := ⟨_, rfl⟩
                  rw [← hw4] at hend hall hfa
                  refine ⟨_, w4, hend, ?_⟩
                  rw [hq5]
                  cases pend with
                  | none =>
                    simp only at h ⊢
                    injection h with h1 h2 h3; subst h1; subst h2; subst h3
                    exact ⟨rfl, ρ2, hall, hfa⟩
                  | some j =>
                    simp only at h ⊢
                    exact hih.from h hall hfa (Nat.le_trans hB hall.wsize)
              · cases h
      | _ => cases h
theorem step_ok (hmix : P.follows .mixedOrders = true) {H : Hook} (hH : HookOK P W0 H) (hD : DrawOK P W0 H) : ∀ n, RunOK P W0 (exec P H n) ∧ LoopOK P W0 (exec P H n)
  | 0 => by
    refine ⟨fun c t s x t' s' h => ?_, fun c t s x t' s' h => ?_⟩
    · cases h
    · cases h
  | n + 1 => by
    obtain ⟨hih, hlo⟩ := step_ok hmix hH hD n
    have hloop : LoopOK P W0 (exec P H (n + 1)) := by
      intro c t s x t' s' h
      have h : thenV (exec P H n c t s) (exec P H n (.loop c)) = .ok x t' s' := h
      obtain ⟨x1, t1, s1, h1, h2⟩ := thenV_ok h
      rcases h2 with ⟨rfl, h2⟩ | ⟨hne, rfl, rfl, rfl⟩
      · obtain ⟨k, hk⟩ := hlo _ _ _ _ _ _ h2
        refine ⟨k + 1, fun ρ0 s0 w0 ρ w a B r hst hf hB => ?_⟩
        refine wpIn_mono (hih _ _ _ _ _ _ h1 ρ w a B r hst.rel hf hB) fun e a1 w1 hp => ?_
        obtain ⟨rfl, ρ1, hst1, hf1⟩ := hp
        exact hk ρ0 s0 w0 ρ1 w1 a1 B r (hst.trans hst1) hf1 (Nat.le_trans hB hst1.wsize)
      · exact ⟨1, fun ρ0 s0 w0 ρ w a B r hst hf hB => wpIn_mono (hih.from h1 hst hf hB) fun e a w hp => then_of (Or.inr ⟨hne, rfl, rfl, rfl⟩) hp⟩
    refine ⟨?_, hloop⟩
    intro c t s x t' s' h ρ w a B r hR hf hB
    have h : stepV P H n (exec P H n) c t s = .ok x t' s' := h
    have fin : ∀ {x0 : Ex}, Out.ok x0 t s = .ok x t' s' → Post W0 B r ρ s w x t' s' (exitOf x0) a w := fun {x0} e => by
      injection e with h1 h2 h3; subst h1; subst h2; subst h3
      exact ⟨rfl, ρ, Step.refl hR, hf⟩
    cases c with
    | skip => exact wpIn_skip (fin (x0 := .normal) h)
    | label l => exact wpIn_label (fin (x0 := .normal) h)
    | exit i => exact wpIn_exit (fin (x0 := .exit i) h)
    | goto l => exact wpIn_goto (fin (x0 := .goto l) h)
    | ret => exact wpIn_ret (fin (x0 := .ret) h)
    | seq c d =>
      have h : thenV (exec P H n c t s) (exec P H n d) = .ok x t' s' := h
      obtain ⟨x1, t1, s1, h1, h2⟩ := thenV_ok h
      refine wpIn_seq (wpIn_mono (hih _ _ _ _ _ _ h1 ρ w a B r hR hf hB) fun e a1 w1 hp => ?_)
      refine then_of (h2.imp (fun ⟨e, h2⟩ => ⟨e, fun ρ1 w1 a1 hst hf1 => hih.from h2 hst hf1 (Nat.le_trans hB hst.wsize)⟩) id) hp
    | cond c d e =>
      have h : condV (exec P H n) c d e t s = .ok x t' s' := h
      unfold condV at h
      cases hc : ev t c with
      | err e => rw [hc] at h; cases h
      | ok v =>
        rw [hc] at h
        have he := ev_ok hf.1 hc
        cases v with
        | bool b =>
          simp only [E] at he
          cases b with
          | true => exact wpIn_cond_true he (hih _ _ _ _ _ _ h ρ w a B r hR hf hB)
          | false => exact wpIn_cond_false he (hih _ _ _ _ _ _ h ρ w a B r hR hf hB)
        | _ => cases h
    | block i c =>
      have h : blockV i (exec P H n c t s) = .ok x t' s' := h
      cases ho : exec P H n c t s with
      | err e => rw [ho] at h; cases h
      | ok x1 t1 s1 =>
        rw [ho] at h
        refine wpIn_block (wpIn_mono (hih _ _ _ _ _ _ ho ρ w a B r hR hf hB) fun e a w hp => ?_)
        obtain ⟨rfl, ρ', hst, hf⟩ := hp
        cases x1 with
        | exit i' =>
          unfold blockV at h
          simp only at h
          by_cases e : i' = i
          · subst e
            rw [show Nat.beq i' i' = true from by simp] at h
            injection h with h1 h2 h3; subst h1; subst h2; subst h3
            show (if i' = i' then _ else _)
            rw [if_pos rfl]
            exact ⟨rfl, ρ', hst, hf⟩
          · rw [show Nat.beq i' i = false from (Bool.eq_false_iff.2 fun hb => e (Nat.eq_of_beq_eq_true hb))] at h
            injection h with h1 h2 h3; subst h1; subst h2; subst h3
            show (if i' = i then _ else _)
            rw [if_neg e]
            exact ⟨rfl, ρ', hst, hf⟩
        | _ =>
          unfold blockV at h
          simp only at h
          injection h with h1 h2 h3; subst h1; subst h2; subst h3
          exact ⟨rfl, ρ', hst, hf⟩
    | loop c =>
      obtain ⟨k, hk⟩ := hloop c t s x t' s' h
      exact wpIn_loop_rounds k (hk ρ s w ρ w a B r (Step.refl hR) hf hB)
    | region i ops draw =>
      cases draw with
      | true => exact hD _ hih i ops t s x t' s' h ρ w a B r hR hf
      | false =>
        refine wpIn_region ?_
        have := regionV_ok hih hH (ops := ops) ops.toList 0 rfl h (Step.refl hR) hf
        rw [List.range_eq_range']
        simpa using this
    | scope c =>
      exact wpIn_scope_rounds n (scopeV_ok hih n h (Step.refl hR) hf hB)
    | rangeFunc g ps assign body => exact rangeV_ok hih hH h hR hf hB
    | _ => cases h
theorem runOK (hmix : P.follows .mixedOrders = true) {H : Hook} (hH : HookOK P W0 H) (hD : DrawOK P W0 H) (n : Nat) : RunOK P W0 (exec P H n) := (step_ok hmix hH hD n).1
end Go.Clo
/- The interpreter of closed runs, a part of it. -/
namespace Go.Clo
set_option linter.unusedSimpArgs false
set_option linter.unusedVariables false
set_option linter.unnecessarySimpa false
open Go Go.RowKit

variable {P : Program} {W0 : World}

/-- More numbers are set apart. -/
theorem Step.bump {ρ : Rho} {s : St} {w : World} (h : Rel W0 ρ s w) (n : Nat) (hn : s.size ≤ n) : Step W0 ρ s w ρ ⟨s.mem, n⟩ w where
  le := ρ.le_refl
  rel := ⟨h.below, fun b x hb => (h.blk b x hb).imp (fun k => Nat.lt_of_lt_of_le k hn) id, fun b hb => h.fresh b (Nat.le_trans hn hb), h.dis⟩
  size := hn
  wsize := Nat.le_refl _
  keeps _ _ _ := rfl
  img _ _ k := k
  hole _ _ k := k
  unborn _ _ k := k
  stay _ y k := ⟨y, k⟩
/-- The world draws a number. -/
theorem Step.world {ρ0 ρ : Rho} {s0 s : St} {w0 w w' : World} (h : Step W0 ρ0 s0 w0 ρ s w) (he : w'.heap = w.heap) (ht : w'.tape = w.tape) (ho : w'.os = w.os) (hu : w'.output = w.output) : Step W0 ρ0 s0 w0 ρ s w' :=
  h.trans (Step.draw h.rel he ht ho hu)
/-- A block is made whose number was set apart. -/
theorem Step.float {ρ0 ρ : Rho} {s0 Y : St} {w0 w : World} (hst : Step W0 ρ0 s0 w0 ρ Y w) {id : Nat} (hn : ρ id = none) (h0 : s0.size ≤ id) (hid : id < Y.size) (obj : Obj) :
    Step W0 ρ0 s0 w0 (ρ.upd id ⟨w.heap.size, 0, 0⟩) Y (w.alloc obj) := by
  have hg : Y.get id = none := by
    cases hg : Y.get id with
    | none => rfl
    | some y => obtain ⟨_, l, hl, _⟩ := hst.rel.blk _ _ hg; rw [hn] at hl; cases hl
  have hrel : Rel W0 (ρ.upd id ⟨w.heap.size, 0, 0⟩) ⟨Y.mem, Y.size⟩ (w.alloc obj) := (hst.rel.grow obj).place (n := Y.size) _ hn hg hid (Nat.le_refl _)
  refine ⟨Rho.le_trans hst.le (Rho.le_upd _ hn), hrel, hst.size, Nat.le_trans hst.wsize (by simp), ?_, ?_, hst.hole, ?_, hst.stay⟩
  · intro r hr hi
    rw [heap_alloc_old w obj (Nat.lt_of_lt_of_le hr hst.wsize)]
    exact hst.keeps r hr hi
  · rintro r hr ⟨b, y, l, hb, ha, hl, hlr⟩
    have : b ≠ id := fun e => by subst e; rw [hg] at hb; cases hb
    rw [Rho.upd_other _ _ this] at hl
    exact hst.img r hr ⟨b, y, l, hb, ha, hl, hlr⟩
  · intro b hb hu
    rw [Rho.upd_other _ _ (by omega)]
    exact hst.unborn b hb hu
/-- A block that was made and is not in the memory yet. -/
structure PendOK (ρ : Rho) (s0 : St) (w0 : World) (Y : St) (w : World) (id : Nat) (x : Blk) : Prop where
  low : s0.size ≤ id
  lt : id < Y.size
  al : x.alive
  ok : Y.get id = none → ∃ l, ρ id = some l ∧ w0.heap.size ≤ l.blk ∧ l.blk < w.heap.size ∧ BOK ρ w l x ∧ ¬ Img ρ Y l.blk
theorem Step.put {ρ0 ρ : Rho} {s0 Y : St} {w0 w : World} (hB : W0.heap.size ≤ w0.heap.size) (hst : Step W0 ρ0 s0 w0 ρ Y w) {id : Nat} {x : Blk} (hp : PendOK ρ s0 w0 Y w id x) (hg : Y.get id = none) : Step W0 ρ0 s0 w0 ρ (Y.put id x) w := by
  obtain ⟨l, hl, h1, h2, h3, h4⟩ := hp.ok hg
  refine ⟨hst.le, hst.rel.add hp.lt hg hl (Side.of hp.al (Nat.le_trans hB h1)) h2 h4 h3, hst.size, hst.wsize, hst.keeps, ?_, ?_, hst.unborn, ?_⟩
  · rintro r hr ⟨b, y, m, hb, ha, hm, rfl⟩
    rw [St.get_put] at hb
    by_cases e : b = id
    · subst e; rw [hl] at hm; injection hm with hm; subst hm; omega
    · rw [if_neg e] at hb; exact hst.img _ hr ⟨b, y, m, hb, ha, hm, rfl⟩
  · intro b hb hn
    have := hp.low
    rw [St.get_put, if_neg (by omega)]
    exact hst.hole b hb hn
  · intro b y hy
    obtain ⟨z, hz⟩ := hst.stay b y hy
    rw [St.get_put]
    by_cases e : b = id
    · rw [if_pos e]; exact ⟨_, rfl⟩
    · rw [if_neg e]; exact ⟨z, hz⟩
theorem addPend_cons (Y : St) (e : Nat × Nat × Blk) (q : Pend) : addPend Y (e :: q) = addPend (match Y.get e.2.1 with | some _ => Y | none => Y.put e.2.1 e.2.2) q := rfl
/-- What holds when blocks that were made are put into the memory. -/
structure Added (W0 : World) (ρ0 : Rho) (s0 : St) (w0 : World) (ρ : Rho) (Y : St) (w : World) (q : Pend) (Z : St) : Prop where
  step : Step W0 ρ0 s0 w0 ρ Z w
  size : Z.size = Y.size
  other : ∀ b, (∀ e ∈ q, e.2.1 ≠ b) → Z.get b = Y.get b
  there : ∀ e ∈ q, ∃ y, Z.get e.2.1 = some y
  old : ∀ b y, Y.get b = some y → Z.get b = some y
  img : ∀ r, Img ρ Z r → Img ρ Y r ∨ ∃ e ∈ q, Y.get e.2.1 = none ∧ ∃ l, ρ e.2.1 = some l ∧ l.blk = r
theorem addPend_ok {ρ0 ρ : Rho} {s0 : St} {w0 w : World} (hB : W0.heap.size ≤ w0.heap.size) : ∀ (q : Pend) {Y : St}, Step W0 ρ0 s0 w0 ρ Y w → (∀ e ∈ q, PendOK ρ s0 w0 Y w e.2.1 e.2.2) →
    (∀ e ∈ q, ∀ e' ∈ q, e.2.1 ≠ e'.2.1 → Y.get e.2.1 = none → Y.get e'.2.1 = none → ∀ l l', ρ e.2.1 = some l → ρ e'.2.1 = some l' → l.blk ≠ l'.blk) → Added W0 ρ0 s0 w0 ρ Y w q (addPend Y q)
  | [], Y, hst, _, _ => ⟨hst, rfl, fun _ _ => rfl, fun _ h => by (cases h), fun _ _ h => h, fun _ h => Or.inl h⟩
  | e :: q, Y, hst, hp, hap => by
    rw [addPend_cons]
    cases hg : Y.get e.2.1 with
    | some y0 =>
      have k := addPend_ok hB q hst (fun e' he' => hp e' (List.mem_cons_of_mem _ he')) (fun e1 h1 e2 h2 => hap e1 (List.mem_cons_of_mem _ h1) e2 (List.mem_cons_of_mem _ h2))
      refine ⟨k.step, k.size, fun b hb => k.other b fun e' he' => hb e' (List.mem_cons_of_mem _ he'), fun e' he' => ?_, k.old, fun r hr => (k.img r hr).imp id fun ⟨e', he', h⟩ => ⟨e', List.mem_cons_of_mem _ he', h⟩⟩
      rcases List.mem_cons.1 he' with rfl | he'
      · exact ⟨y0, k.old _ _ hg⟩
      · exact k.there e' he'
    | none =>
      have hpe := hp e List.mem_cons_self
      obtain ⟨l, hl, h1, h2, h3, h4⟩ := hpe.ok hg
      have himg : ∀ r, Img ρ (Y.put e.2.1 e.2.2) r → Img ρ Y r ∨ l.blk = r := by
        rintro r ⟨b, y, m, hb, ha, hm, rfl⟩
        rw [St.get_put] at hb
        by_cases e' : b = e.2.1
        · subst e'; rw [hl] at hm; injection hm with hm; subst hm; exact Or.inr rfl
        · rw [if_neg e'] at hb; exact Or.inl ⟨b, y, m, hb, ha, hm, rfl⟩
      have hnone : ∀ b, (Y.put e.2.1 e.2.2).get b = none → b ≠ e.2.1 ∧ Y.get b = none := fun b hb => by
        rw [St.get_put] at hb
        by_cases e' : b = e.2.1
        · rw [if_pos e'] at hb; cases hb
        · rw [if_neg e'] at hb; exact ⟨e', hb⟩
      have k := addPend_ok hB q (Step.put hB hst hpe hg) (fun e' he' => by
          have he := hp e' (List.mem_cons_of_mem _ he')
          refine ⟨he.low, he.lt, he.al, fun hn => ?_⟩
          obtain ⟨hne, hn⟩ := hnone _ hn
          obtain ⟨l', hl', k1, k2, k3, k4⟩ := he.ok hn
          refine ⟨l', hl', k1, k2, k3, fun hi => ?_⟩
          rcases himg _ hi with hi | hi
          · exact k4 hi
          · exact hap e List.mem_cons_self e' (List.mem_cons_of_mem _ he') (Ne.symm hne) hg hn l l' hl hl' hi)
        (fun e1 k1 e2 k2 hne n1 n2 => hap e1 (List.mem_cons_of_mem _ k1) e2 (List.mem_cons_of_mem _ k2) hne (hnone _ n1).2 (hnone _ n2).2)
      refine ⟨k.step, k.size, fun b hb => ?_, fun e' he' => ?_, fun b y hy => ?_, fun r hr => ?_⟩
      · rw [k.other b fun e' he' => hb e' (List.mem_cons_of_mem _ he'), St.get_put, if_neg (Ne.symm (hb e List.mem_cons_self))]
      · rcases List.mem_cons.1 he' with rfl | he'
        · exact ⟨_, k.old e'.2.1 e'.2.2 (by rw [St.get_put, if_pos rfl])⟩
        · exact k.there e' he'
      · have : b ≠ e.2.1 := fun h => by subst h; rw [hg] at hy; cases hy
        exact k.old b y (by rw [St.get_put, if_neg this]; exact hy)
      · rcases k.img r hr with hi | ⟨e', he', hn, l', hl', hr'⟩
        · rcases himg r hi with hi | hi
          · exact Or.inl hi
          · exact Or.inr ⟨e, List.mem_cons_self, hg, l, hl, hi⟩
        · exact Or.inr ⟨e', List.mem_cons_of_mem _ he', (hnone _ hn).2, l', hl', hr'⟩

theorem mem_ownOf {b : List Nat} {i : Nat} {e : Nat × Nat × Blk} : ∀ {q : Pend}, e ∈ ownOf b i q ↔ e ∈ q ∧ before b e.1 i = true
  | [] => by simp [ownOf]
  | x :: q => by
    have ih := mem_ownOf (b := b) (i := i) (e := e) (q := q)
    unfold ownOf
    cases hx : before b x.1 i with
    | true =>
      simp only [List.mem_cons, ih]
      constructor
      · rintro (rfl | ⟨h1, h2⟩)
        · exact ⟨Or.inl rfl, hx⟩
        · exact ⟨Or.inr h1, h2⟩
      · rintro ⟨rfl | h1, h2⟩
        · exact Or.inl rfl
        · exact Or.inr ⟨h1, h2⟩
    | false =>
      simp only [List.mem_cons, ih]
      constructor
      · rintro ⟨h1, h2⟩; exact ⟨Or.inr h1, h2⟩
      · rintro ⟨rfl | h1, h2⟩
        · rw [hx] at h2; cases h2
        · exact ⟨h1, h2⟩
theorem mem_restOf {b : List Nat} {i : Nat} {e : Nat × Nat × Blk} : ∀ {q : Pend}, e ∈ restOf b i q ↔ e ∈ q ∧ before b e.1 i = false
  | [] => by simp [restOf]
  | x :: q => by
    have ih := mem_restOf (b := b) (i := i) (e := e) (q := q)
    unfold restOf
    cases hx : before b x.1 i with
    | false =>
      simp only [List.mem_cons, ih]
      constructor
      · rintro (rfl | ⟨h1, h2⟩)
        · exact ⟨Or.inl rfl, hx⟩
        · exact ⟨Or.inr h1, h2⟩
      · rintro ⟨rfl | h1, h2⟩
        · exact Or.inl rfl
        · exact Or.inr ⟨h1, h2⟩
    | true =>
      simp only [List.mem_cons, ih]
      constructor
      · rintro ⟨h1, h2⟩; exact ⟨Or.inr h1, h2⟩
      · rintro ⟨rfl | h1, h2⟩
        · rw [hx] at h2; cases h2
        · exact ⟨h1, h2⟩
end Go.Clo
/- The interpreter of closed runs, a part of it. -/
namespace Go.Clo
set_option linter.unusedSimpArgs false
set_option linter.unusedVariables false
set_option linter.unnecessarySimpa false
open Go Go.RowKit

variable {P : Program} {W0 : World}

theorem get_restrL (t : Fr) : ∀ (xs : List Operand) (r : Tr V) (d : Nat), (restrL t xs r).get d = if d ∈ tmpsOf xs ∧ d < t.n then some (t.get d) else r.get d
  | [], r, d => by simp [restrL, tmpsOf]
  | x :: xs, r, d => by
    unfold restrL tmpsOf
    rw [get_restrL t xs]
    cases x with
    | tmp e =>
      simp only [List.mem_cons]
      by_cases h1 : d ∈ tmpsOf xs ∧ d < t.n
      · rw [if_pos h1, if_pos ⟨Or.inr h1.1, h1.2⟩]
      · rw [if_neg h1]
        cases hb : Nat.blt e t.n with
        | true =>
          have hlt : e < t.n := Nat.le_of_ble_eq_true hb
          simp only [Tr.get_set]
          by_cases h2 : d = e
          · subst h2; rw [if_pos rfl, if_pos ⟨Or.inl rfl, hlt⟩]
          · rw [if_neg h2, if_neg (fun h => h1 ⟨h.1.resolve_left h2, h.2⟩)]
        | false =>
          have hlt : ¬ e < t.n := fun h => by rw [show Nat.blt e t.n = true from Nat.ble_eq_true_of_le h] at hb; cases hb
          have : ¬ ((d = e ∨ d ∈ tmpsOf xs) ∧ d < t.n) := by
            rintro ⟨h | h, h'⟩
            · exact hlt (h ▸ h')
            · exact h1 ⟨h, h'⟩
          rw [if_neg this]
    | _ => rfl
theorem get_restrF (t : Fr) (o : Oper) (d : Nat) : (restrF t o).get d = if d ∈ tmpsOf o.op.operands.toList ∧ d < t.n then t.get d else undefV := by
  unfold restrF Fr.get
  simp only
  rw [get_restrL]
  by_cases h : d ∈ tmpsOf o.op.operands.toList ∧ d < t.n
  · rw [if_pos h, if_pos h]; rfl
  · rw [if_neg h, if_neg h]; rfl
theorem mem_tmpsOf {d : Nat} : ∀ {xs : List Operand}, .tmp d ∈ xs → d ∈ tmpsOf xs
  | x :: xs, h => by
    rcases List.mem_cons.1 h with rfl | h
    · simp [tmpsOf]
    · have := mem_tmpsOf h
      unfold tmpsOf
      cases x with
      | tmp e => exact List.mem_cons_of_mem _ this
      | _ => exact this
/-- The slots that an operation looks at. -/
def rAct (a : Act) (o : Oper) (n : Nat) : Act := { a with tmps := (Array.range n).map fun i => if i ∈ tmpsOf o.op.operands.toList then a.tmps.getD i undef else undef }
theorem rAct_get (a : Act) (o : Oper) (n d : Nat) : (rAct a o n).tmps.getD d undef = if d ∈ tmpsOf o.op.operands.toList ∧ d < n then a.tmps.getD d undef else undef := by
  unfold rAct
  simp only [Array.getD_eq_getD_getElem?, Array.getElem?_map, Array.getElem?_range]
  by_cases h : d < n
  · by_cases h' : d ∈ tmpsOf o.op.operands.toList <;> simp [h, h']
  · simp [h]
theorem rAct_FrE {ρ : Rho} {t : Fr} {a : Act} {o : Oper} (h : ∀ d, d ∈ tmpsOf o.op.operands.toList → E ρ (t.get d) (a.tmps.getD d undef)) : FrE ρ (restrF t o) (rAct a o t.n).tmps := by
  refine ⟨by simp [rAct, restrF], fun d => ?_⟩
  rw [get_restrF, rAct_get]
  by_cases hd : d ∈ tmpsOf o.op.operands.toList ∧ d < t.n
  · rw [if_pos hd, if_pos hd]; exact h d hd.1
  · rw [if_neg hd, if_neg hd]; exact E_undef
theorem rAct_eval {a : Act} {o : Oper} {n : Nat} (hn : a.tmps.size = n) (hs : ∀ cs b, o.op ≠ .select cs b) : execOp (rAct a o n).eval o = execOp a.eval o := by
  refine execOp_congr o hs fun x hx => ?_
  cases x with
  | tmp d =>
    show (rAct a o n).tmps.getD d undef = a.tmps.getD d undef
    rw [rAct_get]
    by_cases h : d < n
    · rw [if_pos ⟨mem_tmpsOf (by simpa using hx), h⟩]
    · rw [if_neg (fun k => h k.2)]
      simp [Array.getD_eq_getD_getElem?, hn, h]
  | _ => rfl

/-- What an operation does in the canonical run. -/
inductive StepD (P : Program) (H : Hook) (ih : Run) (b : List Nat) (base i : Nat) (o : Oper) (x : Sn) (v : V) (x' : Sn) : Bool → Prop where
  | off (hv : v = undefV) (hs : x'.s = x.s) (hp : x'.p = x.p) (hq : x'.q = x.q) : StepD P H ih b base i o x v x' false
  | pure (f : Fr → M V) (hF : opF P o = .pure f) (hf : f (restrF x.t o) = .ok v) (hs : x'.s = x.s) (hp : x'.p = x.p) (hq : x'.q = x.q) : StepD P H ih b base i o x v x' true
  | read (f : Fr → St → M V) (hF : opF P o = .read f) (hs : x'.s = x.s) (hp : x'.p = x.p) (hq : x'.q = x.q) : StepD P H ih b base i o x v x' true
  | float (f : Fr → Nat → M (V × Blk)) (y : Blk) (hF : opF P o = .float f) (hf : f (restrF x.t o) (base + i) = .ok (v, y)) (hs : x'.s = x.s) (hp : x'.p = (i, base + i, y) :: x.p) (hq : x'.q = (i, base + i, y) :: x.q) : StepD P H ih b base i o x v x' true
  | eff (hF : (∃ f, opF P o = .eff f) ∨ ∃ f l, opF P o = .call f l) (hf : operV P H ih (restrF x.t o) (addPend x.s (ownOf b i x.p)) (opF P o) = .ok (v, x'.s)) (hp : x'.p = restOf b i x.p) (hq : x'.q = x.q) : StepD P H ih b base i o x v x' true
theorem stepD_inv {H : Hook} {ih : Run} {ops : Array Oper} {b : List Nat} {base i : Nat} {o : Oper} {x x' : Sn} {v : V} (h : stepD P H ih ops b base i o x = .ok (v, x')) :
    x'.t = putV x.t o.dst v ∧ StepD P H ih b base i o x v x' (wantedV x.t (guardOf ops o)) := by
  unfold stepD at h
  cases hw : wantedV x.t (guardOf ops o) with
  | false =>
    rw [hw] at h
    injection h with h
    simp only [Prod.mk.injEq] at h
    obtain ⟨rfl, rfl⟩ := h
    exact ⟨rfl, .off rfl rfl rfl rfl⟩
  | true =>
    rw [hw] at h
    simp only at h
    cases hF : opF P o with
    | pure f =>
      rw [hF] at h
      obtain ⟨v', h1, h2⟩ := M.bind_ok h
      injection h2 with h2; simp only [Prod.mk.injEq] at h2; obtain ⟨rfl, rfl⟩ := h2
      exact ⟨rfl, .pure f hF h1 rfl rfl rfl⟩
    | read f =>
      rw [hF] at h
      obtain ⟨v', h1, h2⟩ := M.bind_ok h
      injection h2 with h2; simp only [Prod.mk.injEq] at h2; obtain ⟨rfl, rfl⟩ := h2
      exact ⟨rfl, .read f hF rfl rfl rfl⟩
    | float f =>
      rw [hF] at h
      obtain ⟨⟨v', y⟩, h1, h2⟩ := M.bind_ok h
      injection h2 with h2; simp only [Prod.mk.injEq] at h2; obtain ⟨rfl, rfl⟩ := h2
      exact ⟨rfl, .float f y hF h1 rfl rfl rfl⟩
    | eff f =>
      rw [hF] at h
      obtain ⟨⟨v', s'⟩, h1, h2⟩ := M.bind_ok h
      injection h2 with h2; simp only [Prod.mk.injEq] at h2; obtain ⟨rfl, rfl⟩ := h2
      exact ⟨rfl, .eff (Or.inl ⟨f, hF⟩) (by rw [hF]; exact h1) rfl rfl⟩
    | call f l =>
      rw [hF] at h
      obtain ⟨⟨v', s'⟩, h1, h2⟩ := M.bind_ok h
      injection h2 with h2; simp only [Prod.mk.injEq] at h2; obtain ⟨rfl, rfl⟩ := h2
      exact ⟨rfl, .eff (Or.inr ⟨f, l, hF⟩) (by rw [hF]; exact h1) rfl rfl⟩
    | bad e => rw [hF] at h; cases h
end Go.Clo
/- The interpreter of closed runs, a part of it. -/
namespace Go.Clo
set_option linter.unusedSimpArgs false
set_option linter.unusedVariables false
set_option linter.unnecessarySimpa false
open Go Go.RowKit

variable {P : Program} {W0 : World}

def Closed (ops : Array Oper) (L : Nat → Prop) : Prop := ∀ j o, ops[j]? = some o → L j → ∀ e ∈ o.after, Region.binds .any e = true → L e.on
def EffAt (P : Program) (ops : Array Oper) (X : Nat → Sn) (k : Nat) : Prop := ∃ o, ops[k]? = some o ∧ wantedV (X k).t (guardOf ops o) = true ∧ ((∃ f, opF P o = .eff f) ∨ ∃ f l, opF P o = .call f l)
def Flt (P : Program) (ops : Array Oper) (base : Nat) (X : Nat → Sn) (U : Nat → V) (k : Nat) (x : Blk) : Prop := ∃ o f, ops[k]? = some o ∧ wantedV (X k).t (guardOf ops o) = true ∧ opF P o = .float f ∧ f (restrF (X k).t o) (base + k) = .ok (U k, x)
/-- The canonical run of a region that draws its order. -/
structure Cn (P : Program) (H : Hook) (ih : Run) (ops : Array Oper) (b : List Nat) (base : Nat) (X : Nat → Sn) (U : Nat → V) : Prop where
  st : ∀ (i : Nat) (o : Oper), ops[i]? = some o → stepD P H ih ops b base i o (X i) = .ok (U i, X (i + 1))
  p0 : (X 0).p = []
  q0 : (X 0).q = []
  inn : ∀ i j, before b i j = true → j < ops.size
  clo : ∀ (i j : Nat) (o : Oper), ops[j]? = some o → before b i j = true → ∃ e ∈ o.after, Region.binds .any e = true ∧ (i = e.on ∨ before b i e.on = true)
  edge : ∀ (i : Nat) (o : Oper), ops[i]? = some o → ∀ e ∈ o.after, Region.binds .any e = true → e.on < i
  tmp : ∀ (i : Nat) (o : Oper) d, ops[i]? = some o → o.dst = some d → ∀ (j : Nat) (o' : Oper), ops[j]? = some o' → i ≠ j → (o'.dst = some d ∨ d ∈ tmpsOf o'.op.operands.toList) → (i < j → before b i j = true) ∧ (j < i → before b j i = true)
  grd : ∀ (i : Nat) (o : Oper) (j : Nat) (want : Bool), ops[i]? = some o → o.guard = some (j, want) → (∃ e ∈ o.after, e.on = j ∧ Region.binds .any e = true) ∧ ∀ p d, ops[j]? = some p → p.dst = some d → ∀ k ok, ops[k]? = some ok → k ≠ j → ok.dst ≠ some d
  ord : ∀ j k, EffAt P ops X j → EffAt P ops X k → j < k → before b j k = true
  red : ∀ (i : Nat) (o : Oper) f, ops[i]? = some o → wantedV (X i).t (guardOf ops o) = true → opF P o = .read f → ∀ c, (c = ops.size ∨ EffAt P ops X c) →
    (∃ k, (k = ops.size ∨ EffAt P ops X k) ∧ ((c ≤ k ∧ before b k i = true) ∨ (k < c ∧ before b i k = true))) ∨ f (restrF (X i).t o) (addPend (X c).s (ownOf b i (X i).q)) = .ok (U i)
  nosel : ∀ (i : Nat) (o : Oper) cs d, ops[i]? = some o → o.op ≠ .select cs d

section
variable {H : Hook} {ih : Run} {ops : Array Oper} {b : List Nat} {base : Nat} {X : Nat → Sn} {U : Nat → V}
theorem size_of {i : Nat} {o : Oper} (h : ops[i]? = some o) : i < ops.size := (Array.getElem?_eq_some_iff.1 h).1
theorem op_at {i : Nat} (h : i < ops.size) : ∃ o, ops[i]? = some o := ⟨ops[i], by simp [h]⟩
theorem EffAt.lt {k : Nat} (h : EffAt P ops X k) : k < ops.size := by obtain ⟨o, h, _⟩ := h; exact size_of h
theorem Flt.lt {k : Nat} {x : Blk} (h : Flt P ops base X U k x) : k < ops.size := by obtain ⟨o, _, h, _⟩ := h; exact size_of h
theorem Flt.notEff {k : Nat} {x : Blk} (h : Flt P ops base X U k x) : ¬ EffAt P ops X k := by
  rintro ⟨o, h1, _, h3⟩
  obtain ⟨o', f, k1, _, k3, _⟩ := h
  rw [h1] at k1; injection k1 with k1; subst k1
  rcases h3 with ⟨g, h3⟩ | ⟨g, l, h3⟩ <;> (rw [h3] at k3; cases k3)
theorem Flt.one {k : Nat} {x x' : Blk} (h : Flt P ops base X U k x) (h' : Flt P ops base X U k x') : x = x' := by
  obtain ⟨o, f, h1, _, h3, h4⟩ := h
  obtain ⟨o', f', k1, _, k3, k4⟩ := h'
  rw [h1] at k1; injection k1 with k1; subst k1
  rw [h3] at k3; injection k3 with k3; subst k3
  rw [h4] at k4; injection k4 with k4
  simp only [Prod.mk.injEq] at k4
  exact k4.2
theorem Cn.lt (C : Cn P H ih ops b base X U) : ∀ {j i : Nat}, before b i j = true → i < j := by
  intro j
  induction j using Nat.strongRecOn with
  | _ j ihj =>
    intro i h
    obtain ⟨o, ho⟩ := op_at (C.inn i j h)
    obtain ⟨e, he, hb, h1 | h1⟩ := C.clo i j o ho h
    · subst h1; exact C.edge j o ho e he hb
    · have h2 := C.edge j o ho e he hb
      exact Nat.lt_trans (ihj _ h2 h1) h2
theorem Cn.down (C : Cn P H ih ops b base X U) {L : Nat → Prop} (hL : Closed ops L) : ∀ {j i : Nat}, before b i j = true → L j → L i := by
  intro j
  induction j using Nat.strongRecOn with
  | _ j ihj =>
    intro i h hj
    obtain ⟨o, ho⟩ := op_at (C.inn i j h)
    obtain ⟨e, he, hb, h1 | h1⟩ := C.clo i j o ho h
    · subst h1; exact hL j o ho hj e he hb
    · exact ihj _ (C.edge j o ho e he hb) h1 (hL j o ho hj e he hb)
/-- An operation that may run. -/
structure Rdy (ops : Array Oper) (L : Nat → Prop) (k : Nat) (o : Oper) : Prop where
  op : ops[k]? = some o
  un : ¬ L k
  all : ∀ e ∈ o.after, Region.binds .any e = true → L e.on
theorem Cn.ahead (C : Cn P H ih ops b base X U) {L : Nat → Prop} (hL : Closed ops L) {k : Nat} {o : Oper} (hk : Rdy ops L k o) {i : Nat} (h : before b i k = true) : L i := by
  obtain ⟨e, he, hb, h1 | h1⟩ := C.clo i k o hk.op h
  · subst h1; exact hk.all e he hb
  · exact C.down hL h1 (hk.all e he hb)
def with_ (L : Nat → Prop) (k : Nat) : Nat → Prop := fun i => i = k ∨ L i
theorem Closed.with {L : Nat → Prop} (hL : Closed ops L) {k : Nat} {o : Oper} (hk : Rdy ops L k o) : Closed ops (with_ L k) := by
  intro j o' ho' hj e he hb
  rcases hj with rfl | hj
  · have := hk.op
    rw [ho'] at this; injection this with this; subst this
    exact Or.inr (hk.all e he hb)
  · exact Or.inr (hL j o' ho' hj e he hb)

/-- The slots, when the operations of L have run. -/
structure TInv (ds : List Deferred) (ops : Array Oper) (n : Nat) (X : Nat → Sn) (L : Nat → Prop) (ρ : Rho) (a : Act) : Prop where
  size : a.tmps.size = n
  defers : a.defers = ds
  at_ : ∀ d i, i ≤ ops.size → (∀ j o, j < i → ops[j]? = some o → o.dst = some d → L j) → (∀ j o, i ≤ j → ops[j]? = some o → L j → o.dst ≠ some d) → E ρ ((X i).t.get d) (a.tmps.getD d undef)
theorem Cn.next (C : Cn P H ih ops b base X U) {i : Nat} {o : Oper} (h : ops[i]? = some o) : (X (i + 1)).t = putV (X i).t o.dst (U i) := (stepD_inv (C.st i o h)).1
theorem Cn.keep (C : Cn P H ih ops b base X U) {d i : Nat} : ∀ {j : Nat}, i ≤ j → j ≤ ops.size → (∀ k o, i ≤ k → k < j → ops[k]? = some o → o.dst ≠ some d) → (X j).t.get d = (X i).t.get d := by
  intro j
  induction j with
  | zero => intro h _ _; rw [Nat.le_zero.1 h]
  | succ j ihj =>
    intro h hj hno
    by_cases e : i = j + 1
    · rw [e]
    · obtain ⟨o, ho⟩ := op_at (show j < ops.size by omega)
      rw [C.next ho, ← ihj (by omega) (by omega) (fun k o h1 h2 h3 => hno k o h1 (by omega) h3)]
      cases hd : o.dst with
      | none => rfl
      | some d' =>
        have := hno j o (by omega) (by omega) ho
        show ((X j).t.set d' (U j)).get d = _
        rw [Fr.get_set, if_neg]
        rintro ⟨rfl, _⟩
        exact this hd
theorem Cn.n (C : Cn P H ih ops b base X U) : ∀ {i : Nat}, i ≤ ops.size → (X i).t.n = (X 0).t.n := by
  intro i
  induction i with
  | zero => intro _; rfl
  | succ i ihi =>
    intro h
    obtain ⟨o, ho⟩ := op_at (show i < ops.size by omega)
    rw [C.next ho, ← ihi (by omega)]
    cases o.dst with
    | none => rfl
    | some d => exact Fr.set_n _ _ _
theorem Cn.r (C : Cn P H ih ops b base X U) : ∀ {i : Nat}, i ≤ ops.size → (X i).t.r = (X 0).t.r := by
  intro i
  induction i with
  | zero => intro _; rfl
  | succ i ihi =>
    intro h
    obtain ⟨o, ho⟩ := op_at (show i < ops.size by omega)
    rw [C.next ho, putV_r, ← ihi (by omega)]
/-- What an operation that may run reads. -/
theorem TInv.read {ds : List Deferred} (C : Cn P H ih ops b base X U) {L : Nat → Prop} {ρ : Rho} {a : Act} (T : TInv ds ops (X 0).t.n X L ρ a) (hL : Closed ops L) {k : Nat} {o : Oper} (hk : Rdy ops L k o) {d : Nat} (hd : o.dst = some d ∨ d ∈ tmpsOf o.op.operands.toList) :
    E ρ ((X k).t.get d) (a.tmps.getD d undef) := by
  refine T.at_ d k (Nat.le_of_lt (size_of hk.op)) (fun j o' hj ho' hd' => ?_) (fun j o' hj ho' hl hd' => ?_)
  · exact C.ahead hL hk ((C.tmp j o' d ho' hd' k o hk.op (by omega) hd).1 hj)
  · by_cases e : j = k
    · subst e; exact hk.un hl
    · exact hk.un (C.down hL ((C.tmp j o' d ho' hd' k o hk.op e hd).2 (by omega)) hl)
theorem TInv.want {ds : List Deferred} (C : Cn P H ih ops b base X U) {L : Nat → Prop} {ρ : Rho} {a : Act} (T : TInv ds ops (X 0).t.n X L ρ a) {k : Nat} {o : Oper} (hk : Rdy ops L k o) :
    Region.wanted o (yielded ops a.tmps) = wantedV (X k).t (guardOf ops o) := by
  refine wantedV_ok (ρ := ρ) fun d want hg => ?_
  cases hgd : o.guard with
  | none => unfold guardOf at hg; rw [hgd] at hg; cases hg
  | some gw =>
    obtain ⟨j, w'⟩ := gw
    rw [guardOf_some hgd] at hg
    injection hg with hg
    simp only [Prod.mk.injEq] at hg
    obtain ⟨hg, _⟩ := hg
    obtain ⟨⟨e, he, hej, heb⟩, hs⟩ := C.grd k o j w' hk.op hgd
    have hLj : L j := hej ▸ hk.all e he heb
    have hjk : j < k := hej ▸ C.edge k o hk.op e he heb
    cases hp : ops[j]? with
    | none => rw [hp] at hg; cases hg
    | some p =>
      rw [hp] at hg
      refine T.at_ d k (Nat.le_of_lt (size_of hk.op)) (fun i o' hi ho' hd' => ?_) (fun i o' hi ho' hl hd' => ?_)
      · by_cases e : i = j
        · subst e; exact hLj
        · exact absurd hd' (hs p d hp hg i o' ho' e)
      · exact absurd hd' (hs p d hp hg i o' ho' (by omega))
theorem TInv.put {ds : List Deferred} (C : Cn P H ih ops b base X U) {L : Nat → Prop} {ρ ρ' : Rho} {a : Act} (T : TInv ds ops (X 0).t.n X L ρ a) (hL : Closed ops L) {k : Nat} {o : Oper} (hk : Rdy ops L k o) (hle : ρ.le ρ') {u : Value} (hu : E ρ' (U k) u) :
    TInv ds ops (X 0).t.n X (with_ L k) ρ' (a.put o.dst u) := by
  have hks := size_of hk.op
  refine ⟨?_, by rw [put_defers']; exact T.defers, fun d i hi h1 h2 => ?_⟩
  · cases hd : o.dst with
    | none => exact T.size
    | some d => show (a.tmps.setIfInBounds d u).size = _; simp [T.size]
  · by_cases hd : o.dst = some d
    · have hki : k < i := by
        rcases Nat.lt_or_ge k i with h | h
        · exact h
        · exact absurd hd (h2 k o h hk.op (Or.inl rfl))
      rw [C.keep (i := k + 1) (j := i) (by omega) hi (fun j o' hj hj' ho' hd' => ?_)]
      · rw [C.next hk.op, hd]
        show E ρ' (((X k).t.set d (U k)).get d) ((a.tmps.setIfInBounds d u).getD d undef)
        have hr := T.read C hL hk (Or.inl hd)
        rw [Fr.get_set, C.n (Nat.le_of_lt hks)]
        by_cases hlt : d < (X 0).t.n
        · rw [if_pos ⟨rfl, hlt⟩]
          have : d < a.tmps.size := by rw [T.size]; exact hlt
          simpa [Array.getD, this] using hu
        · rw [if_neg (fun h => hlt h.2)]
          have : ¬ d < a.tmps.size := by rw [T.size]; exact hlt
          have e : (a.tmps.setIfInBounds d u).getD d undef = a.tmps.getD d undef := by simp [Array.getD, this]
          rw [e]; exact E.mono hle _ hr
      · have hj2 : L j := by
          rcases h1 j o' hj' ho' hd' with e | h
          · omega
          · exact h
        exact hk.un (C.down hL ((C.tmp j o' d ho' hd' k o hk.op (by omega) (Or.inl hd)).2 (by omega)) hj2)
    · have e : (a.put o.dst u).tmps.getD d undef = a.tmps.getD d undef := by
        cases ho : o.dst with
        | none => rfl
        | some d' =>
          have : d' ≠ d := fun e => hd (by rw [ho, e])
          show (a.tmps.setIfInBounds d' u).getD d undef = _
          simp [Array.getElem?_setIfInBounds_ne this]
      rw [e]
      refine E.mono hle _ (T.at_ d i hi (fun j o' hj ho' hd' => ?_) (fun j o' hj ho' hl => h2 j o' hj ho' (Or.inr hl)))
      rcases h1 j o' hj ho' hd' with e | h
      · subst e
        rw [hk.op] at ho'; injection ho' with ho'; subst ho'
        exact absurd hd' hd
      · exact h
end
end Go.Clo
/- The interpreter of closed runs, a part of it. -/
namespace Go.Clo
set_option linter.unusedSimpArgs false
set_option linter.unusedVariables false
set_option linter.unnecessarySimpa false
open Go Go.RowKit

variable {P : Program} {W0 : World}
theorem alive_c {u v : V} {c : List V} {ty : TypeId} {x : Blk} (h : M.ok (u, Blk.cells c ty) = M.ok (v, x)) : x.alive := by
  injection h with h; injection h with _ h; subst h; trivial
theorem alive_m {u v : V} {c : List (V × V)} {x : Blk} (h : M.ok (u, Blk.map c) = M.ok (v, x)) : x.alive := by
  injection h with h; injection h with _ h; subst h; trivial
set_option maxHeartbeats 1000000 in
theorem float_alive {o : Oper} {f : Fr → Nat → M (V × Blk)} (h : opF P o = .float f) {t : Fr} {id : Nat} {v : V} {x : Blk} (hx : f t id = .ok (v, x)) : x.alive := by
  unfold opF at h
  split at h
  all_goals try (simp only [fBuild, fConv, fFieldAddr, fField, fIndexAddr, fIndex, fFunc, fIface, fLoad, fSlice, fLookup, fAlloc, fLit, fMake, fStore, fUpdate, fCall, fBuiltin, fLen, fCap, fAppend, fCopy, fClear, isSlice, orBad] at h)
  all_goals repeat' (first | (cases h; done) | split at h)
  all_goals injection h with h
  all_goals subst h
  all_goals simp only [gAlloc, gBox, gLit, gMake, gMap] at hx
  · exact alive_c hx
  · obtain ⟨_, _, hx⟩ := M.bind_ok hx; obtain ⟨_, hx⟩ := ask_ok hx; exact alive_c hx
  · obtain ⟨_, _, hx⟩ := M.bind_ok hx; obtain ⟨_, _, hx⟩ := M.bind_ok hx; exact alive_c hx
  · obtain ⟨_, _, hx⟩ := M.bind_ok hx; obtain ⟨_, _, hx⟩ := M.bind_ok hx; obtain ⟨_, _, hx⟩ := M.bind_ok hx; obtain ⟨_, _, hx⟩ := M.bind_ok hx; obtain ⟨_, hx⟩ := ask_ok hx; exact alive_c hx
  · exact alive_m hx

section
variable {H : Hook} {ih : Run} {ops : Array Oper} {b : List Nat} {base : Nat} {X : Nat → Sn} {U : Nat → V}

theorem Cn.mem_q (C : Cn P H ih ops b base X U) {e : Nat × Nat × Blk} : ∀ {i : Nat}, i ≤ ops.size → (e ∈ (X i).q ↔ ∃ j x, j < i ∧ e = (j, base + j, x) ∧ Flt P ops base X U j x) := by
  intro i
  induction i with
  | zero => intro _; rw [C.q0]; simp
  | succ i ihi =>
    intro h
    obtain ⟨o, ho⟩ := op_at (show i < ops.size by omega)
    have old : (X (i + 1)).q = (X i).q → (∀ x, ¬ Flt P ops base X U i x) → (e ∈ (X (i + 1)).q ↔ ∃ j x, j < i + 1 ∧ e = (j, base + j, x) ∧ Flt P ops base X U j x) := fun hq hno => by
      rw [hq, ihi (by omega)]
      constructor
      · rintro ⟨j, x, h1, h2, h3⟩; exact ⟨j, x, by omega, h2, h3⟩
      · rintro ⟨j, x, h1, h2, h3⟩
        have : j ≠ i := fun e => by subst e; exact hno x h3
        exact ⟨j, x, by omega, h2, h3⟩
    have key : ∀ {w : Bool}, wantedV (X i).t (guardOf ops o) = w → StepD P H ih b base i o (X i) (U i) (X (i + 1)) w → (e ∈ (X (i + 1)).q ↔ ∃ j x, j < i + 1 ∧ e = (j, base + j, x) ∧ Flt P ops base X U j x) := by
      intro w hw hs
      have not : (∀ f, opF P o ≠ .float f) ∨ w = false → ∀ x, ¬ Flt P ops base X U i x := by
        rintro hc x ⟨o', f, k1, k2, k3, _⟩
        rw [ho] at k1; injection k1 with k1; subst k1
        rcases hc with hc | hc
        · exact hc f k3
        · rw [hw, hc] at k2; cases k2
      cases hs with
      | off _ _ _ hq => exact old hq (not (Or.inr rfl))
      | pure f hF _ _ _ hq => exact old hq (not (Or.inl fun g => by rw [hF]; intro h; cases h))
      | read f hF _ _ hq => exact old hq (not (Or.inl fun g => by rw [hF]; intro h; cases h))
      | eff hF _ _ hq => exact old hq (not (Or.inl fun g => by rcases hF with ⟨f, hF⟩ | ⟨f, l, hF⟩ <;> (rw [hF]; intro h; cases h)))
      | float f y hF hf _ _ hq =>
        have hfl : Flt P ops base X U i y := ⟨o, f, ho, hw, hF, hf⟩
        rw [hq, List.mem_cons, ihi (by omega)]
        constructor
        · rintro (rfl | ⟨j, x, h1, h2, h3⟩)
          · exact ⟨i, y, by omega, rfl, hfl⟩
          · exact ⟨j, x, by omega, h2, h3⟩
        · rintro ⟨j, x, h1, h2, h3⟩
          by_cases e : j = i
          · subst e; rw [hfl.one h3]; exact Or.inl h2
          · exact Or.inr ⟨j, x, by omega, h2, h3⟩
    exact key rfl (stepD_inv (C.st i o ho)).2
theorem Cn.mem_p (C : Cn P H ih ops b base X U) {e : Nat × Nat × Blk} : ∀ {i : Nat}, i ≤ ops.size → (e ∈ (X i).p ↔ e ∈ (X i).q ∧ ∀ k, k < i → EffAt P ops X k → before b e.1 k = false) := by
  intro i
  induction i with
  | zero => intro _; rw [C.p0, C.q0]; simp
  | succ i ihi =>
    intro h
    obtain ⟨o, ho⟩ := op_at (show i < ops.size by omega)
    have old : (X (i + 1)).q = (X i).q → (X (i + 1)).p = (X i).p → ¬ EffAt P ops X i → (e ∈ (X (i + 1)).p ↔ e ∈ (X (i + 1)).q ∧ ∀ k, k < i + 1 → EffAt P ops X k → before b e.1 k = false) := fun hq hp hno => by
      rw [hq, hp, ihi (by omega)]
      constructor
      · rintro ⟨h1, h2⟩
        refine ⟨h1, fun k hk he => ?_⟩
        have : k ≠ i := fun e => by subst e; exact hno he
        exact h2 k (by omega) he
      · rintro ⟨h1, h2⟩; exact ⟨h1, fun k hk he => h2 k (by omega) he⟩
    have key : ∀ {w : Bool}, wantedV (X i).t (guardOf ops o) = w → StepD P H ih b base i o (X i) (U i) (X (i + 1)) w → (e ∈ (X (i + 1)).p ↔ e ∈ (X (i + 1)).q ∧ ∀ k, k < i + 1 → EffAt P ops X k → before b e.1 k = false) := by
      intro w hw hs
      have not : ((∀ f, opF P o ≠ .eff f) ∧ ∀ f l, opF P o ≠ .call f l) ∨ w = false → ¬ EffAt P ops X i := by
        rintro hc ⟨o', k1, k2, k3⟩
        rw [ho] at k1; injection k1 with k1; subst k1
        rcases hc with ⟨hc, hc'⟩ | hc
        · rcases k3 with ⟨f, k3⟩ | ⟨f, l, k3⟩
          · exact hc f k3
          · exact hc' f l k3
        · rw [hw, hc] at k2; cases k2
      cases hs with
      | off _ _ hp hq => exact old hq hp (not (Or.inr rfl))
      | pure f hF _ _ hp hq => exact old hq hp (not (Or.inl ⟨fun g => (by rw [hF]; intro h; cases h), fun g l => (by rw [hF]; intro h; cases h)⟩))
      | read f hF _ hp hq => exact old hq hp (not (Or.inl ⟨fun g => (by rw [hF]; intro h; cases h), fun g l => (by rw [hF]; intro h; cases h)⟩))
      | float f y hF hf _ hp hq =>
        have hno : ¬ EffAt P ops X i := not (Or.inl ⟨fun g => (by rw [hF]; intro h; cases h), fun g l => (by rw [hF]; intro h; cases h)⟩)
        rw [hp, hq, List.mem_cons, List.mem_cons, ihi (by omega)]
        constructor
        · rintro (rfl | ⟨h1, h2⟩)
          · refine ⟨Or.inl rfl, fun k hk he => ?_⟩
            cases hb : before b i k with
            | false => rfl
            | true => have := C.lt hb; omega
          · refine ⟨Or.inr h1, fun k hk he => ?_⟩
            have : k ≠ i := fun e => by subst e; exact hno he
            exact h2 k (by omega) he
        · rintro ⟨h1 | h1, h2⟩
          · exact Or.inl h1
          · exact Or.inr ⟨h1, fun k hk he => h2 k (by omega) he⟩
      | eff hF _ hp hq =>
        have heff : EffAt P ops X i := ⟨o, ho, hw, hF⟩
        rw [hp, hq, mem_restOf, ihi (by omega)]
        constructor
        · rintro ⟨⟨h1, h2⟩, h3⟩
          refine ⟨h1, fun k hk he => ?_⟩
          by_cases e : k = i
          · subst e; exact h3
          · exact h2 k (by omega) he
        · rintro ⟨h1, h2⟩
          exact ⟨⟨h1, fun k hk he => h2 k (by omega) he⟩, h2 i (by omega) heff⟩
    exact key rfl (stepD_inv (C.st i o ho)).2
theorem Cn.still (C : Cn P H ih ops b base X U) {i : Nat} : ∀ {j : Nat}, i ≤ j → j ≤ ops.size → (∀ k, i ≤ k → k < j → ¬ EffAt P ops X k) → (X j).s = (X i).s := by
  intro j
  induction j with
  | zero => intro h _ _; rw [Nat.le_zero.1 h]
  | succ j ihj =>
    intro h hj hno
    by_cases e : i = j + 1
    · rw [e]
    · obtain ⟨o, ho⟩ := op_at (show j < ops.size by omega)
      rw [← ihj (by omega) (by omega) (fun k h1 h2 => hno k h1 (by omega))]
      have hn := hno j (by omega) (by omega)
      have key : ∀ {w : Bool}, wantedV (X j).t (guardOf ops o) = w → StepD P H ih b base j o (X j) (U j) (X (j + 1)) w → (X (j + 1)).s = (X j).s := by
        intro w hw hs
        cases hs with
        | off _ hs _ _ => exact hs
        | pure f hF _ hs _ _ => exact hs
        | read f hF hs _ _ => exact hs
        | float f y hF hf hs _ _ => exact hs
        | eff hF _ _ _ => exact absurd ⟨o, ho, hw, hF⟩ hn
      exact key rfl (stepD_inv (C.st j o ho)).2
theorem next_eff (P : Program) (ops : Array Oper) (X : Nat → Sn) : ∀ (m c : Nat), ops.size - c = m → c ≤ ops.size → ∃ c', c ≤ c' ∧ c' ≤ ops.size ∧ (c' = ops.size ∨ EffAt P ops X c') ∧ ∀ k, c ≤ k → k < c' → ¬ EffAt P ops X k
  | 0, c, h, hc => ⟨c, Nat.le_refl _, hc, Or.inl (by omega), fun k h1 h2 => by omega⟩
  | m + 1, c, h, hc => by
    by_cases he : EffAt P ops X c
    · exact ⟨c, Nat.le_refl _, hc, Or.inr he, fun k h1 h2 => by omega⟩
    · obtain ⟨c', h1, h2, h3, h4⟩ := next_eff P ops X m (c + 1) (by omega) (by omega)
      refine ⟨c', by omega, h2, h3, fun k k1 k2 => ?_⟩
      by_cases e : k = c
      · subst e; exact he
      · exact h4 k (by omega) k2

/-- The memory, when the operations of L have run; c: the effect that is next. -/
structure MInv (P : Program) (W0 : World) (ops : Array Oper) (b : List Nat) (base : Nat) (X : Nat → Sn) (U : Nat → V) (ρ0 : Rho) (s0 : St) (w0 : World) (L : Nat → Prop) (ρ : Rho) (w : World) (c : Nat) : Prop where
  lt : ∀ i, L i → i < ops.size
  cur : c ≤ ops.size
  curE : c = ops.size ∨ EffAt P ops X c
  curL : ¬ L c
  low : ∀ k, EffAt P ops X k → k < c → L k
  step : Step W0 ρ0 s0 w0 ρ (X c).s w
  sz : base + ops.size ≤ (X c).s.size
  un : ∀ i, i < ops.size → (¬ L i ∨ ∀ x, ¬ Flt P ops base X U i x) → ρ (base + i) = none
  taken : ∀ i x k, L i → Flt P ops base X U i x → L k → EffAt P ops X k → before b i k = true → ∃ y, (X c).s.get (base + i) = some y
  pend : ∀ i x, L i → Flt P ops base X U i x → (∀ k, L k → EffAt P ops X k → before b i k = false) → (X c).s.get (base + i) = none ∧ ∃ l, ρ (base + i) = some l ∧ w0.heap.size ≤ l.blk ∧ l.blk < w.heap.size ∧ BOK ρ w l x ∧ ¬ Img ρ (X c).s l.blk
  apart : ∀ i i' x x' l l', i ≠ i' → L i → Flt P ops base X U i x → L i' → Flt P ops base X U i' x' → (X c).s.get (base + i) = none → (X c).s.get (base + i') = none → ρ (base + i) = some l → ρ (base + i') = some l' → l.blk ≠ l'.blk
section
variable {ρ0 ρ : Rho} {s0 : St} {w0 w : World} {L : Nat → Prop} {c : Nat}
theorem MInv.open_ (M : MInv P W0 ops b base X U ρ0 s0 w0 L ρ w c) {i : Nat} {x : Blk} (hi : L i) (hf : Flt P ops base X U i x) (hg : (X c).s.get (base + i) = none) :
    ∃ l, ρ (base + i) = some l ∧ w0.heap.size ≤ l.blk ∧ l.blk < w.heap.size ∧ BOK ρ w l x ∧ ¬ Img ρ (X c).s l.blk := by
  refine (M.pend i x hi hf fun k hk he => ?_).2
  cases hb : before b i k with
  | false => rfl
  | true => obtain ⟨y, hy⟩ := M.taken i x k hi hf hk he hb; rw [hg] at hy; cases hy
theorem MInv.added (M : MInv P W0 ops b base X U ρ0 s0 w0 L ρ w c) (hB : W0.heap.size ≤ w0.heap.size) (hbase : s0.size = base) {q : Pend} (hq : ∀ e ∈ q, ∃ j x, e = (j, base + j, x) ∧ L j ∧ Flt P ops base X U j x) :
    Added W0 ρ0 s0 w0 ρ (X c).s w q (addPend (X c).s q) := by
  refine addPend_ok hB q M.step (fun e he => ?_) (fun e he e' he' hne hn hn' l l' hl hl' => ?_)
  · obtain ⟨j, x, rfl, hj, hf⟩ := hq e he
    have := M.sz
    have := M.lt j hj
    exact ⟨by show s0.size ≤ base + j; omega, by show base + j < _; omega, (by obtain ⟨_, _, _, _, h1, h2⟩ := hf; exact float_alive h1 h2), fun hn => M.open_ hj hf hn⟩
  · obtain ⟨j, x, rfl, hj, hf⟩ := hq e he
    obtain ⟨j', x', rfl, hj', hf'⟩ := hq e' he'
    exact M.apart j j' x x' l l' (fun e => hne (by rw [e])) hj hf hj' hf' hn hn' hl hl'
theorem MInv.notCur (M : MInv P W0 ops b base X U ρ0 s0 w0 L ρ w c) {k : Nat} (hk : k < ops.size) (he : ¬ EffAt P ops X k) : k ≠ c := by
  rintro rfl
  rcases M.curE with h | h
  · omega
  · exact he h
/-- An operation that leaves the memory alone. -/
theorem MInv.idle (M : MInv P W0 ops b base X U ρ0 s0 w0 L ρ w c) {k : Nat} (hk : k < ops.size) (he : ¬ EffAt P ops X k) (hf : ∀ x, ¬ Flt P ops base X U k x) : MInv P W0 ops b base X U ρ0 s0 w0 (with_ L k) ρ w c := by
  have inE : ∀ {i}, with_ L k i → EffAt P ops X i → L i := fun h h' => h.resolve_left fun e => he (e ▸ h')
  have inF : ∀ {i x}, with_ L k i → Flt P ops base X U i x → L i := fun {i x} h h' => h.resolve_left fun e => hf x (e ▸ h')
  exact ⟨fun i hi => hi.elim (fun e => e ▸ hk) (M.lt i), M.cur, M.curE, fun h => h.elim (fun e => M.notCur hk he e.symm) M.curL, fun i h1 h2 => Or.inr (M.low i h1 h2), M.step, M.sz,
    fun i hi h => M.un i hi (h.imp (fun h h' => h (Or.inr h')) id), fun i x j h1 h2 h3 h4 h5 => M.taken i x j (inF h1 h2) h2 (inE h3 h4) h4 h5,
    fun i x h1 h2 h3 => M.pend i x (inF h1 h2) h2 fun j h4 h5 => h3 j (Or.inr h4) h5,
    fun i i' x x' l l' h1 h2 h3 h4 h5 => M.apart i i' x x' l l' h1 (inF h2 h3) h3 (inF h4 h5) h5⟩
end
end
end Go.Clo
/- The interpreter of closed runs, a part of it. -/
namespace Go.Clo
set_option linter.unusedSimpArgs false
set_option linter.unusedVariables false
set_option linter.unnecessarySimpa false
open Go Go.RowKit

variable {P : Program} {W0 : World}

section
variable {H : Hook} {ih : Run} {ops : Array Oper} {b : List Nat} {base : Nat} {X : Nat → Sn} {U : Nat → V}
variable {ρ0 ρ : Rho} {s0 : St} {w0 w : World} {L : Nat → Prop} {c : Nat}

/-- An operation that makes a block. -/
theorem MInv.made (C : Cn P H ih ops b base X U) (M : MInv P W0 ops b base X U ρ0 s0 w0 L ρ w c) (hbase : s0.size = base) (hL : Closed ops L) {k : Nat} {o : Oper} (hk : Rdy ops L k o) {x : Blk} (hf : Flt P ops base X U k x) {obj : Obj}
    (hx : BOK (ρ.upd (base + k) ⟨w.heap.size, 0, 0⟩) (w.alloc obj) ⟨w.heap.size, 0, 0⟩ x) : MInv P W0 ops b base X U ρ0 s0 w0 (with_ L k) (ρ.upd (base + k) ⟨w.heap.size, 0, 0⟩) (w.alloc obj) c := by
  have hks := hf.lt
  have he := hf.notEff
  have hn : ρ (base + k) = none := M.un k hks (Or.inl hk.un)
  have hsz := M.sz
  have inE : ∀ {i}, with_ L k i → EffAt P ops X i → L i := fun h h' => h.resolve_left fun e => he (e ▸ h')
  have hst := Step.float M.step hn (by omega) (by omega) obj
  have hgk : (X c).s.get (base + k) = none := by
    cases hg : (X c).s.get (base + k) with
    | none => rfl
    | some y => obtain ⟨_, l, hl, _⟩ := M.step.rel.blk _ _ hg; rw [hn] at hl; cases hl
  have himg : ∀ r, Img (ρ.upd (base + k) ⟨w.heap.size, 0, 0⟩) (X c).s r → Img ρ (X c).s r := by
    rintro r ⟨d, y, l, hd, ha, hl, hr⟩
    have : d ≠ base + k := fun e => by subst e; rw [hgk] at hd; cases hd
    rw [Rho.upd_other _ _ this] at hl
    exact ⟨d, y, l, hd, ha, hl, hr⟩
  have hother : ∀ {i}, i ≠ k → (ρ.upd (base + k) ⟨w.heap.size, 0, 0⟩) (base + i) = ρ (base + i) := fun h => Rho.upd_other _ _ (by omega)
  refine ⟨fun i hi => hi.elim (fun e => e ▸ hks) (M.lt i), M.cur, M.curE, fun h => h.elim (fun e => M.notCur hks he e.symm) M.curL, fun i h1 h2 => Or.inr (M.low i h1 h2), hst, M.sz, ?_, ?_, ?_, ?_⟩
  · intro i hi h
    have hik : i ≠ k := by
      rintro rfl
      rcases h with h | h
      · exact h (Or.inl rfl)
      · exact h x hf
    rw [hother hik]
    exact M.un i hi (h.imp (fun h h' => h (Or.inr h')) id)
  · intro i y j h1 h2 h3 h4 h5
    have hj := inE h3 h4
    rcases h1 with rfl | h1
    · exact absurd (C.down hL h5 hj) hk.un
    · exact M.taken i y j h1 h2 hj h4 h5
  · intro i y h1 h2 h3
    rcases h1 with rfl | h1
    · refine ⟨hgk, _, Rho.upd_same _ _ _, M.step.wsize, by simp, ?_, fun hi => ?_⟩
      · rw [h2.one hf]; exact hx
      · have := M.step.rel.lt (himg _ hi)
        exact Nat.lt_irrefl _ this
    · have hik : i ≠ k := fun e => hk.un (e ▸ h1)
      obtain ⟨k1, l, k2, k3, k4, k5, k6⟩ := M.pend i y h1 h2 fun j h4 h5 => h3 j (Or.inr h4) h5
      exact ⟨k1, l, by rw [hother hik]; exact k2, k3, by simp; omega, (k5.mono (Rho.le_upd _ hn)).world (heap_alloc_old w obj k4), fun hi => k6 (himg _ hi)⟩
  · intro i i' y y' l l' hne h1 h2 h3 h4 g g' hl hl'
    rcases h1 with rfl | h1
    · have h3 := h3.resolve_left (Ne.symm hne)
      rw [hother (Ne.symm hne)] at hl'
      rw [Rho.upd_same] at hl; injection hl with hl; subst hl
      obtain ⟨m, hm, _, hlt, _⟩ := M.open_ h3 h4 g'
      rw [hl'] at hm; injection hm with hm; subst hm
      show w.heap.size ≠ l'.blk
      omega
    · have hik : i ≠ k := fun e => hk.un (e ▸ h1)
      rw [hother hik] at hl
      rcases h3 with rfl | h3
      · rw [Rho.upd_same] at hl'; injection hl' with hl'; subst hl'
        obtain ⟨m, hm, _, hlt, _⟩ := M.open_ h1 h2 g
        rw [hl] at hm; injection hm with hm; subst hm
        show l.blk ≠ w.heap.size
        omega
      · have hik' : i' ≠ k := fun e => hk.un (e ▸ h3)
        rw [hother hik'] at hl'
        exact M.apart i i' y y' l l' hne h1 h2 h3 h4 g g' hl hl'

/-- The effect that is next. -/
theorem MInv.isNext (C : Cn P H ih ops b base X U) (M : MInv P W0 ops b base X U ρ0 s0 w0 L ρ w c) (hL : Closed ops L) {k : Nat} {o : Oper} (hk : Rdy ops L k o) (he : EffAt P ops X k) : k = c := by
  rcases Nat.lt_trichotomy k c with h | h | h
  · exact absurd (M.low k he h) hk.un
  · exact h
  · rcases M.curE with h' | h'
    · have := he.lt; omega
    · exact absurd (C.ahead hL hk (C.ord c k h' he h)) M.curL
theorem MInv.ownAll (C : Cn P H ih ops b base X U) (M : MInv P W0 ops b base X U ρ0 s0 w0 L ρ w c) (hL : Closed ops L) {k : Nat} {o : Oper} (hk : Rdy ops L k o) {q : Pend} (hq : ∀ e ∈ q, e ∈ (X k).q) :
    ∀ e ∈ ownOf b k q, ∃ j x, e = (j, base + j, x) ∧ L j ∧ Flt P ops base X U j x := by
  intro e he
  obtain ⟨h1, h2⟩ := mem_ownOf.1 he
  obtain ⟨j, x, _, rfl, h4⟩ := (C.mem_q (Nat.le_of_lt (size_of hk.op))).1 (hq e h1)
  exact ⟨j, x, rfl, C.ahead hL hk h2, h4⟩
theorem MInv.effect (C : Cn P H ih ops b base X U) (M : MInv P W0 ops b base X U ρ0 s0 w0 L ρ w c) (hB : W0.heap.size ≤ w0.heap.size) (hbase : s0.size = base) (hL : Closed ops L) {o : Oper} (hk : Rdy ops L c o) (he : EffAt P ops X c) {ρ' : Rho} {w' : World}
    (hst : Step W0 ρ (addPend (X c).s (ownOf b c (X c).p)) w ρ' (X (c + 1)).s w') : ∃ c', MInv P W0 ops b base X U ρ0 s0 w0 (with_ L c) ρ' w' c' := by
  have hcs := he.lt
  obtain ⟨c', n1, n2, n3, n4⟩ := next_eff P ops X _ (c + 1) rfl hcs
  have hs' : (X c').s = (X (c + 1)).s := C.still n1 n2 n4
  have hown := M.ownAll C hL hk (q := (X c).p) fun e h => ((C.mem_p M.cur).1 h).1
  have A := M.added hB hbase hown
  have hsz := M.sz
  have hZ : base + ops.size ≤ (addPend (X c).s (ownOf b c (X c).p)).size := by rw [A.size]; exact hsz
  have inF : ∀ {i x}, with_ L c i → Flt P ops base X U i x → L i := fun {i x} h h' => h.resolve_left fun e => h'.notEff (e ▸ he)
  have hnot : ∀ {i : Nat}, before b i c = false → ∀ e ∈ ownOf b c (X c).p, e.2.1 ≠ base + i := fun {i} hb e hm heq => by
    obtain ⟨j, x, rfl, _, _⟩ := hown e hm
    have hij : j = i := by have : base + j = base + i := heq; omega
    subst hij
    have := (mem_ownOf.1 hm).2
    rw [hb] at this; cases this
  refine ⟨c', ⟨fun i hi => hi.elim (fun e => e ▸ hcs) (M.lt i), n2, n3, ?_, ?_, ?_, ?_, ?_, ?_, ?_, ?_⟩⟩
  · rintro (h | h)
    · omega
    · rcases n3 with e | e
      · have := M.lt _ h; omega
      · exact M.curL (C.down hL (C.ord c c' he e (by omega)) h)
  · intro k k1 k2
    rcases Nat.lt_trichotomy k c with h | h | h
    · exact Or.inr (M.low k k1 h)
    · exact Or.inl h
    · exact absurd k1 (n4 k (by omega) k2)
  · rw [hs']; exact A.step.trans hst
  · rw [hs']; exact Nat.le_trans hZ hst.size
  · intro i hi h
    exact hst.unborn _ (by omega) (M.un i hi (h.imp (fun h h' => h (Or.inr h')) id))
  · intro i x k h1 h2 h3 h4 h5
    have hi := inF h1 h2
    rw [hs']
    by_cases hex : ∃ j, L j ∧ EffAt P ops X j ∧ before b i j = true
    · obtain ⟨j, j1, j2, j3⟩ := hex
      obtain ⟨y, hy⟩ := M.taken i x j hi h2 j1 j2 j3
      exact hst.stay _ y (A.old _ y hy)
    · have hkc : k = c := h3.resolve_right fun h => hex ⟨k, h, h4, h5⟩
      subst hkc
      have hik := C.lt h5
      have hq : (i, base + i, x) ∈ (X k).q := (C.mem_q M.cur).2 ⟨i, x, hik, rfl, h2⟩
      have hp : (i, base + i, x) ∈ (X k).p := (C.mem_p M.cur).2 ⟨hq, fun j j1 j2 => by
        cases hb : before b i j with
        | false => rfl
        | true => exact absurd ⟨j, M.low j j2 j1, j2, hb⟩ hex⟩
      obtain ⟨y, hy⟩ := A.there _ (mem_ownOf.2 ⟨hp, h5⟩)
      exact hst.stay _ y hy
  · intro i x h1 h2 h3
    have hi := inF h1 h2
    have hbc := h3 c (Or.inl rfl) he
    obtain ⟨k1, l, k2, k3, k4, k5, k6⟩ := M.pend i x hi h2 fun j h4 h5 => h3 j (Or.inr h4) h5
    have hZn : (addPend (X c).s (ownOf b c (X c).p)).get (base + i) = none := by rw [A.other _ (hnot hbc)]; exact k1
    have his := M.lt i hi
    have hni : ¬ Img ρ (addPend (X c).s (ownOf b c (X c).p)) l.blk := fun hm => by
      rcases A.img _ hm with h | ⟨e, he', hg, l', hl', hr⟩
      · exact k6 h
      · obtain ⟨j, y, rfl, hj, hfj⟩ := hown e he'
        refine M.apart i j x y l l' (fun e => ?_) hi h2 hj hfj k1 hg k2 hl' hr.symm
        subst e
        exact hnot hbc _ he' rfl
    rw [hs']
    exact ⟨hst.hole _ (by omega) hZn, l, hst.le _ _ k2, k3, Nat.lt_of_lt_of_le k4 hst.wsize, (k5.mono hst.le).world (hst.keeps _ k4 hni), fun hm => hni (hst.img _ k4 hm)⟩
  · intro i i' x x' l l' hne h1 h2 h3 h4 g g' hl hl'
    rw [hs'] at g g'
    have back : ∀ {j}, (X (c + 1)).s.get (base + j) = none → (X c).s.get (base + j) = none := fun {j} hg => by
      cases hy : (X c).s.get (base + j) with
      | none => rfl
      | some y => obtain ⟨z, hz⟩ := hst.stay _ y (A.old _ y hy); rw [hg] at hz; cases hz
    have hi := inF h1 h2
    have hi' := inF h3 h4
    obtain ⟨m, hm, _⟩ := M.open_ hi h2 (back g)
    obtain ⟨m', hm', _⟩ := M.open_ hi' h4 (back g')
    have e := hst.le _ _ hm
    rw [hl] at e; injection e with e; subst e
    have e := hst.le _ _ hm'
    rw [hl'] at e; injection e with e; subst e
    exact M.apart i i' x x' _ _ hne hi h2 hi' h4 (back g) (back g') hm hm'
end
end Go.Clo
/- The interpreter of closed runs, a part of it. -/
namespace Go.Clo
set_option linter.unusedSimpArgs false
set_option linter.unusedVariables false
set_option linter.unnecessarySimpa false
open Go Go.RowKit

variable {P : Program} {W0 : World}

section
variable {H : Hook} {ih : Run} {ops : Array Oper} {b : List Nat} {base : Nat} {X : Nat → Sn} {U : Nat → V}
variable {ρ0 ρ : Rho} {s0 : St} {w0 w : World} {L : Nat → Prop} {c : Nat} {ds : List Deferred} {r : Option Nat}

/-- All that holds when the operations of L have run. -/
structure Inv (ds : List Deferred) (P : Program) (W0 : World) (ops : Array Oper) (b : List Nat) (base : Nat) (X : Nat → Sn) (U : Nat → V) (ρ0 : Rho) (s0 : St) (w0 : World) (L : Nat → Prop) (a : Act) (w : World) : Prop where
  closed : Closed ops L
  ex : ∃ ρ c, MInv P W0 ops b base X U ρ0 s0 w0 L ρ w c ∧ TInv ds ops (X 0).t.n X L ρ a
theorem oper_wp_value {o : Oper} {a : Act} {u : Value} {w' : World} {K : Act → World → Prop} {Q : Exit → Act → World → Prop} (hnd : ∀ cl, o.op ≠ .defer cl) (h : (execOp a.eval o).run P w = .ok (.value u) w') (hK : K (a.put o.dst u) w') : o.wpIn (FR r) 0 P a w K Q := by
  refine ⟨fun _ _ => FR_fn _ _, ?_⟩
  rw [Oper.semAt_eq _ _ _ hnd, h]
  exact hK
theorem no_defer {o : Oper} {F : OpF} (h : opF P o = F) (hb : ∀ e, F ≠ .bad e) : ∀ cl, o.op ≠ .defer cl := fun cl hc => by
  have : opF P o = .bad "an operation" := by unfold opF; rw [hc]
  rw [this] at h
  exact hb _ h.symm
/-- One operation that may run. -/
theorem step_drawn (hih : RunOK P W0 ih) (hH : HookOK P W0 H) (C : Cn P H ih ops b base X U) (hB : W0.heap.size ≤ w0.heap.size) (hbase : s0.size = base) {a : Act} (I : Inv ds P W0 ops b base X U ρ0 s0 w0 L a w) {k : Nat} {o : Oper} (hk : Rdy ops L k o)
    {K : Act → World → Prop} {Q : Exit → Act → World → Prop} (hK : ∀ a' w', Inv ds P W0 ops b base X U ρ0 s0 w0 (with_ L k) a' w' → K a' w') : wpOpIn (FR r) 0 P ops Q k K a w := by
  obtain ⟨hL, ρ, c, M, T⟩ := I
  have hks := size_of hk.op
  unfold wpOpIn
  simp only [hk.op]
  rw [T.want C hk]
  have hfr : FrE ρ (restrF (X k).t o) (rAct a o (X k).t.n).tmps := rAct_FrE fun d hd => T.read C hL hk (Or.inr hd)
  have heq : execOp (rAct a o (X k).t.n).eval o = execOp a.eval o := rAct_eval (by rw [T.size, C.n (Nat.le_of_lt hks)]) (fun cs d => C.nosel k o cs d hk.op)
  have hop := opF_ok (P := P) o
  have key : ∀ {wn : Bool}, wantedV (X k).t (guardOf ops o) = wn → StepD P H ih b base k o (X k) (U k) (X (k + 1)) wn →
      if wn = true then o.wpIn (FR r) 0 P a w K Q else (∀ f, o.about P w a.eval = some f → (FR r).fn f) ∧ K (a.put o.dst undef) w := by
    intro wn hw hs
    have notE : ((∀ f, opF P o ≠ .eff f) ∧ ∀ f l, opF P o ≠ .call f l) ∨ wn = false → ¬ EffAt P ops X k := by
      rintro hc ⟨o', k1, k2, k3⟩
      rw [hk.op] at k1; injection k1 with k1; subst k1
      rcases hc with ⟨hc, hc'⟩ | hc
      · rcases k3 with ⟨f, k3⟩ | ⟨f, l, k3⟩
        · exact hc f k3
        · exact hc' f l k3
      · rw [hw, hc] at k2; cases k2
    have notF : (∀ f, opF P o ≠ .float f) ∨ wn = false → ∀ x, ¬ Flt P ops base X U k x := by
      rintro hc x ⟨o', f, k1, k2, k3, _⟩
      rw [hk.op] at k1; injection k1 with k1; subst k1
      rcases hc with hc | hc
      · exact hc f k3
      · rw [hw, hc] at k2; cases k2
    have idle : ¬ EffAt P ops X k → (∀ x, ¬ Flt P ops base X U k x) → ∀ u, E ρ (U k) u → K (a.put o.dst u) w := fun h1 h2 u hu =>
      hK _ _ ⟨hL.with hk, ρ, c, M.idle hks h1 h2, T.put C hL hk ρ.le_refl hu⟩
    cases hs with
    | off hv _ _ _ =>
      simp only [Bool.false_eq_true, if_false]
      refine ⟨fun _ _ => FR_fn _ _, ?_⟩
      exact idle (notE (Or.inr rfl)) (notF (Or.inr rfl)) _ (by rw [hv]; exact E_undef)
    | pure f hF hf _ _ _ =>
      rw [hF] at hop
      simp only [if_true]
      obtain ⟨u, hE, hr⟩ := hop ρ _ _ _ hfr hf
      rw [heq] at hr
      exact oper_wp_value (no_defer hF (by intro e h; cases h)) (hr w) (idle (notE (Or.inl ⟨fun g => (by rw [hF]; intro h; cases h), fun g l => (by rw [hF]; intro h; cases h)⟩)) (notF (Or.inl fun g => (by rw [hF]; intro h; cases h))) u hE)
    | read f hF _ _ _ =>
      simp only [if_true]
      have hval : f (restrF (X k).t o) (addPend (X c).s (ownOf b k (X k).q)) = .ok (U k) := by
        rcases C.red k o f hk.op hw hF c M.curE with ⟨j, hj, hbar⟩ | h
        · exfalso
          rcases hbar with ⟨h1, h2⟩ | ⟨h1, h2⟩
          · have hj' : EffAt P ops X j := by
              rcases hj with e | e
              · have := C.lt h2; omega
              · exact e
            have hLj := C.ahead hL hk h2
            by_cases e : c = j
            · subst e; exact M.curL hLj
            · rcases M.curE with e' | e'
              · have := hj'.lt; omega
              · exact M.curL (C.down hL (C.ord c j e' hj' (by omega)) hLj)
          · have hj' : EffAt P ops X j := by
              rcases hj with e | e
              · have := M.cur; omega
              · exact e
            exact hk.un (C.down hL h2 (M.low j hj' h1))
        · exact h
      rw [hF] at hop
      have A := M.added hB hbase (M.ownAll C hL hk (q := (X k).q) fun e h => h)
      obtain ⟨u, hE, hr⟩ := hop W0 ρ _ w _ _ _ A.step.rel hfr hval
      rw [heq] at hr
      exact oper_wp_value (no_defer hF (by intro e h; cases h)) hr (idle (notE (Or.inl ⟨fun g => (by rw [hF]; intro h; cases h), fun g l => (by rw [hF]; intro h; cases h)⟩)) (notF (Or.inl fun g => (by rw [hF]; intro h; cases h))) u hE)
    | float f y hF hf _ _ _ =>
      rw [hF] at hop
      simp only [if_true]
      have hfl : Flt P ops base X U k y := ⟨o, f, hk.op, hw, hF, hf⟩
      obtain ⟨_, hrun⟩ := hop ρ _ _ _ _ _ hfr hf
      obtain ⟨u, obj, hr, hval⟩ := hrun w
      rw [heq] at hr
      have hn : ρ (base + k) = none := M.un k hks (Or.inl hk.un)
      have hv := hval _ (Rho.le_upd _ hn) (Rho.upd_same _ _ _)
      exact oper_wp_value (no_defer hF (by intro e h; cases h)) hr (hK _ _ ⟨hL.with hk, _, c, M.made C hbase hL hk hfl hv.2, T.put C hL hk (Rho.le_upd _ hn) hv.1⟩)
    | eff hF hf _ _ =>
      simp only [if_true]
      have he : EffAt P ops X k := ⟨o, hk.op, hw, hF⟩
      have hkc := M.isNext C hL hk he
      subst hkc
      have A := M.added hB hbase (M.ownAll C hL hk (q := (X k).p) fun e h => ((C.mem_p M.cur).1 h).1)
      refine operV_at hih hH hf A.step.rel heq hfr fun ρ' u w' hst hE => ?_
      obtain ⟨c', M'⟩ := M.effect C hB hbase hL hk he hst
      exact hK _ _ ⟨hL.with hk, ρ', c', M', T.put C hL hk hst.le hE⟩
  have := key rfl (stepD_inv (C.st k o hk.op)).2
  cases hw : wantedV (X k).t (guardOf ops o) <;> (rw [hw] at this; simpa using this)

/-- Which operations have run. -/
def isL (listed : Array Bool) (i : Nat) : Prop := listed.getD i false = true
theorem with_set {listed : Array Bool} {k : Nat} (hk : k < listed.size) : isL (listed.setIfInBounds k true) = with_ (isL listed) k := by
  funext i
  unfold isL with_
  by_cases e : i = k
  · subst e; simp [hk]
  · rw [getD_set_ne false (Ne.symm e)]; simp [e]
def leftN (n : Nat) (L : Array Bool) : Nat := (List.range n).countP fun i => !L.getD i false
theorem countP_lt {α : Type} {p q : α → Bool} {l : List α} (h : ∀ x ∈ l, q x = true → p x = true) {y : α} (hy : y ∈ l) (hp : p y = true) (hq : q y = false) : l.countP q < l.countP p := by
  induction l with
  | nil => cases hy
  | cons z l ihl =>
    rcases List.mem_cons.1 hy with rfl | hy
    · have : l.countP q ≤ l.countP p := List.countP_mono_left fun x hx => h x (List.mem_cons_of_mem _ hx)
      simp [hp, hq]; omega
    · have := ihl (fun x hx => h x (List.mem_cons_of_mem _ hx)) hy
      have hz := h z List.mem_cons_self
      simp only [List.countP_cons]
      cases hqz : q z with
      | false => simp; omega
      | true => simp [hz hqz]; omega
theorem any_drawn (hih : RunOK P W0 ih) (hH : HookOK P W0 H) (C : Cn P H ih ops b base X U) (hB : W0.heap.size ≤ w0.heap.size) (hbase : s0.size = base) {Q : Exit → Act → World → Prop}
    (hQ : ∀ a w, (∃ L, (∀ i, i < ops.size → L i) ∧ Inv ds P W0 ops b base X U ρ0 s0 w0 L a w) → Q .normal a w) : ∀ (fuel : Nat) (listed : Array Bool) (a : Act) (w : World), listed.size = ops.size → leftN ops.size listed ≤ fuel → Inv ds P W0 ops b base X U ρ0 s0 w0 (isL listed) a w →
    wpAnyIn (FR r) 0 P .any ops Q fuel listed a w := by
  have getD_eq : ∀ (l : Array Bool) (j : Nat), l.size = ops.size → j < ops.size → l.getD j true = l.getD j false := fun l j h1 h2 => by
    simp [Array.getD_eq_getD_getElem?, h1, h2]
  have all_of : ∀ (listed : Array Bool), listed.size = ops.size → Region.ready .any ops listed = [] → ∀ i, i < ops.size → isL listed i := by
    intro listed hsz hr i
    induction i using Nat.strongRecOn with
    | _ i ihi =>
      intro hi
      unfold isL
      cases hb : listed.getD i false with
      | true => rfl
      | false =>
        obtain ⟨o, ho⟩ := op_at hi
        have : i ∈ Region.ready .any ops listed := mem_ready.2 ⟨by rw [getD_eq _ _ hsz hi]; exact hb, o, ho, fun e he hbi => by
          have h1 := C.edge i o ho e he hbi
          exact ihi e.on h1 (by omega)⟩
        rw [hr] at this; cases this
  have done : ∀ (listed : Array Bool) (a : Act) (w : World), listed.size = ops.size → Inv ds P W0 ops b base X U ρ0 s0 w0 (isL listed) a w → Region.ready .any ops listed = [] → Q .normal a w := fun listed a w hsz I hr => hQ a w ⟨_, all_of listed hsz hr, I⟩
  intro fuel
  induction fuel with
  | zero =>
    intro listed a w hsz hle I
    have hr : Region.ready .any ops listed = [] := by
      cases hr : Region.ready .any ops listed with
      | nil => rfl
      | cons k r =>
        have hk : k ∈ Region.ready .any ops listed := by rw [hr]; exact List.mem_cons_self
        obtain ⟨h1, o, ho, _⟩ := mem_ready.1 hk
        have hks := size_of ho
        rw [getD_eq _ _ hsz hks] at h1
        have : 0 < leftN ops.size listed := List.countP_pos_iff.2 ⟨k, List.mem_range.2 hks, by rw [h1]; rfl⟩
        omega
    exact ⟨hr, done listed a w hsz I hr⟩
  | succ fuel ihf =>
    intro listed a w hsz hle I
    refine ⟨done listed a w hsz I, fun k hk => ?_⟩
    obtain ⟨h1, o, ho, h2⟩ := mem_ready.1 hk
    have hks := size_of ho
    rw [getD_eq _ _ hsz hks] at h1
    refine step_drawn hih hH C hB hbase I (k := k) (o := o) ⟨ho, by unfold isL; rw [h1]; simp, h2⟩ fun a' w' I' => ?_
    rw [← with_set (by omega)] at I'
    refine ihf _ a' w' (by simp [hsz]) ?_ I'
    have : leftN ops.size (listed.setIfInBounds k true) < leftN ops.size listed := by
      refine countP_lt (fun x hx hq => ?_) (List.mem_range.2 hks) (by rw [h1]; rfl) (by simp [hsz, hks])
      by_cases e : k = x
      · subst e; rw [h1]; rfl
      · rw [getD_set_ne false e] at hq; exact hq
    omega
end
end Go.Clo
/- The interpreter of closed runs, a part of it. -/
namespace Go.Clo
set_option linter.unusedSimpArgs false
set_option linter.unusedVariables false
set_option linter.unnecessarySimpa false
open Go Go.RowKit

variable {P : Program} {W0 : World}

theorem kindBeq_same {a b : IntKind} (h : kindBeq a b = true) : a = b := by cases a <;> cases b <;> first | rfl | cases h
theorem intBeq_same {a b : Int} (h : intBeq a b = true) : a = b := by
  cases a <;> cases b
  · rw [Nat.eq_of_beq_eq_true h]
  · cases h
  · cases h
  · rw [Nat.eq_of_beq_eq_true h]
theorem capBeq_eq {a b : Cap} (h : capBeq a b = true) : a = b := by
  cases a <;> cases b
  · rw [Nat.eq_of_beq_eq_true h]
  · cases h
  · cases h
  · rw [Nat.eq_of_beq_eq_true h]
mutual
theorem V.beq_eq : ∀ {a b : V}, a.beq b = true → a = b
  | .int k n, b, h => by
    cases b <;> simp only [V.beq, Bool.and_eq_true, Bool.false_eq_true] at h
    rw [kindBeq_same h.1, intBeq_same h.2]
  | .bool x, b, h => by
    cases b <;> simp only [V.beq, Bool.false_eq_true] at h
    rw [eq_of_beq h]
  | .str x, b, h => by
    cases b <;> simp only [V.beq, Bool.false_eq_true, decide_eq_true_eq] at h
    rw [h]
  | .ptr x y, b, h => by
    cases b <;> simp only [V.beq, Bool.and_eq_true, Bool.false_eq_true] at h
    rw [Nat.eq_of_beq_eq_true h.1, Nat.eq_of_beq_eq_true h.2]
  | .nilp, b, h => by cases b <;> simp only [V.beq, Bool.false_eq_true] at h; rfl
  | .sl x o l c, b, h => by
    cases b <;> simp only [V.beq, Bool.and_eq_true, Bool.false_eq_true] at h
    rw [Nat.eq_of_beq_eq_true h.1.1.1, Nat.eq_of_beq_eq_true h.1.1.2, Nat.eq_of_beq_eq_true h.1.2, capBeq_eq h.2]
  | .nils, b, h => by cases b <;> simp only [V.beq, Bool.false_eq_true] at h; rfl
  | .map x, b, h => by
    cases b <;> simp only [V.beq, Bool.false_eq_true] at h
    rw [Nat.eq_of_beq_eq_true h]
  | .nilm, b, h => by cases b <;> simp only [V.beq, Bool.false_eq_true] at h; rfl
  | .fn f c, b, h => by
    cases b <;> simp only [V.beq, Bool.and_eq_true, Bool.false_eq_true] at h
    rw [Nat.eq_of_beq_eq_true h.1, V.beqL_eq h.2]
  | .nilf, b, h => by cases b <;> simp only [V.beq, Bool.false_eq_true] at h; rfl
  | .ifc t v, b, h => by
    cases b <;> simp only [V.beq, Bool.and_eq_true, Bool.false_eq_true] at h
    rw [Nat.eq_of_beq_eq_true h.1, V.beq_eq h.2]
  | .nili, b, h => by cases b <;> simp only [V.beq, Bool.false_eq_true] at h; rfl
  | .any, b, h => by cases b <;> simp only [V.beq, Bool.false_eq_true] at h; rfl
  | .slz x o k, b, h => by
    cases b <;> simp only [V.beq, Bool.and_eq_true, Bool.false_eq_true] at h
    rw [Nat.eq_of_beq_eq_true h.1.1, Nat.eq_of_beq_eq_true h.1.2, Nat.eq_of_beq_eq_true h.2]
  | .yld x, b, h => by
    cases b <;> simp only [V.beq, Bool.false_eq_true] at h
    rw [Nat.eq_of_beq_eq_true h]
  | .mfn f a c, b, h => by
    cases b <;> simp only [V.beq, Bool.and_eq_true, Bool.false_eq_true] at h
    rw [Nat.eq_of_beq_eq_true h.1.1, V.beqL_eq h.1.2, V.beqL_eq h.2]
  | .glob g, b, h => by
    cases b <;> simp only [V.beq, Bool.false_eq_true] at h
    rw [Nat.eq_of_beq_eq_true h]
  | .agg l, b, h => by
    cases b <;> simp only [V.beq, Bool.false_eq_true] at h
    rw [V.beqL_eq h]
  | .tup l, b, h => by
    cases b <;> simp only [V.beq, Bool.false_eq_true] at h
    rw [V.beqL_eq h]
theorem V.beqL_eq : ∀ {a b : List V}, V.beqL a b = true → a = b
  | [], b, h => by cases b <;> simp only [V.beqL, Bool.false_eq_true] at h; rfl
  | x :: a, b, h => by
    cases b <;> simp only [V.beqL, Bool.and_eq_true, Bool.false_eq_true] at h
    rw [V.beq_eq h.1, V.beqL_eq h.2]
end

/-- Masks of what stands ahead. -/
theorem before_at (b : List Nat) (i j : Nat) : before b i j = match b[j]? with | some m => m.testBit i | none => false := by
  induction b generalizing j with
  | nil => rfl
  | cons m l ih =>
    cases j with
    | zero => rfl
    | succ j => exact ih j
def mask (acc : Array Nat) (o : Oper) : Nat := o.after.foldl (fun s e => if Region.binds .any e then s ||| 2 ^ e.on ||| acc.getD e.on 0 else s) 0
theorem before_def (ops : Array Oper) : Region.before ops = ops.foldl (init := #[]) fun acc o => acc.push (mask acc o) := rfl
theorem mask_bit {acc : Array Nat} {i : Nat} : ∀ {l : List Edge} {s : Nat}, (l.foldl (fun s e => if Region.binds .any e then s ||| 2 ^ e.on ||| acc.getD e.on 0 else s) s).testBit i = true →
    s.testBit i = true ∨ ∃ e ∈ l, Region.binds .any e = true ∧ (i = e.on ∨ (acc.getD e.on 0).testBit i = true)
  | [], s, h => Or.inl h
  | e :: l, s, h => by
    rw [List.foldl_cons] at h
    rcases mask_bit h with h | ⟨e', he', h⟩
    · cases hb : Region.binds .any e with
      | false => rw [hb] at h; exact Or.inl (by simpa using h)
      | true =>
        rw [hb] at h
        simp only [if_true, Nat.testBit_or, Bool.or_eq_true, Nat.testBit_two_pow, decide_eq_true_eq] at h
        rcases h with (h | h) | h
        · exact Or.inl h
        · exact Or.inr ⟨e, List.mem_cons_self, hb, Or.inl h.symm⟩
        · exact Or.inr ⟨e, List.mem_cons_self, hb, Or.inr h⟩
    · exact Or.inr ⟨e', List.mem_cons_of_mem _ he', h⟩
theorem masks : ∀ (l : List Oper) (acc : Array Nat), let r := l.foldl (fun acc o => acc.push (mask acc o)) acc
    r.size = acc.size + l.length ∧ (∀ i, i < acc.size → r[i]? = acc[i]?) ∧ ∀ j o, l[j]? = some o → ∃ acc' : Array Nat, acc'.size = acc.size + j ∧ (∀ i, i < acc'.size → r[i]? = acc'[i]?) ∧ r[acc.size + j]? = some (mask acc' o)
  | [], acc => ⟨rfl, fun _ _ => rfl, fun j o h => by simp at h⟩
  | x :: l, acc => by
    obtain ⟨h1, h2, h3⟩ := masks l (acc.push (mask acc x))
    rw [List.foldl_cons]
    refine ⟨by rw [h1]; simp; omega, fun i hi => ?_, fun j o hj => ?_⟩
    · rw [h2 i (by simp; omega)]
      simp [Array.getElem?_push, show i ≠ acc.size by omega]
    · cases j with
      | zero =>
        simp at hj; subst hj
        refine ⟨acc, rfl, fun i hi => ?_, ?_⟩
        · rw [h2 i (by simp; omega)]
          simp [Array.getElem?_push, show i ≠ acc.size by omega]
        · rw [Nat.add_zero, h2 acc.size (by simp)]
          simp
      | succ j =>
        obtain ⟨acc', k1, k2, k3⟩ := h3 j o (by simpa using hj)
        refine ⟨acc', by rw [k1]; simp; omega, k2, ?_⟩
        rw [show acc.size + (j + 1) = (acc.push (mask acc x)).size + j by simp; omega]
        exact k3
theorem before_inv {ops : Array Oper} {i j : Nat} (h : before (Region.before ops).toList i j = true) :
    ∃ o, ops[j]? = some o ∧ ∃ e ∈ o.after, Region.binds .any e = true ∧ (i = e.on ∨ before (Region.before ops).toList i e.on = true) := by
  rw [before_at] at h
  have hr : Region.before ops = ops.toList.foldl (fun acc o => acc.push (mask acc o)) #[] := by rw [before_def, Array.foldl_toList]
  obtain ⟨h1, _, h3⟩ := masks ops.toList #[]
  simp only [← hr] at h1 h3
  cases hm : (Region.before ops).toList[j]? with
  | none => rw [hm] at h; cases h
  | some m =>
    rw [hm] at h
    have hj : j < ops.toList.length := by
      have : j < (Region.before ops).toList.length := (List.getElem?_eq_some_iff.1 hm).1
      simpa [h1] using this
    have ho : ops.toList[j]? = some ops.toList[j] := by simp [hj]
    obtain ⟨acc', k1, k2, k3⟩ := h3 j _ ho
    have hm' : (Region.before ops)[j]? = some m := by simpa using hm
    rw [show (#[] : Array Nat).size + j = j by simp, hm'] at k3
    injection k3 with k3
    subst k3
    refine ⟨ops.toList[j], by simpa using ho, ?_⟩
    unfold mask at h
    rw [← Array.foldl_toList] at h
    rcases mask_bit h with h | ⟨e, he, hb, h⟩
    · simp at h
    · refine ⟨e, by simpa using he, hb, h.imp id fun h => ?_⟩
      rw [before_at]
      by_cases hlt : e.on < acc'.size
      · have := k2 e.on hlt
        have hg : acc'[e.on]? = some (acc'.getD e.on 0) := by simp [Array.getD_eq_getD_getElem?, hlt]
        have : (Region.before ops).toList[e.on]? = some (acc'.getD e.on 0) := by rw [hg] at this; simpa using this
        rw [this]; exact h
      · have : acc'.getD e.on 0 = 0 := by simp [Array.getD_eq_getD_getElem?, hlt]
        rw [this] at h; simp at h
end Go.Clo
/- The interpreter of closed runs, a part of it. -/
namespace Go.Clo
set_option linter.unusedSimpArgs false
set_option linter.unusedVariables false
set_option linter.unnecessarySimpa false
open Go Go.RowKit

variable {P : Program} {W0 : World}

section
variable {H : Hook} {ih : Run} {ops : Array Oper} {b : List Nat} {base : Nat}

theorem drawnS_ex : ∀ {l : List Oper} {i : Nat} {x : Sn} {z : List (V × Sn)}, drawnS P H ih ops b base i l x = .ok z →
    ∃ (X : Nat → Sn) (U : Nat → V), X i = x ∧ (∀ k o, l[k]? = some o → stepD P H ih ops b base (i + k) o (X (i + k)) = .ok (U (i + k), X (i + k + 1))) ∧ z = (List.range' i l.length).map fun k => (U k, X (k + 1))
  | [], i, x, z, h => by
    have h : M.ok [] = M.ok z := h
    injection h with h; subst h
    exact ⟨fun _ => x, fun _ => undefV, rfl, fun k o h => by simp at h, rfl⟩
  | o :: l, i, x, z, h => by
    have h : ((stepD P H ih ops b base i o x).bind fun r => (drawnS P H ih ops b base (i + 1) l r.2).bind fun z => .ok (r :: z)) = .ok z := h
    obtain ⟨r, h1, h⟩ := M.bind_ok h
    obtain ⟨z', h2, h⟩ := M.bind_ok h
    injection h with h; subst h
    obtain ⟨X, U, e1, e2, e3⟩ := drawnS_ex h2
    refine ⟨fun k => if k = i then x else X k, fun k => if k = i then r.1 else U k, by simp, fun k o' hk => ?_, ?_⟩
    · cases k with
      | zero =>
        simp at hk; subst hk
        simp only [Nat.add_zero, if_true, show i + 1 ≠ i by omega, if_false, e1]
        exact h1
      | succ k =>
        have := e2 k o' (by simpa using hk)
        simp only [show i + (k + 1) ≠ i by omega, if_false, show i + (k + 1) + 1 ≠ i by omega]
        rw [show i + (k + 1) = i + 1 + k by omega]
        exact this
    · rw [List.length_cons, List.range'_succ, List.map_cons, e3]
      congr 1
      · simp [e1]
      · refine List.map_congr_left fun k hk => ?_
        have : i + 1 ≤ k := by have := List.mem_range'_1.1 hk; omega
        simp [show k ≠ i by omega, show k + 1 ≠ i by omega]

variable {X : Nat → Sn} {U : Nat → V}
theorem effD_ok {j : Nat} {o : Oper} (ho : ops[j]? = some o) : effD P ops o (X j) = true ↔ EffAt P ops X j := by
  unfold effD
  constructor
  · intro h
    cases hw : wantedV (X j).t (guardOf ops o) with
    | false => rw [hw] at h; cases h
    | true =>
      rw [hw] at h
      refine ⟨o, ho, hw, ?_⟩
      cases hF : opF P o with
      | eff f => exact Or.inl ⟨f, rfl⟩
      | call f l => exact Or.inr ⟨f, l, rfl⟩
      | _ => rw [hF] at h; cases h
  · rintro ⟨o', h1, h2, h3⟩
    rw [ho] at h1; injection h1 with h1; subst h1
    rw [h2]
    rcases h3 with ⟨f, h3⟩ | ⟨f, l, h3⟩ <;> rw [h3]
def zs (X : Nat → Sn) (U : Nat → V) (i n : Nat) : List (V × Sn) := (List.range' i n).map fun k => (U k, X (k + 1))
theorem zs_succ (i n : Nat) : zs X U i (n + 1) = (U i, X (i + 1)) :: zs X U (i + 1) n := by unfold zs; rw [List.range'_succ]; rfl
theorem effs_spec {n : Nat} (hn : n = ops.size) : ∀ {l : List Oper} {i : Nat}, (∀ k, l[k]? = ops[i + k]?) → i + l.length = n →
    (∀ j sj, (j, sj) ∈ effsD P ops i l (X i) (zs X U i l.length) → sj = (X j).s ∧ (j = n ∨ EffAt P ops X j)) ∧
    (∀ j, i ≤ j → (j = n ∨ EffAt P ops X j) → (j, (X j).s) ∈ effsD P ops i l (X i) (zs X U i l.length)) ∧
    (orderD b n (effsD P ops i l (X i) (zs X U i l.length)) = true → ∀ j k, i ≤ j → EffAt P ops X j → EffAt P ops X k → j < k → before b j k = true)
  | [], i, hl, hin => by
    have hin : i = n := by simpa using hin
    have e : effsD P ops i [] (X i) (zs X U i 0) = [(i, (X i).s)] := rfl
    simp only [List.length_nil]
    rw [e]
    refine ⟨fun j sj hj => ?_, fun j hj hjn => ?_, fun _ j k h1 h2 => ?_⟩
    · simp at hj; obtain ⟨rfl, rfl⟩ := hj; exact ⟨rfl, Or.inl hin⟩
    · have : j = i := by
        rcases hjn with h | h
        · omega
        · have := h.lt; omega
      subst this; simp
    · have := h2.lt; omega
  | o :: l, i, hl, hin => by
    have ho : ops[i]? = some o := by have := hl 0; simpa using this.symm
    have hin' : i + 1 + l.length = n := by rw [← hin, List.length_cons]; omega
    obtain ⟨k1, k2, k3⟩ := effs_spec hn (l := l) (i := i + 1) (fun k => by have := hl (k + 1); rw [show i + 1 + k = i + (k + 1) by omega, ← this]; rfl) hin'
    simp only [List.length_cons]
    rw [zs_succ]
    cases he : effD P ops o (X i) with
    | true =>
      have e : effsD P ops i (o :: l) (X i) ((U i, X (i + 1)) :: zs X U (i + 1) l.length) = (i, (X i).s) :: effsD P ops (i + 1) l (X (i + 1)) (zs X U (i + 1) l.length) := by
        show (match effD P ops o (X i) with | true => _ | false => _) = _
        rw [he]
      rw [e]
      have hei := (effD_ok ho).1 he
      refine ⟨fun j sj hj => ?_, fun j hj hjn => ?_, fun hord j k h1 h2 h3 h4 => ?_⟩
      · rcases List.mem_cons.1 hj with h | h
        · injection h with h1 h2; subst h1; exact ⟨h2, Or.inr hei⟩
        · exact k1 j sj h
      · by_cases e : j = i
        · subst e; exact List.mem_cons_self
        · exact List.mem_cons_of_mem _ (k2 j (by omega) hjn)
      · unfold orderD at hord
        rw [Bool.and_eq_true] at hord
        by_cases e : j = i
        · subst e
          have hm := k2 k (by omega) (Or.inr h3)
          have : ∀ {m : List (Nat × St)}, orderD1 b n j m = true → (k, (X k).s) ∈ m → k = n ∨ before b j k = true := by
            intro m
            induction m with
            | nil => intro _ h; cases h
            | cons p m ihm =>
              intro h hm
              unfold orderD1 at h
              rw [Bool.and_eq_true, Bool.or_eq_true] at h
              rcases List.mem_cons.1 hm with h' | h'
              · subst h'; exact h.1.imp Nat.eq_of_beq_eq_true id
              · exact ihm h.2 h'
          rcases this hord.1 hm with h | h
          · have := h3.lt; omega
          · exact h
        · exact k3 hord.2 j k (by omega) h2 h3 h4
    | false =>
      have e : effsD P ops i (o :: l) (X i) ((U i, X (i + 1)) :: zs X U (i + 1) l.length) = effsD P ops (i + 1) l (X (i + 1)) (zs X U (i + 1) l.length) := by
        show (match effD P ops o (X i) with | true => _ | false => _) = _
        rw [he]
      rw [e]
      have hei : ¬ EffAt P ops X i := fun h => by rw [(effD_ok ho).2 h] at he; cases he
      have hne : ∀ {j}, (j = n ∨ EffAt P ops X j) → j ≠ i := fun {j} h e => by
        subst e
        rcases h with h | h
        · have := size_of ho; omega
        · exact hei h
      exact ⟨k1, fun j hj hjn => k2 j (by have := hne hjn; omega) hjn, fun hord j k h1 h2 => k3 hord j k (by have := hne (Or.inr h2); omega) h2⟩
theorem barred_spec {i j : Nat} : ∀ {l : List (Nat × St)}, barred b i j l = true → ∃ k sk, (k, sk) ∈ l ∧ ((j ≤ k ∧ before b k i = true) ∨ (k < j ∧ before b i k = true))
  | [], h => by cases h
  | (k, sk) :: l, h => by
    have h : ((match Nat.ble j k with | true => before b k i | false => before b i k) || barred b i j l) = true := h
    rw [Bool.or_eq_true] at h
    rcases h with h | h
    · refine ⟨k, sk, List.mem_cons_self, ?_⟩
      cases hb : Nat.ble j k with
      | true => rw [hb] at h; exact Or.inl ⟨Nat.le_of_ble_eq_true hb, h⟩
      | false =>
        rw [hb] at h
        refine Or.inr ⟨?_, h⟩
        rcases Nat.lt_or_ge k j with h' | h'
        · exact h'
        · rw [Nat.ble_eq_true_of_le h'] at hb; cases hb
    · obtain ⟨k', sk', h1, h2⟩ := barred_spec h
      exact ⟨k', sk', List.mem_cons_of_mem _ h1, h2⟩
theorem steadyD_spec {effs : List (Nat × St)} {f : St → M V} {own : Pend} {i : Nat} {v : V} : ∀ {l : List (Nat × St)}, steadyD b effs f own i v l = true → ∀ j sj, (j, sj) ∈ l → barred b i j effs = true ∨ f (addPend sj own) = .ok v
  | [], _, _, _, h => by cases h
  | (k, sk) :: l, h, j, sj, hm => by
    have h : ((match barred b i k effs with | true => true | false => match f (addPend sk own) with | .ok v' => v.beq v' | .err _ => false) && steadyD b effs f own i v l) = true := h
    rw [Bool.and_eq_true] at h
    rcases List.mem_cons.1 hm with h' | h'
    · injection h' with h1 h2; subst h1; subst h2
      cases hb : barred b i j effs with
      | true => exact Or.inl rfl
      | false =>
        have h := h.1
        rw [hb] at h
        right
        cases hf : f (addPend sj own) with
        | ok v' => rw [hf] at h; rw [V.beq_eq h]
        | err e => rw [hf] at h; cases h
    · exact steadyD_spec h.2 j sj h'
theorem reads_spec {effs : List (Nat × St)} : ∀ {l : List Oper} {i : Nat}, (∀ k, l[k]? = ops[i + k]?) → readsD P ops b effs i l (X i) (zs X U i l.length) = true →
    ∀ j o f, i ≤ j → ops[j]? = some o → wantedV (X j).t (guardOf ops o) = true → opF P o = .read f → steadyD b effs (f (restrF (X j).t o)) (ownOf b j (X j).q) j (U j) effs = true
  | [], i, hl, _, j, o, f, hj, ho, _, _ => by
    have := hl (j - i)
    rw [show i + (j - i) = j by omega, ho] at this
    simp at this
  | o' :: l, i, hl, h, j, o, f, hj, ho, hw, hF => by
    simp only [List.length_cons] at h
    rw [zs_succ] at h
    have h : ((match wantedV (X i).t (guardOf ops o') with | false => true | true => match opF P o' with | .read f => steadyD b effs (f (restrF (X i).t o')) (ownOf b i (X i).q) i (U i) effs | _ => true) && readsD P ops b effs (i + 1) l (X (i + 1)) (zs X U (i + 1) l.length)) = true := h
    rw [Bool.and_eq_true] at h
    by_cases e : j = i
    · subst e
      have ho' : ops[j]? = some o' := by have := hl 0; simpa using this.symm
      rw [ho] at ho'; injection ho' with ho'; subst ho'
      have h := h.1
      rw [hw, hF] at h
      exact h
    · exact reads_spec (l := l) (i := i + 1) (fun k => by have := hl (k + 1); rw [show i + 1 + k = i + (k + 1) by omega, ← this]; rfl) h.2 j o f (by omega) ho hw hF
theorem dstIs_ok {o : Oper} {d : Nat} : dstIs o d = true ↔ o.dst = some d := by
  unfold dstIs
  cases o.dst with
  | none => simp
  | some e => simp
theorem namesD_ok {o : Oper} {d : Nat} (h : o.dst = some d ∨ d ∈ tmpsOf o.op.operands.toList) : namesD o d = true := by
  unfold namesD
  rw [Bool.or_eq_true]
  rcases h with h | h
  · exact Or.inl (dstIs_ok.2 h)
  · exact Or.inr (List.any_eq_true.2 ⟨d, h, by simp⟩)
theorem tempD1_spec {i d : Nat} : ∀ {l : List Oper} {j : Nat}, tempD1 b i d j l = true → ∀ k o, l[k]? = some o → i ≠ j + k → namesD o d = true → (i < j + k → before b i (j + k) = true) ∧ (j + k < i → before b (j + k) i = true)
  | [], j, _, k, o, h, _, _ => by simp at h
  | o' :: l, j, h, k, o, hk, hne, hnm => by
    have h : ((Nat.beq i j || !namesD o' d || (match Nat.blt i j with | true => before b i j | false => before b j i)) && tempD1 b i d (j + 1) l) = true := h
    rw [Bool.and_eq_true] at h
    cases k with
    | zero =>
      simp at hk; subst hk
      rw [Nat.add_zero] at hne ⊢
      have h := h.1
      rw [hnm, Bool.not_true, Bool.or_false, Bool.or_eq_true] at h
      rcases h with h | h
      · exact absurd (Nat.eq_of_beq_eq_true h) hne
      · cases hb : Nat.blt i j with
        | true =>
          rw [hb] at h
          have : i < j := Nat.le_of_ble_eq_true hb
          exact ⟨fun _ => h, fun h' => by omega⟩
        | false =>
          rw [hb] at h
          exact ⟨fun h' => (by rw [show Nat.blt i j = true from Nat.ble_eq_true_of_le h'] at hb; cases hb), fun _ => h⟩
    | succ k =>
      have := tempD1_spec h.2 k o (by simpa using hk) (by omega) hnm
      rw [show j + (k + 1) = j + 1 + k by omega]
      exact this
theorem tempD_spec {all : List Oper} : ∀ {l : List Oper} {i : Nat}, tempD b all i l = true → ∀ k o d, l[k]? = some o → o.dst = some d → tempD1 b (i + k) d 0 all = true
  | [], i, _, k, o, d, h, _ => by simp at h
  | o' :: l, i, h, k, o, d, hk, hd => by
    have h : ((match o'.dst with | some d => tempD1 b i d 0 all | none => true) && tempD b all (i + 1) l) = true := h
    rw [Bool.and_eq_true] at h
    cases k with
    | zero =>
      simp at hk; subst hk
      have h := h.1
      rw [hd] at h
      exact h
    | succ k =>
      have := tempD_spec h.2 k o d (by simpa using hk) hd
      rw [show i + (k + 1) = i + 1 + k by omega]
      exact this
theorem soleD_spec {d j : Nat} : ∀ {l : List Oper} {i : Nat}, soleD d j i l = true → ∀ k o, l[k]? = some o → i + k ≠ j → o.dst ≠ some d
  | [], i, _, k, o, h, _ => by simp at h
  | o' :: l, i, h, k, o, hk, hne => by
    have h : ((Nat.beq i j || !dstIs o' d) && soleD d j (i + 1) l) = true := h
    rw [Bool.and_eq_true] at h
    cases k with
    | zero =>
      simp at hk; subst hk
      intro hd
      have h := h.1
      rw [dstIs_ok.2 hd, Bool.not_true, Bool.or_false] at h
      exact hne (Nat.eq_of_beq_eq_true h)
    | succ k => exact soleD_spec h.2 k o (by simpa using hk) (by omega)
theorem topoD_spec : ∀ {l : List Oper} {i : Nat}, topoD i l = true → ∀ k o, l[k]? = some o → ∀ e ∈ o.after, Region.binds .any e = true → e.on < i + k
  | [], i, _, k, o, h, _, _, _ => by simp at h
  | o' :: l, i, h, k, o, hk, e, he, hb => by
    have h : (edgesD i o' && topoD (i + 1) l) = true := h
    rw [Bool.and_eq_true] at h
    cases k with
    | zero =>
      simp at hk; subst hk
      have := List.all_eq_true.1 h.1 e (by simpa using he)
      rw [hb, Bool.not_true, Bool.false_or] at this
      exact Nat.le_of_ble_eq_true this
    | succ k =>
      have := topoD_spec h.2 k o (by simpa using hk) e he hb
      omega
theorem guardD_spec {o : Oper} {j : Nat} {want : Bool} (h : guardD ops o = true) (hg : o.guard = some (j, want)) : (∃ e ∈ o.after, e.on = j ∧ Region.binds .any e = true) ∧ ∀ p d, ops[j]? = some p → p.dst = some d → soleD d j 0 ops.toList = true := by
  unfold guardD at h
  rw [hg] at h
  simp only at h
  rw [Bool.and_eq_true] at h
  obtain ⟨e, he, hb⟩ := List.any_eq_true.1 h.1
  rw [Bool.and_eq_true] at hb
  refine ⟨⟨e, by simpa using he, Nat.eq_of_beq_eq_true hb.1, hb.2⟩, fun p d hp hd => ?_⟩
  have h := h.2
  rw [hp] at h
  simp only [hd] at h
  exact h
theorem drawnOk_spec (h : drawnOk ops = some b) : b = (Region.before ops).toList ∧ tempD b ops.toList 0 ops.toList = true ∧ topoD 0 ops.toList = true ∧ (∀ o ∈ ops, guardD ops o = true) ∧ Region.noSelect ops = true := by
  unfold drawnOk at h
  simp only at h
  split at h
  · rename_i hb
    injection h with h; subst h
    simp only [Bool.and_eq_true, List.all_eq_true] at hb
    exact ⟨rfl, hb.1.1.1, hb.1.1.2, fun o ho => hb.1.2 o (by simpa using ho), hb.2⟩
  · cases h
theorem cn_of {x0 : Sn} (hp : x0.p = []) (hq : x0.q = []) (hd : drawnOk ops = some b) (hX : X 0 = x0) (hst : ∀ k o, ops[k]? = some o → stepD P H ih ops b base k o (X k) = .ok (U k, X (k + 1)))
    (hord : orderD b ops.size (effsD P ops 0 ops.toList x0 (zs X U 0 ops.size)) = true) (hred : readsD P ops b (effsD P ops 0 ops.toList x0 (zs X U 0 ops.size)) 0 ops.toList x0 (zs X U 0 ops.size) = true) : Cn P H ih ops b base X U := by
  obtain ⟨hb, h1, h2, h3, h4⟩ := drawnOk_spec hd
  subst hX
  have hl : ∀ k, ops.toList[k]? = ops[0 + k]? := fun k => by simp
  obtain ⟨s1, s2, s3⟩ := effs_spec (P := P) (X := X) (U := U) (b := b) (n := ops.size) rfl (l := ops.toList) (i := 0) hl (by simp)
  have hlen : ops.toList.length = ops.size := by simp
  rw [hlen] at s1 s2 s3
  refine ⟨hst, hp, hq, ?_, ?_, ?_, ?_, ?_, ?_, ?_, ?_⟩
  · intro i j h; rw [hb] at h; obtain ⟨o, ho, _⟩ := before_inv h; exact size_of ho
  · intro i j o ho h
    rw [hb] at h ⊢
    obtain ⟨o', ho', h⟩ := before_inv h
    rw [ho] at ho'; injection ho' with ho'; subst ho'
    exact h
  · intro i o ho e he hbi
    have := topoD_spec h2 i o (by simpa using ho) e he hbi
    omega
  · intro i o d ho hdd j o' ho' hne hnm
    have := tempD1_spec (tempD_spec h1 i o d (by simpa using ho) hdd) j o' (by simpa using ho') (by omega) (namesD_ok hnm)
    simpa using this
  · intro i o j want ho hg
    obtain ⟨k1, k2⟩ := guardD_spec (h3 o (Array.mem_of_getElem? ho)) hg
    exact ⟨k1, fun p d hp hd k ok hk hne => soleD_spec (k2 p d hp hd) k ok (by simpa using hk) (by omega)⟩
  · exact fun j k h1 h2 h3 => s3 hord j k (Nat.zero_le _) h1 h2 h3
  · intro i o f ho hw hF c hc
    have hs := reads_spec (X := X) (U := U) hl (by rw [hlen]; exact hred) i o f (Nat.zero_le _) ho hw hF
    rcases steadyD_spec hs c _ (s2 c (Nat.zero_le _) hc) with h | h
    · obtain ⟨k, sk, hk, h⟩ := barred_spec h
      exact Or.inl ⟨k, (s1 k sk hk).2, h⟩
    · exact Or.inr h
  · intro i o cs d ho
    exact Region.noSelect_spec h4 i o cs d ho
end
end Go.Clo
/- The interpreter of closed runs, a part of it. -/
namespace Go.Clo
set_option linter.unusedSimpArgs false
set_option linter.unusedVariables false
set_option linter.unnecessarySimpa false
open Go Go.RowKit

variable {P : Program} {W0 : World}

theorem zs_last {X : Nat → Sn} {U : Nat → V} (n : Nat) : (zs X U 0 (n + 1)).getLast? = some (U n, X (n + 1)) := by
  unfold zs
  rw [List.range'_1_concat]
  simp
theorem drawV_inv {H : Hook} {ih : Run} {ops : Array Oper} {t : Fr} {s : St} {x : Ex} {t' : Fr} {s' : St} (h : drawV P H ih ops t s = .ok x t' s') :
    ∃ b X U, Cn P H ih ops b s.size X U ∧ X 0 = ⟨t, ⟨s.mem, s.size + ops.size⟩, [], []⟩ ∧ x = .normal ∧ t' = (X ops.size).t ∧ s' = addPend (X ops.size).s (X ops.size).p := by
  unfold drawV at h
  cases hd : drawnOk ops with
  | none => rw [hd] at h; cases h
  | some b =>
    rw [hd] at h
    simp only at h
    cases hz : drawnS P H ih ops b s.size 0 ops.toList ⟨t, ⟨s.mem, s.size + ops.size⟩, [], []⟩ with
    | err e => rw [hz] at h; cases h
    | ok z =>
      rw [hz] at h
      simp only at h
      obtain ⟨X, U, h0, hst, hzz⟩ := drawnS_ex hz
      have hzz : z = zs X U 0 ops.size := by rw [hzz]; simp [zs]
      subst hzz
      cases ho : orderD b ops.size (effsD P ops 0 ops.toList ⟨t, ⟨s.mem, s.size + ops.size⟩, [], []⟩ (zs X U 0 ops.size)) with
      | false => rw [ho] at h; cases h
      | true =>
        rw [ho] at h
        simp only at h
        cases hr : readsD P ops b (effsD P ops 0 ops.toList ⟨t, ⟨s.mem, s.size + ops.size⟩, [], []⟩ (zs X U 0 ops.size)) 0 ops.toList ⟨t, ⟨s.mem, s.size + ops.size⟩, [], []⟩ (zs X U 0 ops.size) with
        | false => rw [hr] at h; cases h
        | true =>
          rw [hr] at h
          simp only at h
          refine ⟨b, X, U, cn_of rfl rfl hd h0 (fun k o hk => ?_) ho hr, h0, ?_⟩
          · have := hst k o (by simpa using hk)
            simpa using this
          · cases hn : ops.size with
            | zero =>
              rw [hn] at h
              have : zs X U 0 0 = [] := rfl
              rw [this] at h
              have h : Out.ok .normal t s = .ok x t' s' := h
              injection h with h1 h2 h3
              subst h1; subst h2; subst h3
              rw [h0]
              exact ⟨rfl, rfl, by rw [hn]; rfl⟩
            | succ n =>
              rw [hn, zs_last] at h
              simp only at h
              injection h with h1 h2 h3
              exact ⟨h1.symm, h2.symm, h3.symm⟩
theorem drawOK (hmix : P.follows .mixedOrders = true) {H : Hook} (hH : HookOK P W0 H) : DrawOK P W0 H := by
  intro ih hih id ops t s x t' s' h ρ w a B r hR hfa
  obtain ⟨hf, hd, hr⟩ := hfa
  obtain ⟨b, X, U, C, h0, rfl, rfl, rfl⟩ := drawV_inv h
  have hB : W0.heap.size ≤ w.heap.size := hR.below.size
  refine wpIn_region_any hmix ?_
  have hno : ∀ i, ¬ isL (Array.replicate ops.size false) i := fun i hi => by
    unfold isL at hi
    by_cases h : i < ops.size <;> simp [Array.getD_eq_getD_getElem?, Array.getElem?_replicate, h] at hi
  refine any_drawn (ds := a.defers) (ρ0 := ρ) (s0 := s) (w0 := w) hih hH C hB rfl ?_ ops.size _ a _ (by simp) ?_ ?_
  · rintro a' w' ⟨L, hall, hL, ρ', c, M, T⟩
    have hc : c = ops.size := M.curE.resolve_right fun he => M.curL (hall c he.lt)
    subst hc
    have A := M.added hB rfl (q := (X ops.size).p) fun e he => by
      obtain ⟨j, y, h1, h2, h3⟩ := (C.mem_q (Nat.le_refl _)).1 ((C.mem_p (Nat.le_refl _)).1 he).1
      exact ⟨j, y, h2, hall j h1, h3⟩
    refine ⟨rfl, ρ', A.step, ⟨?_, fun d => ?_⟩, by rw [T.defers]; exact hd.step A.step, ?_⟩
    · rw [T.size, C.n (Nat.le_refl _)]
    rotate_left
    · rw [C.r (Nat.le_refl _), h0]; exact hr.mono A.step.le
    · exact T.at_ d ops.size (Nat.le_refl _) (fun j o hj _ _ => hall j hj) (fun j o hj ho => by have := size_of ho; omega)
  · unfold leftN
    have := List.countP_le_length (p := fun i => !(Array.replicate ops.size false).getD i false) (l := List.range ops.size)
    simpa using this
  · obtain ⟨c, _, n2, n3, n4⟩ := next_eff P ops X _ 0 rfl (Nat.zero_le _)
    have hs : (X c).s = ⟨s.mem, s.size + ops.size⟩ := by rw [C.still (Nat.zero_le _) n2 n4, h0]
    have hn0 : (X 0).t.n = t.n := by rw [h0]
    refine ⟨fun j o _ hj => absurd hj (hno j), ρ, c, ⟨fun i hi => absurd hi (hno i), n2, n3, hno c, fun k hk hkc => absurd hk (n4 k (Nat.zero_le _) hkc), ?_, ?_, fun i _ _ => hR.fresh _ (Nat.le_add_right _ _), fun i _ _ hi => absurd hi (hno i), fun i _ hi => absurd hi (hno i), fun i _ _ _ _ _ _ hi => absurd hi (hno i)⟩, ⟨?_, rfl, fun d i hi h1 _ => ?_⟩⟩
    · rw [hs]
      exact Step.world (Step.bump hR _ (Nat.le_add_right _ _)) rfl rfl rfl rfl
    · rw [hs]; exact Nat.le_refl _
    · rw [hn0]; exact hf.1
    · rw [C.keep (Nat.zero_le _) hi (fun k o _ hk ho hdk => hno k (h1 k o hk ho hdk)), h0]
      exact hf.2 d
theorem runs_ok (hmix : P.follows .mixedOrders = true) {H : Hook} (hH : HookOK P W0 H) (n : Nat) : RunOK P W0 (exec P H n) := runOK hmix hH (drawOK hmix hH) n
theorem HookOK.none : HookOK P W0 (fun _ _ _ => .none) := fun _ _ _ _ _ h => by cases h
theorem Rel.start (w : World) : Rel w (fun _ => none) ⟨.nil, 0⟩ w :=
  ⟨Below.refl _ _, fun b x h => (by cases h), fun _ _ => rfl, fun b _ _ _ _ _ h => (by cases h)⟩
/-- A closed run is a call's contract. -/
theorem call_ok (hmix : P.follows .mixedOrders = true) {H : Hook} {w : World} (hH : HookOK P w H) {n : Nat} {f : FuncId} {args : List V} {v : V} {s' : St} (h : call P H n f args ⟨.nil, 0⟩ = .ok (v, s')) {us : List Value} (he : EL (fun _ => none) args us) :
    Calls P f us.toArray w fun e w' => ∃ ρ' u, e = .returned u ∧ Below w.heap.size w w' ∧ E ρ' v u := by
  refine (callV_ok (runs_ok hmix hH n) hH h (Rel.start w) he).mono fun e w' hr => ?_
  obtain ⟨ρ', u, rfl, hst, hE⟩ := hr
  exact ⟨ρ', u, rfl, hst.rel.below, hE⟩
theorem call_bool (hmix : P.follows .mixedOrders = true) {H : Hook} {w : World} (hH : HookOK P w H) {n : Nat} {f : FuncId} {c : Bool} {s' : St} (h : call P H n f [] ⟨.nil, 0⟩ = .ok (.bool c, s')) :
    Calls P f #[] w fun e w' => e = .returned (.bool c) ∧ Below w.heap.size w w' := by
  refine (call_ok hmix hH h EL.nil).mono fun e w' hr => ?_
  obtain ⟨ρ', u, rfl, hst, hE⟩ := hr
  simp only [E] at hE
  subst hE
  exact ⟨rfl, hst⟩
end Go.Clo
