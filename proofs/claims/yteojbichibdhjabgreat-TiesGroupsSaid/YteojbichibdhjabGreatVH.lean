/- The interpreter of closed runs, a part of it. -/
import Derived.Test.YteojbichibdhjabGreatVG
import Derived.Laws.MakeOwn
namespace Go.Clo
set_option linter.unusedSimpArgs false
set_option linter.unusedVariables false
set_option linter.unnecessarySimpa false
open Go Go.RowKit

variable {P : Program}

/-- An operation that makes a block and no more. -/
def FloatOK (P : Program) (o : Oper) (f : Fr → Nat → M (V × Blk)) : Prop :=
  ∀ (ρ : Rho) (t : Fr) (a : Act) (id : Nat) (v : V) (x : Blk), FrE ρ t a.tmps → f t id = .ok (v, x) → x.alive ∧ ∀ w : World, ∃ (u : Value) (obj : Obj), (execOp a.eval o).run P w = .ok (.value u) (w.alloc obj) ∧
    ∀ ρ' : Rho, ρ.le ρ' → ρ' id = some ⟨w.heap.size, 0, 0⟩ → E ρ' v u ∧ BOK ρ' (w.alloc obj) ⟨w.heap.size, 0, 0⟩ x
theorem BOK_new {ρ : Rho} {w : World} {c : List V} {ty : TypeId} {us : List Value} (h : EL ρ c us) : BOK ρ (w.alloc (.cells us.toArray ty)) ⟨w.heap.size, 0, 0⟩ (.cells c ty) :=
  ⟨rfl, us, heap_alloc_new w _, h⟩
theorem gAlloc_ok {o : Oper} {ty : TypeId} (ho : o.op = .alloc ty) {g : Fr → Nat → M (V × Blk)} (h : fAlloc P ty = .float g) : FloatOK P o g := by
  unfold fAlloc at h
  split at h
  · obtain ⟨z, hz, h⟩ := orBad_float h
    injection h with h; subst h
    obtain ⟨zu, hzo, hzr⟩ := run_zeroT hz
    intro ρ t a id v x hf h
    unfold gAlloc at h
    injection h with h
    simp only [Prod.mk.injEq] at h
    obtain ⟨rfl, rfl⟩ := h
    refine ⟨trivial, fun w => ⟨.pointer (some ⟨w.heap.size, 0, none⟩), .cells zu.cells ty, ?_, fun ρ' hle hid => ⟨?_, ?_⟩⟩⟩
    · simp only [execOp, ho]
      refine run_value ?_
      simp [Instr.alloc, hzr, newVar, newRow]
    · simp only [E]; exact ⟨_, hid, by simp⟩
    · exact BOK_new (us := zu.cells.toList) (E_cells (told_of hzo) (ofVal_ok hzo))
  · cases h
theorem gBox_ok {o : Oper} {ty : TypeId} {y : Operand} (ho : o.op = .box ty y) : FloatOK P o (gBox ty y) := by
  intro ρ t a id v x hf h
  unfold gBox at h
  obtain ⟨v0, h1, h⟩ := M.bind_ok h
  obtain ⟨htold, h⟩ := ask_ok h
  injection h with h
  simp only [Prod.mk.injEq] at h
  obtain ⟨rfl, rfl⟩ := h
  have e1 := ev_ok hf h1
  refine ⟨trivial, fun w => ⟨.pointer (some ⟨w.heap.size, 0, none⟩), .cells (a.eval y).cells ty, ?_, fun ρ' hle hid => ⟨?_, ?_⟩⟩⟩
  · simp only [execOp, ho]
    refine run_value ?_
    simp [Instr.box, newVar, newRow]
  · simp only [E]; exact ⟨_, hid, by simp⟩
  · exact BOK_new (us := (a.eval y).cells.toList) (E_cells htold (e1.mono hle))
theorem repl_succ (n : Nat) (z : List V) : repl (n + 1) z = z ++ repl n z := by
  show appN z (repl n z) = _; rw [appN_eq]
theorem repl_len (n : Nat) (z : List V) : (repl n z).length = n * z.length := by
  induction n with
  | zero => show ([] : List V).length = _; simp
  | succ n ih => rw [repl_succ, List.length_append, ih, Nat.add_mul]; omega
theorem repl_at (z : List V) (hz : 0 < z.length) : ∀ (n i : Nat), i < n * z.length → (repl n z)[i]? = z[i % z.length]?
  | 0, i, h => by omega
  | n + 1, i, h => by
    rw [repl_succ, List.getElem?_append]
    split
    · rename_i hi; rw [Nat.mod_eq_of_lt hi]
    · rename_i hi
      have h' : i < n * z.length + z.length := by rw [Nat.add_mul] at h; omega
      rw [repl_at z hz n (i - z.length) (by omega)]
      conv => rhs; rw [Nat.mod_eq_sub_mod (by omega : i ≥ z.length)]
theorem zeroCells_ok {ty : TypeId} {n : Nat} {z : List V} (h : zeroCells P ty n = some z) : ∃ i u, P.info? ty = some i ∧ i.zero = some u ∧ z.length = n ∧ (∀ ρ, EL ρ z u.cells.toList) := by
  unfold zeroCells at h
  split at h
  · rename_i zz hz
    split at h
    · rename_i hl
      injection h with h; subst h
      obtain ⟨i, u, h1, h2, h3⟩ := zeroT_ok hz
      exact ⟨i, u, h1, h2, by rw [← lenN_eq]; exact beq_eq hl, fun ρ => E_cells (told_of h3) (ofVal_ok h3)⟩
    · cases h
  · cases h
theorem EL_made {ρ : Rho} {z : List V} {u : Array Value} (h : EL ρ z u.toList) (hz : 0 < z.length) (n : Nat) : EL ρ (repl n z) (((Array.range (n * z.length)).map (u[· % u.size]!)).toList) := by
  have hl := h.len
  have hsz : u.size = z.length := by simpa using hl
  refine EL.of_at (by simp [repl_len]) fun i v hi => ?_
  have hlt : i < n * z.length := by
    rw [← repl_len]; exact (List.getElem?_eq_some_iff.1 hi).1
  rw [repl_at z hz n i hlt] at hi
  obtain ⟨y, hy, he⟩ := h.at hi
  refine ⟨y, ?_, he⟩
  have hm : i % z.length < u.size := by rw [hsz]; exact Nat.mod_lt _ hz
  simp [hlt, hsz]
  have : u[i % z.length]? = some y := by simpa using hy
  rw [getElem!_pos u _ hm]
  rw [Array.getElem?_eq_getElem hm] at this
  injection this
theorem isSlice_float {ty : TypeId} {e : String} {f : OpF} {g : Fr → Nat → M (V × Blk)} (h : isSlice P ty e f = .float g) : (∃ el, P.underlying ty = some (.slice el)) ∧ f = .float g := by
  unfold isSlice at h
  split at h
  · rename_i el hu; exact ⟨⟨el, hu⟩, h⟩
  · cases h
theorem isSlice_eff {ty : TypeId} {e : String} {f : OpF} {g : Fr → St → M (V × St)} (h : isSlice P ty e f = .eff g) : (∃ el, P.underlying ty = some (.slice el)) ∧ f = .eff g := by
  unfold isSlice at h
  split at h
  · rename_i el hu; exact ⟨⟨el, hu⟩, h⟩
  · cases h
theorem elem_slice {ty el e : TypeId} {n : Nat} (h : elemT P ty = some (e, n)) (hu : P.underlying ty = some (.slice el)) : el = e := by
  obtain ⟨_, _, hc⟩ := elemT_ok h
  rcases hc with hc | ⟨m, hc⟩
  · rw [hu] at hc; injection hc with hc; injection hc
  · rw [hu] at hc; injection hc with hc; cases hc
theorem gLit_ok {o : Oper} {ty : TypeId} {len : Nat} {parts : Array (Nat × Operand)} (ho : o.op = .buildSlice ty len parts) {g : Fr → Nat → M (V × Blk)} (h : fLit P ty len parts.toList = .float g) : FloatOK P o g := by
  obtain ⟨⟨el, n⟩, hen, h⟩ := orBad_float h
  obtain ⟨hn, hs, _⟩ := elemT_ok hen
  split at h
  · rename_i hle
    have hle := ble_le hle
    obtain ⟨z, hz, h⟩ := orBad_float h
    obtain ⟨⟨el', hu⟩, h⟩ := isSlice_float h
    obtain rfl := elem_slice hen hu
    injection h with h; subst h
    obtain ⟨i, zu, hi, hzi, hzl, hzE⟩ := zeroCells_ok hz
    simp only at hzl hle
    intro ρ t a id v x hf h
    unfold gLit at h
    obtain ⟨ps, h1, h⟩ := M.bind_ok h
    obtain ⟨cs, h2, h⟩ := M.bind_ok h
    injection h with h
    simp only [Prod.mk.injEq] at h
    obtain ⟨rfl, rfl⟩ := h
    obtain ⟨e1, e2⟩ := pairs_ok hf h1
    have hmade := EL_made (hzE ρ) (by omega) len
    rw [hzl] at hmade
    obtain ⟨rs, hr, he⟩ := fillV_ok (ρ := ρ) (placeMul n) (us := (parts.map fun (p : Nat × Operand) => (p.1, a.eval p.2)).toList) (cs := (Array.range (len * n)).map (zu.cells[· % zu.cells.size]!)) h2 (by rw [e1]; simp [Function.comp_def]) (by simpa [Function.comp_def] using e2) hmade
    refine ⟨trivial, fun w => ⟨.slice (some ⟨w.heap.size, 0, none⟩) len len, .cells rs el', ?_, fun ρ' hle' hid => ⟨?_, ?_⟩⟩⟩
    · simp only [execOp, ho]
      refine run_value ?_
      have hbig : ¬ (len * n > 2 ^ 24) := by omega
      have hzr : ∀ w, (zeroValue el').run P w = .ok zu w := fun w => by simp [zeroValue, typeInfo, hi, hzi]
      have hr' : Instr.fill (fun i => some (i * n, n)) ((Array.range (len * n)).map (zu.cells[· % zu.cells.size]!)) (parts.map fun (p : Nat × Operand) => (p.1, a.eval p.2)).toList = some rs := hr
      by_cases h0 : len * n = 0
      · have hrs : (Array.range (len * n)).map (zu.cells[· % zu.cells.size]!) = (Array.range (len * n)).map ((#[] : Array Value)[· % (#[] : Array Value).size]!) := by rw [h0, Array.range_zero']; apply Array.ext'; simp
        rw [hrs] at hr'
        simp only [Instr.buildSlice, Sem.run_bind, run_underlying hu, Result.andThen_ok, run_sizeT hs, if_neg hbig, if_pos h0, Sem.run_pure, newRow, run_newObj, hr', World.alloc_eq]
      · simp only [Instr.buildSlice, Sem.run_bind, run_underlying hu, Result.andThen_ok, run_sizeT hs, if_neg hbig, if_neg h0, Sem.run_pure, hzr, newRow, run_newObj, hr', World.alloc_eq]
    · simp only [E]; exact ⟨_, hid, by simp⟩
    · exact BOK_new (us := rs.toList) (he.mono hle')
  · cases h
theorem gMake_ok {o : Oper} {ty : TypeId} {y z' : Operand} (ho : o.op = .makeSlice ty y z') {g : Fr → Nat → M (V × Blk)} (h : fMake P ty y z' = .float g) : FloatOK P o g := by
  obtain ⟨⟨el, n⟩, hen, h⟩ := orBad_float h
  obtain ⟨hn, hs, _⟩ := elemT_ok hen
  obtain ⟨z, hz, h⟩ := orBad_float h
  obtain ⟨by_, hby, h⟩ := orBad_float h
  obtain ⟨⟨el', hu⟩, h⟩ := isSlice_float h
  obtain rfl := elem_slice hen hu
  injection h with h; subst h
  obtain ⟨i, zu, hi, hzi, hzl, hzE⟩ := zeroCells_ok hz
  simp only at hzl
  have hib : i.bytes = by_ := by unfold bytesT at hby; rw [hi] at hby; injection hby
  have hisz : i.size = n := by obtain ⟨i', h1, h2⟩ := sizeT_ok hs; rw [hi] at h1; injection h1 with h1; rw [h1]; exact h2
  intro ρ t a id v x hf h
  unfold gMake at h
  obtain ⟨l0, h1, h⟩ := M.bind_ok h
  obtain ⟨l, h2, h⟩ := M.bind_ok h
  obtain ⟨c0, h3, h⟩ := M.bind_ok h
  obtain ⟨c, h4, h⟩ := M.bind_ok h
  obtain ⟨h5, h⟩ := ask_ok h
  injection h with h
  simp only [Prod.mk.injEq] at h
  obtain ⟨rfl, rfl⟩ := h
  obtain ⟨g1, g2, g3⟩ := and3 h5
  have g1 := ble_le g1
  have g2 := ble_le g2
  have g3 := ble_le g3
  obtain ⟨kl, hkl⟩ := natI_ok h2 (ev_ok hf h1)
  obtain ⟨kc, hkc⟩ := natI_ok h4 (ev_ok hf h3)
  have hmade := EL_made (hzE ρ) (by omega) c
  rw [hzl] at hmade
  refine ⟨trivial, fun w => ⟨.slice (some ⟨w.heap.size, 0, none⟩) l c, .cells (madeCells zu.cells (c * n)) el', ?_, fun ρ' hle' hid => ⟨?_, ?_⟩⟩⟩
  · simp only [execOp, ho]
    refine run_value ?_
    rw [hkl, hkc]
    have hb : (i.bytes : Int) * (c : Int) ≤ 281474976710656 := by
      rw [hib, ← Int.natCast_mul]
      have h2 : ((by_ * c : Nat) : Int) ≤ ((1073741824 : Nat) : Int) := Int.ofNat_le.2 g2
      exact Int.le_trans h2 (by decide)
    have hc63 : (c : Int) ≤ 9223372036854775807 := by omega
    have hlc : (l : Int) ≤ (c : Int) := by omega
    have hl0 : (0 : Int) ≤ l := by omega
    have := run_make (P := P) w ty el' i zu hu hi hzi kl kc (l : Int) (c : Int) hl0 hlc hb hc63
    rw [Int.toNat_natCast, Int.toNat_natCast, hisz] at this
    exact this
  · simp only [E]; exact ⟨_, hid, by simp⟩
  · exact BOK_new (us := (madeCells zu.cells (c * n)).toList) (hmade.mono hle')
theorem gMap_ok {o : Oper} {ty : TypeId} (ho : o.op = .makeMap ty none) : FloatOK P o gMap := by
  intro ρ t a id v x hf h
  unfold gMap at h
  injection h with h
  simp only [Prod.mk.injEq] at h
  obtain ⟨rfl, rfl⟩ := h
  refine ⟨trivial, fun w => ⟨.map (some w.heap.size), .map #[] 0, ?_, fun ρ' hle' hid => ⟨?_, ?_⟩⟩⟩
  · simp only [execOp, ho]
    refine run_value ?_
    simp [Instr.makeMap]
  · simp only [E]; exact ⟨_, hid, by simp⟩
  · exact ⟨[], 0, heap_alloc_new w _, EL.nil, EL.nil, fun x h => (by cases h), List.nodup_nil⟩
end Go.Clo
