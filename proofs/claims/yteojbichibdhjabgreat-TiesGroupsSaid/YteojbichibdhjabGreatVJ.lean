/- The interpreter of closed runs, a part of it. -/
import Derived.Test.YteojbichibdhjabGreatVI
namespace Go.Clo
set_option linter.unusedSimpArgs false
set_option linter.unusedVariables false
set_option linter.unnecessarySimpa false
open Go Go.RowKit

variable {P : Program}

/-- Maps that are written. -/
theorem setM_cons (k v : V) (p : V × V) (l : List (V × V)) : setM k v (p :: l) = set1 k v p l (setM k v l) (keyCmp k p.1) := rfl
theorem EL_set {ρ : Rho} : ∀ {l : List V} {us : List Value} {j : Nat} {v : V} {u : Value}, EL ρ l us → E ρ v u → EL ρ (l.set j v) (us.set j u)
  | [], us, j, v, u, h, _ => by rw [EL.nil_inv h]; exact EL.nil
  | a :: l, us, j, v, u, h, e => by
    obtain ⟨x, r, rfl, h1, h2⟩ := EL.cons_inv h
    cases j with
    | zero => exact EL.cons e h2
    | succ j => exact EL.cons h1 (EL_set h2 e)
theorem setM_ok {ρ : Rho} {num : Bool} {d : TypeDesc} (hd : kindOf num d) {k v : V} (hk : keyOk num k = true) {uk : Value} (ek : E ρ k uk) : ∀ {es es' : List (V × V)} {ents : List MapEntry} (i : Nat),
    setM k v es = .ok es' → EL ρ (es.map (·.1)) (ents.map (·.key)) → EL ρ (es.map (·.2)) (ents.map (·.val)) →
    (Instr.findNow d uk ents i = some none ∧ es' = es ++ [(k, v)]) ∨ ∃ j y e, Instr.findNow d uk ents i = some (some (i + j, y)) ∧ ents[j]? = some e ∧ e.key = uk ∧ es' = es.set j (k, v)
  | [], es', ents, i, h, h1, h2 => by
    have : M.ok [(k, v)] = M.ok es' := h
    injection this with this; subst this
    have := EL.nil_inv h1
    have : ents = [] := by simpa using this
    subst this
    exact Or.inl ⟨rfl, rfl⟩
  | p :: es, es', ents, i, h, h1, h2 => by
    cases ents with
    | nil => have := h1.len; simp at this
    | cons e ents =>
      simp only [List.map_cons] at h1 h2
      obtain ⟨u, q, e1, hE1, h1⟩ := EL.cons_inv h1
      obtain ⟨u', q', e2, hE2, h2⟩ := EL.cons_inv h2
      simp only [List.cons.injEq] at e1 e2
      obtain ⟨rfl, rfl⟩ := e1
      obtain ⟨rfl, rfl⟩ := e2
      rw [setM_cons] at h
      unfold set1 at h
      split at h
      · rename_i hc
        injection h with h; subst h
        have hs := keyCmp_ok hd hk hc ek hE1
        exact Or.inr ⟨0, e.val, e, by simp [Instr.findNow, hs.1], rfl, (hs.2 rfl).symm, rfl⟩
      · rename_i hc
        have hs := (keyCmp_ok hd hk hc ek hE1).1
        obtain ⟨es2, h3, h⟩ := M.bind_ok h
        injection h with h; subst h
        rcases setM_ok hd hk ek (i + 1) h3 h1 h2 with ⟨g1, rfl⟩ | ⟨j, y, e', g1, g2, g3, rfl⟩
        · exact Or.inl ⟨by simpa [Instr.findNow, hs] using g1, rfl⟩
        · refine Or.inr ⟨j + 1, y, e', ?_, by simpa using g2, g3, rfl⟩
          simp only [Instr.findNow, hs]
          rw [g1, show i + 1 + j = i + (j + 1) by omega]
      · cases h
theorem sameBits_key {num : Bool} {k : V} (hk : keyOk num k = true) {ρ : Rho} {u : Value} (e : E ρ k u) : Instr.sameBits 10000 u u = true := by
  unfold keyOk at hk
  split at hk
  · simp only [E] at e; subst e; simp [Instr.sameBits]
  · simp only [E] at e; subst e; simp [Instr.sameBits, ba_beq]
  · cases hk
theorem fUpdate_eff {o : Oper} {ty : TypeId} {x k y : Operand} (ho : o.op = .mapUpdate ty x k y ∨ o.op = .insert ty x k y) {g : Fr → St → M (V × St)} (h : fUpdate P ty x k y = .eff g) : EffOK P o g := by
  unfold fUpdate at h
  split at h
  · rename_i kt el hu
    obtain ⟨num, hnum, h⟩ := orBad_eff h
    injection h with h; subst h
    obtain ⟨d, hkd, hd⟩ := keyTy_ok hnum
    intro W0 ρ s w t a v s' hR hf h
    unfold gUpdate at h
    obtain ⟨key, h1, h⟩ := M.bind_ok h
    obtain ⟨hk, h⟩ := ask_ok h
    obtain ⟨val, h2, h⟩ := M.bind_ok h
    obtain ⟨m, h3, h⟩ := M.bind_ok h
    have ek := ev_ok hf h1
    have ev := ev_ok hf h2
    have em := ev_ok hf h3
    split at h
    · rename_i b
      split at h
      · rename_i es hb
        obtain ⟨es', h4, h⟩ := M.bind_ok h
        injection h with h
        simp only [Prod.mk.injEq] at h
        obtain ⟨rfl, rfl⟩ := h
        simp only [E] at em; obtain ⟨l, hl, hx⟩ := em
        obtain ⟨_, l', hl', hB, hlt, hok⟩ := hR.blk b _ hb
        have hB : W0.heap.size ≤ l'.blk := hB
        rw [hl] at hl'; injection hl' with e; subst e
        obtain ⟨ents, clock, hw, g1, g2, gb⟩ := hok
        have hset : ∀ o', w.heap[l.blk]? = some (.map ents.toArray clock) → (setObj l.blk o').run P w = .ok () { w with heap := w.heap.setIfInBounds l.blk o' } := fun o' hh => by simp [setObj, Sem.run, hh]
        have hstep : ∀ (ents' : List MapEntry) (clock' : Nat), EL ρ (es'.map (·.1)) (ents'.map (·.key)) → EL ρ (es'.map (·.2)) (ents'.map (·.val)) → Born ents' clock' →
            Step W0 ρ s w ρ (s.put b (.map es')) { w with heap := w.heap.setIfInBounds l.blk (.map ents'.toArray clock') } := fun ents' clock' q1 q2 q3 => by
          refine Step.write hR hb trivial (by trivial) hl rfl (fun c hc => Or.inl (by rw [St.get_put, if_neg hc])) (x' := .map es') (by rw [St.get_put, if_pos rfl]) ?_ (by simp) (fun r hr => by simp [Array.getElem?_setIfInBounds_ne (Ne.symm hr)]) ⟨ents', clock', by simp [hlt], q1, q2, q3⟩ ?_
          · exact ⟨hR.below.os, hR.below.tape, hR.below.output, by simp; exact hR.below.size, fun r hr => by
              show (w.heap.setIfInBounds l.blk _)[r]? = _
              rw [Array.getElem?_setIfInBounds_ne (by omega)]; exact hR.below.block r hr⟩
          · intro c y' k' hne hc hy hk' hblk
            rw [St.get_put, if_neg hne] at hc
            rcases hR.dis c b y' _ k' l hc hb hy trivial hk' hl hne hblk with hq | hq
            · cases y' <;> exact hq.elim
            · exact hq.elim
        rcases setM_ok hd hk ek 0 h4 g1 g2 with ⟨q1, rfl⟩ | ⟨j, yy, e', q1, q2, q3, rfl⟩
        · refine ⟨undef, _, ρ, Or.inr ⟨?_, rfl⟩, hstep (ents ++ [({ key := a.eval k, val := a.eval y, born := clock } : MapEntry)]) (clock + 1) ?_ ?_ ?_, E_undef⟩
          · have hr : (Instr.mapUpdate ty (a.eval x) (a.eval k) (a.eval y)).run P w = .ok () { w with heap := w.heap.setIfInBounds l.blk (.map (ents ++ [({ key := a.eval k, val := a.eval y, born := clock } : MapEntry)]).toArray (clock + 1)) } := by
              rw [hx]
              simp [Instr.mapUpdate, run_underlying hu, run_getObj_map hw, run_checkKey hkd hd, Instr.findKey, run_underlying hkd, q1, hset _ hw]
            rcases ho with ho | ho <;> simp [execOp, ho, hr]
          · simp only [List.map_append, List.map_cons, List.map_nil]; exact g1.app (EL.cons ek EL.nil)
          · simp only [List.map_append, List.map_cons, List.map_nil]; exact g2.app (EL.cons ev EL.nil)
          · refine ⟨fun e he => ?_, ?_⟩
            · rcases List.mem_append.1 he with he | he
              · exact Nat.lt_succ_of_lt (gb.1 e he)
              · rw [List.mem_singleton.1 he]; exact Nat.lt_succ_self _
            · rw [List.map_append, List.map_cons, List.map_nil, List.nodup_append]
              refine ⟨gb.2, by simp, fun x hx y hy => ?_⟩
              obtain ⟨e, he, rfl⟩ := List.mem_map.1 hx
              rw [List.mem_singleton.1 hy]
              exact Nat.ne_of_lt (gb.1 e he)
        · refine ⟨undef, _, ρ, Or.inr ⟨?_, rfl⟩, hstep (ents.set j { e' with key := a.eval k, val := a.eval y }) clock ?_ ?_ ?_, E_undef⟩
          · have hr : (Instr.mapUpdate ty (a.eval x) (a.eval k) (a.eval y)).run P w = .ok () { w with heap := w.heap.setIfInBounds l.blk (.map (ents.set j { e' with key := a.eval k, val := a.eval y }).toArray clock) } := by
              rw [hx]
              rw [Nat.zero_add] at q1
              have hkeep : (Instr.keyThatStays (((ents.toArray[j]?).map (·.key)).getD (a.eval k)) (a.eval k)).run P w = .ok (a.eval k) w := by
                have : ents.toArray[j]? = some e' := by simpa using q2
                rw [this]
                simp only [Option.map_some, Option.getD_some, q3, Instr.keyThatStays, sameBits_key hk ek, if_true, Sem.run_pure]
              have hmod : (ents.toArray.modify j fun e => { e with key := a.eval k, val := a.eval y }) = (ents.set j { e' with key := a.eval k, val := a.eval y }).toArray := by
                apply Array.ext'
                simp only [Array.toList_modify]
                apply List.ext_getElem?
                intro i
                rw [List.getElem?_modify, List.getElem?_set]
                by_cases hij : j = i
                · subst hij
                  have hlt' : j < ents.length := (List.getElem?_eq_some_iff.1 q2).1
                  have hej : ents[j] = e' := (List.getElem?_eq_some_iff.1 q2).2
                  simp [hlt', hej]
                · simp [hij]
              simp [Instr.mapUpdate, run_underlying hu, run_getObj_map hw, run_checkKey hkd hd, Instr.findKey, run_underlying hkd, q1]
              have hk2 := hkeep
              simp only [List.getElem?_toArray] at hk2
              simp [hk2, hset _ hw]
              have hm2 := hmod
              simp only [List.modify_toArray] at hm2
              rw [hm2]
            rcases ho with ho | ho <;> simp [execOp, ho, hr]
          · rw [List.map_set, List.map_set]; exact EL_set g1 ek
          · rw [List.map_set, List.map_set]; exact EL_set g2 ev
          · have hlt' : j < ents.length := (List.getElem?_eq_some_iff.1 q2).1
            have hej : ents[j] = e' := (List.getElem?_eq_some_iff.1 q2).2
            refine ⟨fun e he => ?_, ?_⟩
            · rcases List.mem_or_eq_of_mem_set he with he | he
              · exact gb.1 e he
              · rw [he]; exact gb.1 e' (List.mem_of_getElem? q2)
            · have : (ents.set j { e' with key := a.eval k, val := a.eval y }).map (·.born) = ents.map (·.born) := by
                apply List.ext_getElem?
                intro i
                rw [List.getElem?_map, List.getElem?_map, List.getElem?_set]
                by_cases hij : j = i
                · subst hij; simp [hlt', hej]
                · simp [hij]
              rw [this]; exact gb.2
      · cases h
    · cases h
  · cases h
end Go.Clo
