/- The interpreter of closed runs, a part of it. -/
import Derived.Test.YteojbichibdhjabGreatVB
namespace Go.Clo
set_option linter.unusedSimpArgs false
set_option linter.unusedVariables false
set_option linter.unnecessarySimpa false
open Go Go.RowKit

variable {P : Program}

theorem places_ok : ∀ {fs : List Field} {l : List (Nat × Nat)}, places P fs = some l → fs.mapM (fun f => (P.info? f.type).map fun i => (f.offset, i.size)) = some l
  | [], l, h => by simp only [places, Option.some.injEq] at h; subst h; rfl
  | f :: fs, l, h => by
    simp only [places] at h
    split at h
    · rename_i n hn
      split at h
      · rename_i r hr
        injection h with h; subst h
        obtain ⟨i, hi, hsz⟩ := sizeT_ok hn
        simp [List.mapM_cons, hi, hsz, places_ok hr]
      · cases h
    · cases h
theorem placeAt_eq : ∀ (l : List (Nat × Nat)) (n : Nat), placeAt l n = l.toArray[n]?
  | [], n => by simp [placeAt]
  | a :: l, 0 => by simp [placeAt]
  | a :: l, n + 1 => by simpa [placeAt] using placeAt_eq l n
theorem orBad_pure {α : Type} {x : Option α} {e : String} {f : α → OpF} {g : Fr → M V} (h : orBad x e f = .pure g) : ∃ y, x = some y ∧ f y = .pure g := by
  cases x with
  | none => cases h
  | some y => exact ⟨y, rfl, h⟩
theorem orBad_read {α : Type} {x : Option α} {e : String} {f : α → OpF} {g : Fr → St → M V} (h : orBad x e f = .read g) : ∃ y, x = some y ∧ f y = .read g := by
  cases x with
  | none => cases h
  | some y => exact ⟨y, rfl, h⟩
theorem orBad_float {α : Type} {x : Option α} {e : String} {f : α → OpF} {g : Fr → Nat → M (V × Blk)} (h : orBad x e f = .float g) : ∃ y, x = some y ∧ f y = .float g := by
  cases x with
  | none => cases h
  | some y => exact ⟨y, rfl, h⟩
theorem orBad_eff {α : Type} {x : Option α} {e : String} {f : α → OpF} {g : Fr → St → M (V × St)} (h : orBad x e f = .eff g) : ∃ y, x = some y ∧ f y = .eff g := by
  cases x with
  | none => cases h
  | some y => exact ⟨y, rfl, h⟩

theorem fBuild_ok {o : Oper} {ty : TypeId} {parts : Array (Nat × Operand)} (ho : o.op = .build ty parts) {f : Fr → M V} (h : fBuild P ty parts.toList = .pure f) : PureOK P o f := by
  obtain ⟨z, hz, h⟩ := orBad_pure h
  obtain ⟨i, zu, hi, hzi, hzo⟩ := zeroT_ok hz
  intro ρ t a v hf hv
  have key : ∀ (place : Nat → Option (Nat × Nat)), gBuild place (cellsV z) parts.toList t = .ok v → (∀ cells, Instr.fill place zu.cells (parts.map fun (p : Nat × Operand) => (p.1, a.eval p.2)).toList = some cells → P.built ty (parts.map fun (p : Nat × Operand) => (p.1, a.eval p.2)).toList = some cells) →
      ∃ u, E ρ v u ∧ ∀ w, (execOp a.eval o).run P w = .ok (.value u) w := by
    intro place h hb
    unfold gBuild at h
    obtain ⟨ps, h1, h⟩ := M.bind_ok h
    obtain ⟨cs, h2, h⟩ := M.bind_ok h
    injection h with h; subst h
    obtain ⟨e1, e2⟩ := pairs_ok hf h1
    obtain ⟨rs, hr, he⟩ := fillV_ok (ρ := ρ) place (us := (parts.map fun (p : Nat × Operand) => (p.1, a.eval p.2)).toList) h2 (by rw [e1]; simp [Function.comp_def]) (by simpa [Function.comp_def] using e2) (E_cells (told_of hzo) (ofVal_ok hzo))
    refine ⟨.agg rs, by simp only [E]; exact ⟨rs.toList, by simp, he⟩, fun w => ?_⟩
    have hrun := run_build (P := P) w ty (parts.map fun (p : Nat × Operand) => (p.1, a.eval p.2)) rs (hb rs hr)
    simp only [execOp, ho]
    exact run_value hrun
  split at h
  · rename_i fs hu
    obtain ⟨ps, hp, h⟩ := orBad_pure h
    injection h with h; subst h
    refine key _ hv fun cells hc => ?_
    have hp' := places_ok hp
    unfold Program.built
    simp only [hi, hu, hzi, hp']
    rw [← hc]
    congr 1
    funext n
    exact (placeAt_eq ps n).symm
  · rename_i n e hu
    obtain ⟨sz, hs, h⟩ := orBad_pure h
    injection h with h; subst h
    obtain ⟨ie, hie, hsz⟩ := sizeT_ok hs
    refine key _ hv fun cells hc => ?_
    unfold Program.built
    simp only [hi, hu, hzi, hie]
    rw [← hc]
    congr 1
    funext n
    simp [placeMul, hsz]
  · cases h

theorem gNil_ok {o : Oper} {x : Operand} (ho : o.op = .nilCheck x) : PureOK P o (gNil x) := by
  intro ρ t a v hf h
  unfold gNil at h
  obtain ⟨b, h1, h⟩ := M.bind_ok h
  have e1 := ev_ok hf h1
  split at h
  · injection h with h; subst h
    have e2 := e1
    simp only [E] at e2; obtain ⟨l, hl, hu⟩ := e2
    exact ⟨_, e1, fun w => by simp [execOp, ho, hu]⟩
  · injection h with h; subst h
    have e2 := e1
    simp only [E] at e2; obtain ⟨us, hu, hl⟩ := e2
    exact ⟨_, e1, fun w => by simp [execOp, ho, hu]⟩
  · injection h with h; subst h
    have e2 := e1
    simp only [E] at e2; obtain ⟨us, hu, hl⟩ := e2
    exact ⟨_, e1, fun w => by simp [execOp, ho, hu]⟩
  · injection h with h; subst h
    have e2 := e1
    simp only [E] at e2
    exact ⟨_, e1, fun w => by simp [execOp, ho, e2]⟩
  · cases h

theorem fieldOf_ok {st : TypeId} {f : Nat} {fd : Field} (h : fieldOf P st f = some fd) : ∃ fs, P.underlying st = some (.struct fs) ∧ fs[f]? = some fd := by
  unfold fieldOf at h
  split at h
  · rename_i fs hu; exact ⟨fs, hu, h⟩
  · cases h
theorem Addr_add (b o n : Nat) : (⟨b, o, none⟩ : Addr).add n = ⟨b, o + n, none⟩ := by unfold Addr.add; split <;> simp_all
theorem gOff_ok {o : Oper} {st : TypeId} {x : Operand} {f : Nat} (ho : o.op = .fieldAddr st x f) {g : Fr → M V} (h : fFieldAddr P st x f = .pure g) : PureOK P o g := by
  obtain ⟨fd, hfd, h⟩ := orBad_pure h
  obtain ⟨fs, hu, hfs⟩ := fieldOf_ok hfd
  split at h
  · rename_i n hn
    injection h with h; subst h
    intro ρ t a v hf h
    unfold gOff at h
    obtain ⟨b, h1, h⟩ := M.bind_ok h
    have e1 := ev_ok hf h1
    split at h
    · injection h with h; subst h
      simp only [E] at e1; obtain ⟨l, hl, hu'⟩ := e1
      refine ⟨.pointer (some ⟨l.blk, l.off + (_ + fd.offset), none⟩), by simp only [E]; exact ⟨l, hl, rfl⟩, fun w => ?_⟩
      simp only [execOp, ho]
      refine run_value ?_
      have hne : ¬ (n + 1 = 0) := by omega
      simp [Instr.fieldAt, run_underlying hu, hfs, hu', Instr.sureAddr, fieldPlace, run_sizeT hn, Addr_add, Nat.add_assoc]
    · cases h
    · cases h
  · cases h

theorem run_part {ρ : Rho} {t : TypeId} {ag : Bool} {n off : Nat} {l : List V} {us : List Value} {v : V} (hn : sizeT P t = some n) (ha : isAggT P t = some ag) (he : EL ρ l us) (h : gPart ag off n l = .ok v) :
    ∃ u, E ρ v u ∧ ∀ w, (part t us.toArray off).run P w = .ok u w := by
  unfold gPart at h
  split at h
  · obtain ⟨c, h1, h⟩ := M.bind_ok h
    injection h with h; subst h
    rw [cut_eq h1]
    refine ⟨.agg ((us.drop off).take n).toArray, by simp only [E]; exact ⟨_, rfl, (he.drop off).take n⟩, fun w => ?_⟩
    simp only [part, Sem.run_bind, run_isAggT ha, Result.andThen_ok, if_true, run_sizeT hn, Sem.run_pure]
    congr 2
    apply Array.ext'
    simp [List.drop_take, Array.toList_extract]
  · have h := need_ok h
    rw [nthO_eq] at h
    obtain ⟨u, hu, e⟩ := he.at h
    refine ⟨u, e, fun w => ?_⟩
    simp [part, run_isAggT ha, hu]
theorem gField_ok {o : Oper} {st : TypeId} {x : Operand} {f : Nat} (ho : o.op = .field st x f) {g : Fr → M V} (h : fField P st x f = .pure g) : PureOK P o g := by
  obtain ⟨fd, hfd, h⟩ := orBad_pure h
  obtain ⟨fs, hu, hfs⟩ := fieldOf_ok hfd
  obtain ⟨n, hn, h⟩ := orBad_pure h
  obtain ⟨ag, ha, h⟩ := orBad_pure h
  injection h with h; subst h
  intro ρ t a v hf h
  unfold gField at h
  obtain ⟨b, h1, h⟩ := M.bind_ok h
  have e1 := ev_ok hf h1
  split at h
  · simp only [E] at e1; obtain ⟨us, hu', he⟩ := e1
    obtain ⟨u, hE, hr⟩ := run_part hn ha he h
    refine ⟨u, hE, fun w => ?_⟩
    simp only [execOp, ho]
    refine run_value ?_
    simp [Instr.field, run_underlying hu, hfs, hu', asAgg, hr]
  · cases h

theorem natI_ok {ρ : Rho} {v : V} {n : Nat} {u : Value} (h : natI v = .ok n) (e : E ρ v u) : ∃ k, u = .int k (n : Int) := by
  unfold natI at h
  split at h
  · injection h with h; subst h; simp only [E] at e; exact ⟨_, e⟩
  · cases h
theorem elemT_ok {t e : TypeId} {n : Nat} (h : elemT P t = some (e, n)) : 0 < n ∧ sizeT P e = some n ∧ (P.underlying t = some (.slice e) ∨ ∃ m, P.underlying t = some (.array m e)) := by
  unfold elemT at h
  split at h
  · rename_i d e' hu
    split at h
    · rename_i k hk
      injection h with h
      simp only [Prod.mk.injEq] at h; obtain ⟨rfl, rfl⟩ := h
      exact ⟨by omega, hk, Or.inl hu⟩
    · cases h
  · rename_i d m e' hu
    split at h
    · rename_i k hk
      injection h with h
      simp only [Prod.mk.injEq] at h; obtain ⟨rfl, rfl⟩ := h
      exact ⟨by omega, hk, Or.inr ⟨m, hu⟩⟩
    · cases h
  · cases h
theorem blt_lt {a b : Nat} (h : Nat.blt a b = true) : a < b := Nat.le_of_ble_eq_true h
theorem gIdx_ok {o : Oper} {ty : TypeId} {x ix : Operand} (ho : o.op = .indexAddr ty x ix) {g : Fr → M V} (h : fIndexAddr P ty x ix = .pure g) : PureOK P o g := by
  obtain ⟨⟨el, n⟩, hen, h⟩ := orBad_pure h
  obtain ⟨hn, hs, hcase⟩ := elemT_ok hen
  split at h
  · rename_i d e' hu
    have he : e' = el := by
      rcases hcase with hc | ⟨m, hc⟩
      · rw [hu] at hc; injection hc with hc; injection hc
      · rw [hu] at hc; injection hc with hc; cases hc
    subst he
    injection h with h; subst h
    intro ρ t a v hf h
    unfold gIdxSl at h
    obtain ⟨i0, h1, h⟩ := M.bind_ok h
    obtain ⟨i, h2, h⟩ := M.bind_ok h
    obtain ⟨b, h3, h⟩ := M.bind_ok h
    obtain ⟨k, hk⟩ := natI_ok h2 (ev_ok hf h1)
    have e1 := ev_ok hf h3
    split at h
    · rename_i b off len cap
      obtain ⟨hlt, h⟩ := ask_ok h
      injection h with h; subst h
      have hlt := blt_lt hlt
      have : ∃ l c, ρ b = some l ∧ a.eval x = .slice (some ⟨l.blk, l.off + off, none⟩) len c := by
        cases cap <;> (simp only [E] at e1; obtain ⟨l, hl, hu⟩ := e1; exact ⟨l, _, hl, hu⟩)
      obtain ⟨l, c, hl, hx⟩ := this
      refine ⟨.pointer (some ⟨l.blk, l.off + (off + i * n), none⟩), by simp only [E]; exact ⟨l, hl, rfl⟩, fun w => ?_⟩
      simp only [execOp, ho]
      refine run_value ?_
      simp [Instr.indexAt, run_underlying hu, hk, hx, asIntOf, run_sizeT hs, Addr_add, Nat.add_assoc]
      intro hh; omega
    · cases h
  · rename_i d m e' hu
    have he : e' = el := by
      rcases hcase with hc | ⟨m, hc⟩
      · rw [hu] at hc; injection hc with hc; cases hc
      · rw [hu] at hc; injection hc with hc; injection hc
    subst he
    injection h with h; subst h
    intro ρ t a v hf h
    unfold gIdxArr at h
    obtain ⟨i0, h1, h⟩ := M.bind_ok h
    obtain ⟨i, h2, h⟩ := M.bind_ok h
    obtain ⟨b, h3, h⟩ := M.bind_ok h
    obtain ⟨k, hk⟩ := natI_ok h2 (ev_ok hf h1)
    have e1 := ev_ok hf h3
    split at h
    · rename_i b off
      obtain ⟨hlt, h⟩ := ask_ok h
      injection h with h; subst h
      have hlt := blt_lt hlt
      simp only [E] at e1; obtain ⟨l, hl, hx⟩ := e1
      refine ⟨.pointer (some ⟨l.blk, l.off + (off + i * n), none⟩), by simp only [E]; exact ⟨l, hl, rfl⟩, fun w => ?_⟩
      simp only [execOp, ho]
      refine run_value ?_
      simp [Instr.indexAt, run_underlying hu, hk, hx, asIntOf, Instr.sureAddr, run_sizeT hs, Addr_add, Nat.add_assoc]
      intro hh; omega
    · cases h
    · cases h
  · cases h
theorem gIndex_ok {o : Oper} {ty : TypeId} {x ix : Operand} (ho : o.op = .index ty x ix) {g : Fr → M V} (h : fIndex P o ty x ix = .pure g) : PureOK P o g := by
  unfold fIndex at h
  split at h
  · rename_i m e hu
    obtain ⟨n, hn, h⟩ := orBad_pure h
    obtain ⟨ag, ha, h⟩ := orBad_pure h
    injection h with h; subst h
    intro ρ t a v hf h
    unfold gIndex at h
    obtain ⟨i0, h1, h⟩ := M.bind_ok h
    obtain ⟨i, h2, h⟩ := M.bind_ok h
    obtain ⟨b, h3, h⟩ := M.bind_ok h
    obtain ⟨k, hk⟩ := natI_ok h2 (ev_ok hf h1)
    have e1 := ev_ok hf h3
    split at h
    · obtain ⟨hlt, h⟩ := ask_ok h
      have hlt := blt_lt hlt
      simp only [E] at e1; obtain ⟨us, hx, he⟩ := e1
      obtain ⟨u, hE, hr⟩ := run_part hn ha he h
      refine ⟨u, hE, fun w => ?_⟩
      simp only [execOp, ho]
      refine run_value ?_
      simp [Instr.index, run_underlying hu, hk, hx, asIntOf, run_sizeT hn, hr]
      intro hh; omega
    · cases h
  · injection h with h; subst h
    exact pureOp_ok (by intro cs b; rw [ho]; simp)
theorem gFunc_ok {o : Oper} {fn : Fn} {first captured : Array Operand} (ho : o.op = .makeFunc fn first captured) {g : Fr → M V} (h : fFunc fn first captured = .pure g) : PureOK P o g := by
  unfold fFunc at h
  split at h
  · rename_i f hfirst
    injection h with h; subst h
    have hfirst : first = #[] := by cases first; simp_all
    subst hfirst
    intro ρ t a v hf h
    unfold gFunc at h
    obtain ⟨l, h1, h⟩ := M.bind_ok h
    injection h with h; subst h
    refine ⟨.func (.func f) #[] (captured.map a.eval), by simp only [E]; exact ⟨captured.toList.map a.eval, by apply congrArg; apply Array.ext'; simp, evs_ok hf h1⟩, fun w => ?_⟩
    simp [execOp, ho, Instr.makeFunc]
  · rename_i f x l hfirst
    injection h with h; subst h
    intro ρ t a v hf h
    unfold gMeth at h
    obtain ⟨la, h1, h⟩ := M.bind_ok h
    obtain ⟨lb, h2, h⟩ := M.bind_ok h
    injection h with h; subst h
    rw [← hfirst] at h1
    refine ⟨.func (.func f) (first.map a.eval) (captured.map a.eval), by simp only [E]; exact ⟨first.toList.map a.eval, captured.toList.map a.eval, by congr 1 <;> (apply Array.ext'; simp), evs_ok hf h1, evs_ok hf h2⟩, fun w => ?_⟩
    simp [execOp, ho, Instr.makeFunc]
  · cases h
theorem gIface_ok {o : Oper} {ty : TypeId} {x : Operand} (ho : o.op = .makeInterface ty x) {g : Fr → M V} (h : fIface P ty x = .pure g) : PureOK P o g := by
  unfold fIface at h
  split at h
  · cases h
  · cases h
  · rename_i hne1 hne2
    injection h with h; subst h
    intro ρ t a v hf h
    unfold gIface at h
    obtain ⟨v', h1, h⟩ := M.bind_ok h
    injection h with h; subst h
    refine ⟨.iface ty (a.eval x), by simp only [E]; exact ⟨_, rfl, ev_ok hf h1⟩, fun w => ?_⟩
    simp only [execOp, ho]
    refine run_value ?_
    cases hu : P.underlying ty with
    | none => exact absurd hu hne2
    | some d =>
      have hr := run_underlying hu w
      cases d <;> simp [Instr.makeInterface, hr]
      exact absurd hu (hne1 _)
theorem gExtract_ok {o : Oper} {x : Operand} {i : Nat} (ho : o.op = .extract x i) : PureOK P o (gExtract x i) := by
  intro ρ t a v hf h
  unfold gExtract at h
  obtain ⟨b, h1, h⟩ := M.bind_ok h
  have e1 := ev_ok hf h1
  split at h
  · simp only [E] at e1; obtain ⟨us, hu, he⟩ := e1
    have h := need_ok h
    rw [nthO_eq] at h
    obtain ⟨u, hu', e⟩ := he.at h
    exact ⟨u, e, fun w => by simp [execOp, ho, Instr.extract, hu, hu']⟩
  · cases h
theorem gNot_ok {o : Oper} {ty : TypeId} {x : Operand} (ho : o.op = .unOp .not ty x) : PureOK P o (gNot P o x) := by
  intro ρ t a v hf h
  unfold gNot at h
  obtain ⟨b, h1, h⟩ := M.bind_ok h
  have e1 := ev_ok hf h1
  split at h
  · rename_i q
    injection h with h; subst h
    simp only [E] at e1
    exact ⟨.bool (!q), by simp only [E], fun w => by simp [execOp, ho, Op.unary, e1]⟩
  · exact pureOp_ok (by intro cs b; rw [ho]; simp) ρ t a v hf h
end Go.Clo
