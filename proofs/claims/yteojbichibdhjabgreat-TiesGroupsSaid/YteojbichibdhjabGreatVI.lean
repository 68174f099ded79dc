/- The interpreter of closed runs, a part of it. -/
import Derived.Test.YteojbichibdhjabGreatVH
namespace Go.Clo
set_option linter.unusedSimpArgs false
set_option linter.unusedVariables false
set_option linter.unnecessarySimpa false
open Go Go.RowKit

variable {P : Program}

/-- An operation that changes memory. -/
def EffOK (P : Program) (o : Oper) (f : Fr → St → M (V × St)) : Prop :=
  ∀ (W0 : World) (ρ : Rho) (s : St) (w : World) (t : Fr) (a : Act) (v : V) (s' : St), Rel W0 ρ s w → FrE ρ t a.tmps → f t s = .ok (v, s') →
    ∃ (u : Value) (w' : World) (ρ' : Rho), ((execOp a.eval o).run P w = .ok (.value u) w' ∨ (execOp a.eval o).run P w = .ok .skip w' ∧ u = undef) ∧ Step W0 ρ s w ρ' s' w' ∧ E ρ' v u

theorem flat1_ok {ρ : Rho} {v : V} {u : Value} (h : flat1 v = true) (e : E ρ v u) : u.oneCell' = true := by
  cases v with
  | agg l => cases h
  | tup l => cases h
  | any => simp only [E] at e; cases u <;> first | rfl | exact absurd rfl (e.2.1 _) | exact absurd rfl (e.2.2 _)
  | fn f l => simp only [E] at e; obtain ⟨us, rfl, _⟩ := e; rfl
  | mfn f a c => simp only [E] at e; obtain ⟨us, ws, rfl, _, _⟩ := e; rfl
  | sl b o n c => cases c <;> (simp only [E] at e; obtain ⟨l, _, rfl⟩ := e; rfl)
  | ptr b o => simp only [E] at e; obtain ⟨l, _, rfl⟩ := e; rfl
  | map b => simp only [E] at e; obtain ⟨l, _, rfl⟩ := e; rfl
  | ifc t v => simp only [E] at e; obtain ⟨l, rfl, _⟩ := e; rfl
  | slz b o k => simp only [E] at e; obtain ⟨l, _, p, rfl, _⟩ := e; rfl
  | yld b => simp only [E] at e; obtain ⟨l, _, rfl⟩ := e; rfl
  | _ => simp only [E] at e; subst e; rfl
theorem flatL_cons (v : V) (l : List V) : flatL (v :: l) = true → flat1 v = true ∧ flatL l = true := by
  intro h
  have h : Bool.rec (motive := fun _ => Bool) false (flatL l) (flat1 v) = true := h
  cases hv : flat1 v with
  | true => rw [hv] at h; exact ⟨rfl, h⟩
  | false => rw [hv] at h; cases h
theorem flatL_ok {ρ : Rho} : ∀ {l : List V} {us : List Value}, flatL l = true → EL ρ l us → ∀ u ∈ us, u.oneCell' = true
  | [], us, _, e, u, hu => by rw [EL.nil_inv e] at hu; cases hu
  | v :: l, us, h, e, u, hu => by
    obtain ⟨h1, h2⟩ := flatL_cons v l h
    obtain ⟨x, r, rfl, e1, e2⟩ := EL.cons_inv e
    rcases List.mem_cons.1 hu with rfl | hu
    · exact flat1_ok h1 e1
    · exact flatL_ok h2 e2 u hu

theorem get_kill1 (t : Tr Blk) (i c : Nat) : (kill1 t i).get c = if c = i ∧ (t.get i).isSome then some .dead else t.get c := by
  unfold kill1
  cases h : t.get i with
  | none => simp
  | some y => simp only [Tr.get_set, Option.isSome_some, and_true]
theorem get_killL : ∀ (L : List Nat) (t : Tr Blk) (c : Nat), (killL t L).get c = if c ∈ L ∧ (t.get c).isSome then some .dead else t.get c
  | [], t, c => by simp [killL]
  | i :: L, t, c => by
    show (killL (kill1 t i) L).get c = _
    rw [get_killL L (kill1 t i) c, get_kill1]
    by_cases hci : c = i
    · subst hci
      cases h : t.get c with
      | none => simp [h]
      | some y => simp [h]
    · simp [hci]

theorem row_over {ρ : Rho} {c l : List V} {us xs : List Value} {o off : Nat} (h : ∀ (i : Nat) (v : V), c[i]? = some v → ∃ u, us[o + i]? = some u ∧ E ρ v u) (hl : EL ρ l xs) (h1 : off + l.length ≤ c.length) (h2 : o + c.length ≤ us.length) :
    ∀ (i : Nat) (v : V), (c.take off ++ l ++ c.drop (off + l.length))[i]? = some v → ∃ u, (us.take (o + off) ++ xs ++ us.drop (o + off + xs.length))[o + i]? = some u ∧ E ρ v u := by
  intro i v hv
  have hx := hl.len
  by_cases hi : i < off
  · rw [List.append_assoc, List.getElem?_append_left (by simp; omega), List.getElem?_take, if_pos hi] at hv
    obtain ⟨u, hu, he⟩ := h i v hv
    refine ⟨u, ?_, he⟩
    rw [List.append_assoc, List.getElem?_append_left (by simp; omega), List.getElem?_take, if_pos (by omega)]
    exact hu
  · by_cases hi2 : i < off + l.length
    · rw [List.getElem?_append_left (by simp; omega), List.getElem?_append_right (by simp; omega)] at hv
      simp only [List.length_take] at hv
      rw [show min off c.length = off by omega] at hv
      obtain ⟨u, hu, he⟩ := hl.at hv
      refine ⟨u, ?_, he⟩
      rw [List.getElem?_append_left (by simp; omega), List.getElem?_append_right (by simp; omega)]
      simp only [List.length_take]
      rw [show min (o + off) us.length = o + off by omega, show o + i - (o + off) = i - off by omega]
      exact hu
    · rw [List.getElem?_append_right (by simp; omega)] at hv
      simp only [List.length_append, List.length_take, List.getElem?_drop] at hv
      rw [show off + l.length + (i - (min off c.length + l.length)) = i by omega] at hv
      obtain ⟨u, hu, he⟩ := h i v hv
      refine ⟨u, ?_, he⟩
      rw [List.getElem?_append_right (by simp; omega)]
      simp only [List.length_append, List.length_take, List.getElem?_drop]
      rw [show o + off + xs.length + (o + i - (min (o + off) us.length + xs.length)) = o + i by omega]
      exact hu
theorem Below.row {B : Nat} {W0 w : World} (h : Below B W0 w) {g : Nat} (hg : B ≤ g) (cs : Array Value) : Below B W0 (w.setRow g cs) :=
  ⟨h.os, h.tape, h.output, by simp only [World.setRow, Array.size_modify]; exact h.size, fun k hk => by rw [setRow_other w g k cs (by omega)]; exact h.block k hk⟩
theorem size_setRow (w : World) (g : Nat) (cs : Array Value) : (w.setRow g cs).heap.size = w.heap.size := by simp [World.setRow]

/-- A store. -/
theorem store_ok {W0 : World} {ρ : Rho} {s s' : St} {w : World} (hR : Rel W0 ρ s w) {b off : Nat} {l : List V} {xs : List Value} {m : Loc} (hm : ρ b = some m) (hl : EL ρ l xs) (h : s.store b off l = .ok s') :
    ∃ w', (storeCells ⟨m.blk, m.off + off, none⟩ xs).run P w = .ok () w' ∧ Step W0 ρ s w ρ s' w' := by
  obtain ⟨hflat, h⟩ := ask_ok h
  have h1 := flatL_ok hflat hl
  have hlen := hl.len
  split at h
  · rename_i c ty hb
    obtain ⟨c', h2, h⟩ := M.bind_ok h
    injection h with h; subst h
    obtain ⟨_, l', hl', hB, hlt, hok⟩ := hR.blk b _ hb
    have hB : W0.heap.size ≤ l'.blk := hB
    rw [hm] at hl'; injection hl' with e; subst e
    obtain ⟨h0, us, hg, hE⟩ := hok
    obtain ⟨e1, e2⟩ := over_eq h2
    have hul := hE.len
    have hdis : ∀ c y k, c ≠ b → (s.put b (.cells c' ty)).get c = some y → y.alive → ρ c = some k → k.blk = m.blk → False := fun d y k hne hd hy hk hblk => by
      rw [St.get_put, if_neg hne] at hd
      rcases hR.dis d b y _ k m hd hb hy trivial hk hm hne hblk with hu | hu
      · cases y <;> exact hu
      · exact hu
    rcases e2 with e2 | e2
    · have hrun := run_storeCells_at P m.blk (m.off + off) ty xs 0 us.toArray w hg (by simp; omega) h1
      refine ⟨_, hrun, Step.write (x' := .cells c' ty) hR hb trivial trivial hm rfl (fun c hc => Or.inl (by rw [St.get_put, if_neg hc])) (by rw [St.get_put, if_pos rfl]) (Below.row hR.below hB _) (size_setRow _ _ _) (fun r hr => setRow_other w _ r _ hr) ?_ (fun d y k hne hd hy hk hblk => (hdis d y k hne hd hy hk hblk).elim)⟩
      refine ⟨h0, _, setRow_heap w m.blk _ _ ty _ hg, ?_⟩
      have := EL.over h2 hE hl
      rw [h0]
      simpa using this
    · subst e2
      have hx : xs = [] := EL.nil_inv hl
      subst hx
      have : c' = c := by rw [e1]; simp
      subst this
      refine ⟨w, rfl, Step.write (x' := .cells c' ty) hR hb trivial trivial hm rfl (fun d hd => Or.inl (by rw [St.get_put, if_neg hd])) (by rw [St.get_put, if_pos rfl]) hR.below rfl (fun _ _ => rfl) ⟨h0, us, hg, hE⟩ (fun d y k hne hd hy hk hblk => (hdis d y k hne hd hy hk hblk).elim)⟩
  · rename_i c ty sz next anc hb
    split at h
    · cases h
    · obtain ⟨c', h2, h⟩ := M.bind_ok h
      injection h with h; subst h
      obtain ⟨_, l', hl', hB, hlt, hok⟩ := hR.blk b _ hb
      have hB : W0.heap.size ≤ l'.blk := hB
      rw [hm] at hl'; injection hl' with e; subst e
      obtain ⟨us, ty', hg, hE, hcap, hcl⟩ := hok
      obtain ⟨e1, e2⟩ := over_eq h2
      have hgetO : ∀ d, d ≠ b → (St.put ⟨killL s.mem anc, s.size⟩ b (.row c' ty sz false [])).get d = if d ∈ anc ∧ (s.get d).isSome then some .dead else s.get d := fun d hd => by
        rw [St.get_put, if_neg hd]; exact get_killL anc s.mem d
      have hget : ∀ d, d ≠ b → (St.put ⟨killL s.mem anc, s.size⟩ b (.row c' ty sz false [])).get d = s.get d ∨ ((St.put ⟨killL s.mem anc, s.size⟩ b (.row c' ty sz false [])).get d = some .dead ∧ ∃ y, s.get d = some y) := fun d hd => by
        rw [hgetO d hd]
        by_cases hk : d ∈ anc ∧ (s.get d).isSome
        · rw [if_pos hk]; exact Or.inr ⟨rfl, Option.isSome_iff_exists.1 hk.2⟩
        · rw [if_neg hk]; exact Or.inl rfl
      have hdis : ∀ d y k, d ≠ b → (St.put ⟨killL s.mem anc, s.size⟩ b (.row c' ty sz false [])).get d = some y → y.alive → ρ d = some k → k.blk = m.blk → False := fun d y k hne hd hy hk hblk => by
        rw [hgetO d hne] at hd
        by_cases hka : d ∈ anc ∧ (s.get d).isSome
        · rw [if_pos hka] at hd; injection hd with hd; subst hd; exact hy
        · rw [if_neg hka] at hd
          rcases hR.dis d b y _ k m hd hb hy trivial hk hm hne hblk with hu | hu
          · cases y with
            | row cy ty1 sz1 nx1 an1 => exact hka ⟨hu.2.1, by rw [hd]; rfl⟩
            | _ => exact hu
          · cases y with
            | row cy ty1 sz1 nx1 an1 => have := hu.1; cases this
            | _ => exact hu
      rcases e2 with e2 | e2
      · have hrun := run_storeCells_at P m.blk (m.off + off) ty' xs 0 us.toArray w hg (by simp; omega) h1
        refine ⟨_, hrun, Step.write (x' := .row c' ty sz false []) hR hb trivial trivial hm rfl hget (by rw [St.get_put, if_pos rfl]) (Below.row hR.below hB _) (size_setRow _ _ _) (fun r hr => setRow_other w _ r _ hr) ?_ (fun d y k hne hd hy hk hblk => (hdis d y k hne hd hy hk hblk).elim)⟩
        refine ⟨_, ty', setRow_heap w m.blk _ _ ty' _ hg, ?_, ?_, ?_⟩
        · rw [e1]
          have := row_over hE hl e2 (by omega : m.off + c.length ≤ us.length)
          simpa using this
        · simp; omega
        · rw [over_len h2]; exact hcl
      · subst e2
        have hx : xs = [] := EL.nil_inv hl
        subst hx
        have : c' = c := by rw [e1]; simp
        subst this
        exact ⟨w, rfl, Step.write (x' := .row c' ty sz false []) hR hb trivial trivial hm rfl hget (by rw [St.get_put, if_pos rfl]) hR.below rfl (fun _ _ => rfl) ⟨us, ty', hg, hE, hcap, hcl⟩ (fun d y k hne hd hy hk hblk => (hdis d y k hne hd hy hk hblk).elim)⟩
  · cases h

theorem fStore_eff {o : Oper} {ty : TypeId} {x y : Operand} (ho : o.op = .store ty x y) {g : Fr → St → M (V × St)} (h : fStore P ty x y = .eff g) : EffOK P o g := by
  obtain ⟨n, hn, h⟩ := orBad_eff h
  injection h with h; subst h
  intro W0 ρ s w t a v s' hR hf h
  unfold gStore at h
  obtain ⟨p, h1, h⟩ := M.bind_ok h
  have e1 := ev_ok hf h1
  split at h
  · obtain ⟨q, h2, h⟩ := M.bind_ok h
    obtain ⟨htold, h⟩ := ask_ok h
    obtain ⟨h3, h⟩ := ask_ok h
    obtain ⟨s2, h4, h⟩ := M.bind_ok h
    injection h with h
    simp only [Prod.mk.injEq] at h
    obtain ⟨rfl, rfl⟩ := h
    have e2 := ev_ok hf h2
    simp only [E] at e1; obtain ⟨l, hl, hx⟩ := e1
    have hc := E_cells htold e2
    obtain ⟨w', hr, hst⟩ := store_ok (P := P) hR hl hc h4
    refine ⟨undef, w', ρ, Or.inr ⟨?_, rfl⟩, hst, E_undef⟩
    have hsz : (a.eval y).cells.size = n := by
      have := hc.len
      have h3 := beq_eq h3
      rw [lenN_eq] at h3
      simp at this; omega
    simp [execOp, ho, Instr.storeAt, hx, Instr.sureAddr, storeVar, hsz, run_sizeT hn, hr]
  · cases h

/-- The first cells of a slice or a text. -/
theorem bytesV_ok {ρ : Rho} : ∀ (l : List UInt8), EL ρ (bytesV l) (l.map fun b => Value.int .u8 (b.toNat : Int))
  | [] => EL.nil
  | b :: l => EL.cons (by simp only [E]; rfl) (bytesV_ok l)
theorem first_ok {W0 : World} {ρ : Rho} {s : St} {w : World} (hR : Rel W0 ρ s w) {sz n : Nat} {y : V} {cs : List V} {u : Value} (hsz : 0 < sz) (he : E ρ y u) (h : firstV s sz n y = .ok cs) (hn : ∀ k, lenV y = .ok k → n ≤ k) :
    ∃ xs : List Value, EL ρ cs xs ∧ xs.length = n * sz ∧ ∀ w' : World, w'.heap = w.heap → (Builtin.firstCells sz n u).run P w' = .ok xs.toArray w' := by
  unfold firstV at h
  split at h
  · rename_i b off len cap
    obtain ⟨h1, h2⟩ := ask_ok h
    have : ∃ l c, ρ b = some l ∧ u = .slice (some ⟨l.blk, l.off + off, none⟩) len c := by cases cap <;> (simp only [E] at he; obtain ⟨l, hl, he⟩ := he; exact ⟨l, _, hl, he⟩)
    obtain ⟨l, c, hl, hu⟩ := this
    obtain ⟨us, h3, h4, h5⟩ := cells_ok hR hl h2
    refine ⟨us, h3, h4, fun w' hw' => ?_⟩
    subst hu
    simp only [Builtin.firstCells]
    rw [← h4]
    exact run_loadCells_list w' _ us (fun j v hv => by
      have := h5 j v hv
      simpa [World.cell?, hw'] using this)
  · obtain ⟨h1, h2⟩ := ask_ok h
    injection h2 with h2; subst h2
    have h1 := beq_eq h1
    subst h1
    simp only [E] at he; subst he
    exact ⟨[], EL.nil, by simp, fun w' _ => by simp [Builtin.firstCells]⟩
  · obtain ⟨h1, h2⟩ := ask_ok h
    injection h2 with h2; subst h2
    have h1 := beq_eq h1
    subst h1
    simp only [E] at he; obtain ⟨_, _, ad, rfl, _⟩ := he
    refine ⟨[], EL.nil, by simp, fun w' _ => ?_⟩
    simp only [Builtin.firstCells]
    have := run_loadCells_list (P := P) w' ad [] (fun j v hj => by simp at hj)
    simpa using this
  · rename_i x
    obtain ⟨h1, h2⟩ := ask_ok h
    have h1 := beq_eq h1
    subst h1
    injection h2 with h2; subst h2
    simp only [E] at he; subst he
    have hle := hn x.size rfl
    rw [takeN_eq]
    refine ⟨_, (bytesV_ok x.data.toList).take n, by simp; omega, fun w' _ => ?_⟩
    simp only [Builtin.firstCells, Sem.run_pure]
    congr 1
    apply Array.ext'
    simp [ByteArray.data_extract, List.map_take]
  · cases h
theorem lenV_ok {ρ : Rho} {y : V} {n : Nat} {u : Value} (he : E ρ y u) (h : lenV y = .ok n) (w : World) : (Builtin.lenOf u).run P w = .ok n w := by
  unfold lenV at h
  split at h
  · rename_i b off len cap
    injection h with h; subst h
    have : ∃ l c, u = .slice l len c := by cases cap <;> (simp only [E] at he; obtain ⟨l, hl, he⟩ := he; exact ⟨_, _, he⟩)
    obtain ⟨l, c, rfl⟩ := this
    rfl
  · injection h with h; subst h; simp only [E] at he; subst he; rfl
  · injection h with h; subst h; simp only [E] at he; obtain ⟨_, _, ad, rfl, _⟩ := he; rfl
  · injection h with h; subst h; simp only [E] at he; subst he; rfl
  · cases h
theorem headTy {tys : Array TypeId} {ty : TypeId} {r : List TypeId} (h : tys.toList = ty :: r) : tys[0]? = some ty := by cases tys; simp_all
theorem fCopy_eff {o : Oper} {args : Array Operand} {tys : Array TypeId} (ho : o.op = .call { callee := .builtin .copy, args, argTypes := tys }) {g : Fr → St → M (V × St)} (h : fCopy P tys.toList args.toList = .eff g) : EffOK P o g := by
  unfold fCopy at h
  split at h
  · rename_i ty r x y hty ha
    obtain ⟨⟨el, n⟩, hen, h⟩ := orBad_eff h
    obtain ⟨⟨el', hu⟩, h⟩ := isSlice_eff h
    obtain rfl := elem_slice hen hu
    injection h with h; subst h
    obtain ⟨hn, hs, _⟩ := elemT_ok hen
    obtain rfl := toList_two ha
    intro W0 ρ s w t a v s' hR hf h
    unfold gCopy at h
    obtain ⟨vx, h1, h⟩ := M.bind_ok h
    obtain ⟨vy, h2, h⟩ := M.bind_ok h
    obtain ⟨ly, h3, h⟩ := M.bind_ok h
    obtain ⟨lx, h4, h⟩ := M.bind_ok h
    obtain ⟨cs, h5, h⟩ := M.bind_ok h
    have ex := ev_ok hf h1
    have ey := ev_ok hf h2
    obtain ⟨xs, g1, g2, g3⟩ := first_ok (P := P) hR hn ey h5 (fun k hk => by rw [h3] at hk; injection hk with hk; subst hk; exact Nat.min_le_left _ _)
    obtain ⟨cst, hcs⟩ := run_builtin' (P := P) ho a
    have hly := fun w => lenV_ok (P := P) ey h3 w
    cases vx with
    | sl b off len cap =>
      obtain ⟨s2, h6, h⟩ := M.bind_ok h
      injection h with h
      simp only [Prod.mk.injEq] at h
      obtain ⟨rfl, rfl⟩ := h
      have : ∃ l c, ρ b = some l ∧ a.eval x = .slice (some ⟨l.blk, l.off + off, none⟩) len c := by cases cap <;> (simp only [E] at ex; obtain ⟨l, hl, he⟩ := ex; exact ⟨l, _, hl, he⟩)
      obtain ⟨l, c, hl, hx⟩ := this
      simp only [lenV] at h4; injection h4 with h4; subst h4
      obtain ⟨w', hr, hst⟩ := store_ok (P := P) hR hl g1 h6
      refine ⟨_, w', ρ, Or.inl ?_, hst, by simp only [E]; rfl⟩
      rw [hcs]
      simp [builtin, Builtin.copy_, headTy hty, run_underlying hu, hx, hly, run_sizeT hs, g3 w rfl, hr, goInt]
    | nils =>
      injection h with h
      simp only [Prod.mk.injEq] at h
      obtain ⟨rfl, rfl⟩ := h
      simp only [lenV] at h4; injection h4 with h4; subst h4
      simp only [E] at ex
      refine ⟨_, w, ρ, Or.inl ?_, Step.refl hR, by simp only [E]; rfl⟩
      rw [hcs]
      have hg3 := g3 w rfl
      rw [show ly.min 0 = 0 from Nat.min_zero ly] at hg3
      simp [builtin, Builtin.copy_, headTy hty, run_underlying hu, ex, hly, run_sizeT hs, hg3, goInt]
    | _ => cases h
  · cases h
theorem fClear_eff {o : Oper} {args : Array Operand} {tys : Array TypeId} (ho : o.op = .call { callee := .builtin .clear, args, argTypes := tys }) {g : Fr → St → M (V × St)} (h : fClear P tys.toList args.toList = .eff g) : EffOK P o g := by
  unfold fClear at h
  split at h
  · rename_i ty r x hty ha
    obtain ⟨⟨el, n⟩, hen, k1⟩ := orBad_eff h
    obtain ⟨z, hz, k2⟩ := orBad_eff k1
    obtain ⟨⟨el', hu⟩, k3⟩ := isSlice_eff k2
    injection k3 with k3; subst k3
    obtain rfl := elem_slice hen hu
    obtain ⟨hn, hs, _⟩ := elemT_ok hen
    obtain rfl := toList_one ha
    obtain ⟨i, zu, hi, hzi, hzl, hzE⟩ := zeroCells_ok hz
    simp only at hzl
    intro W0 ρ s w t a v s' hR hf h
    unfold gClear at h
    obtain ⟨vx, h1, h⟩ := M.bind_ok h
    have ex := ev_ok hf h1
    obtain ⟨cst, hcs⟩ := run_builtin' (P := P) ho a
    cases vx with
    | nils =>
      have h : M.ok (V.tup [], s) = M.ok (v, s') := h
      injection h with h
      simp only [Prod.mk.injEq] at h
      obtain ⟨rfl, rfl⟩ := h
      simp only [E] at ex
      refine ⟨.tuple #[], w, ρ, Or.inl ?_, Step.refl hR, by simp only [E]; exact ⟨[], rfl, EL.nil⟩⟩
      rw [hcs]
      simp [builtin, Builtin.clear_, headTy hty, run_underlying hu, ex]
    | sl b off len cap =>
      obtain ⟨h2, h⟩ := ask_ok h
      have h2 := blt_lt h2
      obtain ⟨s2, h6, h⟩ := M.bind_ok h
      injection h with h
      simp only [Prod.mk.injEq] at h
      obtain ⟨rfl, rfl⟩ := h
      have : ∃ l c, ρ b = some l ∧ a.eval x = .slice (some ⟨l.blk, l.off + off, none⟩) len c := by cases cap <;> (simp only [E] at ex; obtain ⟨l, hl, he⟩ := ex; exact ⟨l, _, hl, he⟩)
      obtain ⟨l, c, hl, hx⟩ := this
      have hmade := EL_made (hzE ρ) (by omega) len
      obtain ⟨w', hr, hst⟩ := store_ok (P := P) hR hl hmade h6
      refine ⟨.tuple #[], w', ρ, Or.inl ?_, hst, by simp only [E]; exact ⟨[], rfl, EL.nil⟩⟩
      obtain ⟨m, rfl⟩ : ∃ m, len = m + 1 := ⟨len - 1, by omega⟩
      have hsz : zu.cells.size = z.length := by rw [← (hzE ρ).len]; simp
      have hr' : (storeCells ⟨l.blk, l.off + off, none⟩ (Builtin.zeroCells zu.cells (m + 1)).toList).run P w = .ok () w' := by
        unfold Builtin.zeroCells
        rw [← hsz] at hr; exact hr
      rw [hcs]
      simp [builtin, Builtin.clear_, headTy hty, run_underlying hu, hx, zeroValue, typeInfo, hi, hzi, hr']
    | _ => cases h
  · cases h
end Go.Clo
