/- The interpreter of closed runs, a part of it. -/
import Derived.Test.YteojbichibdhjabGreatVK
namespace Go.Clo
set_option linter.unusedSimpArgs false
set_option linter.unusedVariables false
set_option linter.unnecessarySimpa false
open Go Go.RowKit

variable {P : Program}

theorem appendN_inv {s s' : St} {e sz n : Nat} {new : List V} {v : V} (h : appendN s e sz n new = .ok (v, s')) : (n = 0 ∧ v = .nils ∧ s' = s) ∨ (n ≠ 0 ∧ v = .sl s.size 0 n (.open_ 0) ∧ s' = s.alloc (.row new e sz false [])) := by
  unfold appendN at h
  cases hn : Nat.beq n 0 with
  | true => rw [hn] at h; injection h with h; simp only [Prod.mk.injEq] at h; exact Or.inl ⟨beq_eq hn, h.1.symm, h.2.symm⟩
  | false => rw [hn] at h; injection h with h; simp only [Prod.mk.injEq] at h; exact Or.inr ⟨beq_false hn, h.1.symm, h.2.symm⟩
theorem appendE_inv {s s' : St} {e sz b off len n k : Nat} {old new : List V} {v : V} (h : appendE s e sz b off len n k old new = .ok (v, s')) :
    (len + n ≤ k ∧ n = 0 ∧ v = .sl b off len (.exact k) ∧ s' = s) ∨ (len + n ≤ k ∧ s.store b (off + len * sz) new = .ok s' ∧ v = .sl b off (len + n) (.exact k)) ∨ (k < len + n ∧ v = .sl s.size 0 (len + n) (.open_ 0) ∧ s' = s.alloc (.row (old ++ new) e sz false [])) := by
  unfold appendE at h
  cases hk : Nat.ble (len + n) k with
  | true =>
    rw [hk] at h
    cases hn : Nat.beq n 0 with
    | true => rw [hn] at h; injection h with h; simp only [Prod.mk.injEq] at h; exact Or.inl ⟨ble_le hk, beq_eq hn, h.1.symm, h.2.symm⟩
    | false =>
      rw [hn] at h
      obtain ⟨s2, h1, h2⟩ := M.bind_ok h
      injection h2 with h2; simp only [Prod.mk.injEq] at h2; obtain ⟨rfl, rfl⟩ := h2
      exact Or.inr (Or.inl ⟨ble_le hk, h1, rfl⟩)
  | false => rw [hk] at h; injection h with h; simp only [Prod.mk.injEq, appN_eq] at h; exact Or.inr (Or.inr ⟨ble_false hk, h.1.symm, h.2.symm⟩)
theorem appendR_inv {s s' : St} {e sz b off len n : Nat} {c : List V} {ty : TypeId} {next : Bool} {anc : List Nat} {cap : Cap} {old new : List V} {v : V} (h : appendR s e sz b off len n c ty next anc cap old new = .ok (v, s')) :
    (off + (len + n) * sz ≤ c.length ∧ n = 0 ∧ v = .sl b off len cap ∧ s' = s) ∨ (off + (len + n) * sz ≤ c.length ∧ s.store b (off + len * sz) new = .ok s' ∧ v = .sl b off (len + n) cap) ∨
      (c.length < off + (len + n) * sz ∧ next = false ∧ off + len * sz = c.length ∧ flatL new = true ∧ v = .sl s.size 0 (len + n) (.open_ 0) ∧ s' = (s.put b (.row c ty sz true anc)).alloc (.row (old ++ new) e sz false (b :: anc))) := by
  unfold appendR at h
  cases hk : Nat.ble (off + (len + n) * sz) (lenN c) with
  | true =>
    rw [hk] at h
    have hk := ble_le hk
    rw [lenN_eq] at hk
    cases hn : Nat.beq n 0 with
    | true => rw [hn] at h; injection h with h; simp only [Prod.mk.injEq] at h; exact Or.inl ⟨hk, beq_eq hn, h.1.symm, h.2.symm⟩
    | false =>
      rw [hn] at h
      obtain ⟨s2, h1, h2⟩ := M.bind_ok h
      injection h2 with h2; simp only [Prod.mk.injEq] at h2; obtain ⟨rfl, rfl⟩ := h2
      exact Or.inr (Or.inl ⟨hk, h1, rfl⟩)
  | false =>
    rw [hk] at h
    have hk := ble_false hk
    rw [lenN_eq] at hk
    obtain ⟨h1, h⟩ := ask_ok h
    obtain ⟨h2, h3, h4⟩ := and3 h1
    have h3 := beq_eq h3
    rw [lenN_eq] at h3
    injection h with h; simp only [Prod.mk.injEq, appN_eq] at h
    exact Or.inr (Or.inr ⟨hk, by cases next <;> simp at h2 ⊢, h3, h4, h.1.symm, h.2.symm⟩)
theorem appendO_inv {s s' : St} {e sz b off len n : Nat} {cap : Cap} {old new : List V} {v : V} (h : appendO s e sz b off len n cap old new = .ok (v, s')) :
    ∃ c ty next anc k, s.get b = some (.row c ty sz next anc) ∧ cap = .open_ k ∧ off = k * sz ∧ appendR s e sz b off len n c ty next anc cap old new = .ok (v, s') := by
  unfold appendO at h
  cases hb : s.get b with
  | none => rw [hb] at h; cases h
  | some x =>
    rw [hb] at h
    cases x with
    | row c ty sz' next anc =>
      obtain ⟨h1, h⟩ := ask_ok h
      rw [Bool.and_eq_true] at h1
      have h2 := beq_eq h1.1
      subst h2
      cases cap with
      | exact k => cases h1.2
      | open_ k => exact ⟨c, ty, next, anc, k, rfl, rfl, beq_eq h1.2, h⟩
    | _ => cases h
/-- An append, where it is told what the operation makes of the model's memory. -/
theorem append_core {o : Oper} {a : Act} {W0 : World} {ρ : Rho} {s s' : St} {w : World} {x : Operand} {vx v : V} {n : Nat} {new : List V} {xs : List Value} {i : TypeInfo} {z : Value} {el' : TypeId} (hR : Rel W0 ρ s w) (ex : E ρ vx (a.eval x))
    (g1 : EL ρ new xs) (g2 : xs.length = n * i.size) (hsz : 0 < i.size) (hzs : z.cells.size = i.size) (hnewl : new.length = n * i.size)
    (Hnone : n = 0 → a.eval x = .slice none 0 0 → (execOp a.eval o).run P w = .ok (.value (.slice none 0 0)) w)
    (Hfit : ∀ ad sLen sCap w', a.eval x = .slice (some ad) sLen sCap → sLen + n ≤ sCap → (storeCells (ad.add (sLen * i.size)) xs).run P w = .ok () w' → (execOp a.eval o).run P w = .ok (.value (.slice (some ad) (sLen + n) sCap)) w')
    (Hgrow : ∀ base sLen sCap (os : List Value), a.eval x = .slice base sLen sCap → (Builtin.firstCells i.size sLen (.slice base sLen sCap)).run P w.drew = .ok os.toArray w.drew → sCap < sLen + n → sLen + n ≤ 1073741824 → (sLen + n) * i.bytes ≤ 1073741824 →
      (execOp a.eval o).run P w = .ok (.value (.slice (some ⟨w.heap.size, 0, none⟩) (sLen + n) (grownCap w (sLen + n) sCap el'))) (w.drew.alloc (.cells ((os ++ xs).toArray ++ Builtin.zeroCells z.cells (grownCap w (sLen + n) sCap el' - (sLen + n))) el')))
    (h : appendW s el' i.size i.bytes vx n new = .ok (v, s')) :
    ∃ (u : Value) (w' : World) (ρ' : Rho), ((execOp a.eval o).run P w = .ok (.value u) w' ∨ (execOp a.eval o).run P w = .ok .skip w' ∧ u = undef) ∧ Step W0 ρ s w ρ' s' w' ∧ E ρ' v u := by
  unfold appendW at h
  cases vx with
  | nils =>
    simp only [E] at ex
    obtain ⟨h5, h⟩ := ask_ok h
    rw [Bool.and_eq_true] at h5
    have h6 := ble_le h5.1
    have h7 := ble_le h5.2
    rcases appendN_inv h with ⟨rfl, rfl, rfl⟩ | ⟨hn, rfl, rfl⟩
    · refine ⟨.slice none 0 0, w, ρ, Or.inl ?_, Step.refl hR, by simp only [E]⟩
      exact Hnone rfl ex
    · have hk := grownCap_ge w (0 + n) 0 el'
      have hst := grown_row hR (e := el') (sz := i.size) (k := grownCap w (0 + n) 0 el') (need := 0 + n) (z := z) (by simpa using g1) hzs (by rw [hnewl, Nat.zero_add]) hk []
      refine ⟨.slice (some ⟨w.heap.size, 0, none⟩) (0 + n) (grownCap w (0 + n) 0 el'), _, _, Or.inl ?_, hst, ?_⟩
      · have := Hgrow none 0 0 [] ex (by simp [Builtin.firstCells]) (by omega) (by omega) (by rw [Nat.zero_add]; omega)
        simpa using this
      · simp only [E]
        exact ⟨_, Rho.upd_same _ _ _, by simp⟩
  | slz b off k =>
    obtain ⟨h5, h⟩ := ask_ok h
    rw [Bool.and_eq_true] at h5
    have h6 := ble_le h5.1
    have h7 := ble_le h5.2
    simp only [E] at ex
    obtain ⟨m, hm, p, hx, hp⟩ := ex
    unfold appendZ at h
    cases hb : s.get b with
    | none => rw [hb] at h; cases h
    | some blk =>
    rw [hb] at h
    cases blk with
    | row c cty sz' next anc =>
      simp only at h
      obtain ⟨h8, h9⟩ := ask_ok h
      clear h
      simp only [Bool.and_eq_true] at h8
      obtain ⟨⟨⟨⟨⟨k1, k2⟩, k3⟩, k4⟩, hfl⟩, k6⟩ := h8
      have k1 := beq_eq k1
      subst k1
      have hoff := beq_eq k2
      have k4 := beq_eq k4
      rw [lenN_eq] at k4
      have hnpos := blt_lt k6
      have hnext : next = false := by cases next <;> simp_all
      subst hnext
      injection h9 with h9
      simp only [Prod.mk.injEq] at h9
      obtain ⟨rfl, rfl⟩ := h9
      have hold : s.cells b off (0 * i.size) = .ok [] := by
        unfold St.cells
        rw [hb]
        show cut c off (0 * i.size) = .ok []
        rw [Nat.zero_mul]
        have : ∀ l : List V, ask (lenLe 0 l) "load outside" (M.ok (takeN l 0)) = .ok [] := fun l => by cases l <;> rfl
        exact this _
      have hos : ∀ (j : Nat) (u : Value), ([] : List Value)[j]? = some u → w.cell? ((⟨m.blk, m.off + off, none⟩ : Addr).add j) = some u := fun j u hu => by simp at hu
      by_cases hroom : 0 + n ≤ m.cap - k
      · have hpe := hp (by omega)
        subst hpe
        obtain ⟨w', hr, hst⟩ := inPlace (P := P) hR (e := el') hb hm hold EL.nil hos g1 hfl hoff (by rw [Nat.zero_mul, Nat.add_zero]; exact k4) hnewl hroom hnpos hsz
        refine ⟨_, w', ρ.upd s.size ⟨m.blk, m.off + off, m.cap - k⟩, Or.inl (Hfit _ _ _ _ hx hroom hr), ?_, ?_⟩
        · simpa using hst
        · simp only [E]
          exact ⟨_, Rho.upd_same _ _ _, by simp⟩
      · have hflag := Step.flag hR hb
        have hk := grownCap_ge w (0 + n) (m.cap - k) el'
        have hst := grown_row hflag.rel (e := el') (sz := i.size) (k := grownCap w (0 + n) (m.cap - k) el') (need := 0 + n) (z := z) (by simpa using g1) hzs (by rw [hnewl, Nat.zero_add]) hk (b :: anc)
        refine ⟨.slice (some ⟨w.heap.size, 0, none⟩) (0 + n) (grownCap w (0 + n) (m.cap - k) el'), _, _, Or.inl ?_, hflag.trans hst, ?_⟩
        · have := Hgrow (some p) 0 (m.cap - k) [] hx (by simp only [Builtin.firstCells, Nat.zero_mul]; exact run_loadCells_list _ _ [] (fun j u hu => by simp at hu)) (by omega) (by omega) (by rw [Nat.zero_add]; omega)
          simpa using this
        · simp only [E]
          exact ⟨_, Rho.upd_same _ _ _, by simp⟩
    | _ => cases h
  | sl b off len cap =>
    obtain ⟨h5, h⟩ := ask_ok h
    rw [Bool.and_eq_true] at h5
    have h6 := ble_le h5.1
    have h7 := ble_le h5.2
    obtain ⟨old, h8, h⟩ := M.bind_ok h
    have hb' : ∃ m c, ρ b = some m ∧ a.eval x = .slice (some ⟨m.blk, m.off + off, none⟩) len c := by cases cap <;> (simp only [E] at ex; obtain ⟨l, hl, he⟩ := ex; exact ⟨l, _, hl, he⟩)
    obtain ⟨m, sCap, hm, hx⟩ := hb'
    obtain ⟨os, q1, q2, q3⟩ := cells_ok hR hm h8
    have holdl : old.length = len * i.size := by rw [← q1.len]; exact q2
    have hofirst : ∀ (w' : World), w'.heap = w.heap → ∀ c, (Builtin.firstCells i.size len (.slice (some ⟨m.blk, m.off + off, none⟩) len c)).run P w' = .ok os.toArray w' := fun w' hw' c => by
      simp only [Builtin.firstCells]
      rw [← q2]
      exact run_loadCells_list w' _ os (fun j u hu => by simpa [World.cell?, hw'] using q3 j u hu)
    have hfull : ∀ (sCap : Nat), sCap < len + n → a.eval x = .slice (some ⟨m.blk, m.off + off, none⟩) len sCap → ∀ (S : St) (anc : List Nat), Rel W0 ρ S w → Step W0 ρ s w ρ S w →
        ∃ (u : Value) (w' : World) (ρ' : Rho), ((execOp a.eval o).run P w = .ok (.value u) w' ∨ (execOp a.eval o).run P w = .ok .skip w' ∧ u = undef) ∧ Step W0 ρ s w ρ' (S.alloc (.row (old ++ new) el' i.size false anc)) w' ∧ E ρ' (.sl S.size 0 (len + n) (.open_ 0)) u := by
      intro sCap hgt hx S anc hRS hSt
      have hk := grownCap_ge w (len + n) sCap el'
      have hst := grown_row hRS (e := el') (sz := i.size) (k := grownCap w (len + n) sCap el') (need := len + n) (z := z) (q1.app g1) hzs (by rw [List.length_append, holdl, hnewl, ← Nat.add_mul]) hk anc
      refine ⟨.slice (some ⟨w.heap.size, 0, none⟩) (len + n) (grownCap w (len + n) sCap el'), _, _, Or.inl ?_, hSt.trans hst, ?_⟩
      · exact Hgrow _ _ _ os hx (hofirst w.drew rfl sCap) hgt h7 h6
      · simp only [E]
        exact ⟨_, Rho.upd_same _ _ _, by simp⟩
    have hfit : ∀ (sCap : Nat), len + n ≤ sCap → a.eval x = .slice (some ⟨m.blk, m.off + off, none⟩) len sCap → ∀ {w' : World}, (storeCells ((⟨m.blk, m.off + off, none⟩ : Addr).add (len * i.size)) xs).run P w = .ok () w' →
        (execOp a.eval o).run P w = .ok (.value (.slice (some ⟨m.blk, m.off + off, none⟩) (len + n) sCap)) w' := by
      intro sCap hle hx w' hst
      exact Hfit _ _ _ _ hx hle hst
    have hempty : n = 0 → xs = [] := fun hn => by subst hn; exact List.eq_nil_of_length_eq_zero (by simpa using g2)
    cases cap with
    | exact k =>
      simp only [E] at ex; obtain ⟨m', hm', ex⟩ := ex
      rw [hm] at hm'; injection hm' with e; subst e
      rcases appendE_inv h with ⟨hle, rfl, rfl, rfl⟩ | ⟨hle, h9, rfl⟩ | ⟨hle, rfl, rfl⟩
      · refine ⟨_, w, ρ, Or.inl (hfit k hle ex (by rw [hempty rfl]; rfl)), Step.refl hR, ?_⟩
        simp only [E]; exact ⟨m, hm, rfl⟩
      · obtain ⟨w', hr, hst⟩ := store_ok (P := P) hR hm g1 h9
        refine ⟨_, w', ρ, Or.inl (hfit k hle ex (by rw [Addr_add, Nat.add_assoc]; exact hr)), hst, ?_⟩
        simp only [E]; exact ⟨m, hm, rfl⟩
      · exact hfull k hle ex s [] hR (Step.refl hR)
    | open_ j =>
      simp only [E] at ex; obtain ⟨m', hm', ex⟩ := ex
      rw [hm] at hm'; injection hm' with e; subst e
      obtain ⟨c, cty, next, anc, j', hb, hj, hoff, h⟩ := appendO_inv h
      injection hj with hj; subst hj
      obtain ⟨hbs, m', hm', hB, hlt, hok⟩ := hR.blk b _ hb
      rw [hm] at hm'; injection hm' with e; subst e
      obtain ⟨us, cty', hg, hE, hcap, hcl⟩ := hok
      have hroom' : off + (len + n) * i.size ≤ c.length → len + n ≤ m.cap - j := fun hle => by
        have h11 : (j + (len + n)) * i.size ≤ m.cap * i.size := by rw [Nat.add_mul, ← hoff]; exact Nat.le_trans hle hcl
        have := Nat.le_of_mul_le_mul_right h11 hsz
        omega
      rcases appendR_inv h with ⟨hle, rfl, rfl, rfl⟩ | ⟨hle, h12, rfl⟩ | ⟨hle, rfl, hend, hfl, rfl, rfl⟩
      · refine ⟨_, w, ρ, Or.inl (hfit _ (hroom' hle) ex (by rw [hempty rfl]; rfl)), Step.refl hR, ?_⟩
        simp only [E]; exact ⟨m, hm, rfl⟩
      · obtain ⟨w', hr, hst⟩ := store_ok (P := P) hR hm g1 h12
        refine ⟨_, w', ρ, Or.inl (hfit _ (hroom' hle) ex (by rw [Addr_add, Nat.add_assoc]; exact hr)), hst, ?_⟩
        simp only [E]; exact ⟨m, hm, rfl⟩
      · have hflag := Step.flag hR hb
        by_cases hroom : len + n ≤ m.cap - j
        · have hnpos : 0 < n := by
            rcases Nat.eq_zero_or_pos n with hn | hn
            · subst hn; rw [Nat.add_zero, hend] at hle; exact absurd hle (Nat.lt_irrefl _)
            · exact hn
          obtain ⟨w', hr, hst⟩ := inPlace (P := P) hR (e := el') hb hm h8 q1 q3 g1 hfl hoff hend hnewl hroom hnpos hsz
          refine ⟨_, w', _, Or.inl (hfit _ hroom ex hr), hst, ?_⟩
          simp only [E]
          exact ⟨_, Rho.upd_same _ _ _, by simp⟩
        · exact hfull _ (by omega) ex _ (b :: anc) hflag.rel hflag
  | _ => cases h
theorem fAppend_eff {o : Oper} {args : Array Operand} {tys : Array TypeId} (ho : o.op = .call { callee := .builtin .append, args, argTypes := tys }) {g : Fr → St → M (V × St)} (h : fAppend P tys.toList args.toList = .eff g) : EffOK P o g := by
  unfold fAppend at h
  split at h
  · rename_i ty ty' r x y hty ha
    split at h
    · rename_i hrow
      obtain ⟨⟨el, sz⟩, hen, h⟩ := orBad_eff h
      obtain ⟨by_, hby, h⟩ := orBad_eff h
      obtain ⟨zc, hzc, h⟩ := orBad_eff h
      obtain ⟨⟨el', hu⟩, h⟩ := isSlice_eff h
      obtain rfl := elem_slice hen hu
      injection h with h; subst h
      obtain ⟨hsz, hs, _⟩ := elemT_ok hen
      obtain rfl := toList_two ha
      have hu' := isRow_ok hrow
      have ht0 : tys[0]? = some ty := headTy hty
      have ht1 : tys[1]? = some ty' := by cases tys; simp at hty; subst hty; simp
      obtain ⟨i, z, hi, hz, hzl, hzE⟩ := zeroCells_ok hzc
      simp only at hzl
      have hzs : z.cells.size = sz := by have := (hzE (fun _ => none)).len; simp at this; omega
      have hisz : i.size = sz := by obtain ⟨i', h1, h2⟩ := sizeT_ok hs; rw [hi] at h1; injection h1 with h1; rw [h1]; exact h2
      have hiby : i.bytes = by_ := by unfold bytesT at hby; rw [hi] at hby; injection hby
      subst hisz
      subst hiby
      intro W0 ρ s w t a v s' hR hf h
      unfold gAppend at h
      obtain ⟨vx, h1, h⟩ := M.bind_ok h
      obtain ⟨vy, h2, h⟩ := M.bind_ok h
      have ex := ev_ok hf h1
      have ey := ev_ok hf h2
      unfold appendV at h
      obtain ⟨n, h3, h⟩ := M.bind_ok h
      obtain ⟨new, h4, h⟩ := M.bind_ok h
      obtain ⟨xs, g1, g2, g3⟩ := first_ok (P := P) hR hsz ey h4 (fun k hk => by rw [h3] at hk; injection hk with hk; omega)
      have hnewl : new.length = n * i.size := by rw [← g1.len]; exact g2
      obtain ⟨cst, hcs⟩ := run_builtin' (P := P) ho a
      have hly := fun w => lenV_ok (P := P) ey h3 w
      have hrun : ∀ {r : Value} {w' : World}, (Builtin.append_ tys o.type #[a.eval x, a.eval y]).run P w = .ok r w' → (execOp a.eval o).run P w = .ok (.value r) w' := fun hr => by
        rw [hcs]; simp [builtin, hr]
      exact append_core (P := P) hR ex g1 g2 hsz hzs hnewl
        (fun hn hx => hrun (by subst hn; rw [hx]; exact append_none ht0 ht1 hu hu' hs (hly w) (g3 w rfl)))
        (fun ad sLen sCap w' hx hle hst => hrun (by rw [hx]; exact append_fit ht0 ht1 hu hu' hs (hly w) (g3 w rfl) hle hst))
        (fun base sLen sCap os hx ho hgt h63 hb => hrun (by rw [hx]; exact append_grow (P := P) (rt := o.type) ht0 ht1 hu hu' hi hz (hly w) (drew_first g3) ho hgt h63 hb))
        h
    · split at h
      · rename_i kk hu'
        obtain ⟨⟨el, sz⟩, hen, h⟩ := orBad_eff h
        obtain ⟨by_, hby, h⟩ := orBad_eff h
        obtain ⟨zc, hzc, h⟩ := orBad_eff h
        obtain ⟨⟨el', hu⟩, h⟩ := isSlice_eff h
        obtain rfl := elem_slice hen hu
        injection h with h; subst h
        obtain ⟨hsz, hs, _⟩ := elemT_ok hen
        obtain rfl := toList_two ha
        have ht0 : tys[0]? = some ty := headTy hty
        have ht1 : tys[1]? = some ty' := by cases tys; simp at hty; subst hty; simp
        obtain ⟨i, z, hi, hz, hzl, hzE⟩ := zeroCells_ok hzc
        simp only at hzl
        have hzs : z.cells.size = sz := by have := (hzE (fun _ => none)).len; simp at this; omega
        have hisz : i.size = sz := by obtain ⟨i', h1, h2⟩ := sizeT_ok hs; rw [hi] at h1; injection h1 with h1; rw [h1]; exact h2
        have hiby : i.bytes = by_ := by unfold bytesT at hby; rw [hi] at hby; injection hby
        subst hisz
        subst hiby
        intro W0 ρ s w t a v s' hR hf h
        unfold gAppendZ at h
        obtain ⟨vx, h1, h⟩ := M.bind_ok h
        obtain ⟨vy, h2, h⟩ := M.bind_ok h
        obtain ⟨n, h3, h⟩ := M.bind_ok h
        have ex := ev_ok hf h1
        obtain ⟨k, hy⟩ := natI_ok h3 (ev_ok hf h2)
        obtain ⟨cst, hcs⟩ := run_builtin' (P := P) ho a
        have hrun : ∀ {r : Value} {w' : World}, (Builtin.append_ tys o.type #[a.eval x, .int k n]).run P w = .ok r w' → (execOp a.eval o).run P w = .ok (.value r) w' := fun hr => by
          rw [hcs]; simp [builtin, hy, hr]
        have hmade := EL_made (hzE ρ) (by omega) n
        have hnb : n ≤ 1073741824 ∧ n * i.bytes ≤ 1073741824 := by
          unfold appendW at h
          cases vx with
          | nils =>
            obtain ⟨h5, _⟩ := ask_ok h
            rw [Bool.and_eq_true] at h5
            exact ⟨ble_le h5.2, ble_le h5.1⟩
          | sl b off len cap =>
            obtain ⟨h5, _⟩ := ask_ok h
            rw [Bool.and_eq_true] at h5
            have h6 := ble_le h5.1
            have h7 := ble_le h5.2
            refine ⟨by omega, Nat.le_trans (Nat.mul_le_mul_right _ (by omega)) h6⟩
          | slz b off k =>
            obtain ⟨h5, _⟩ := ask_ok h
            rw [Bool.and_eq_true] at h5
            exact ⟨ble_le h5.2, ble_le h5.1⟩
          | _ => cases h
        have hxs : (repl n zc).length = n * i.size := by rw [← hmade.len]; simp [madeCells, hzl]
        refine append_core (P := P) (xs := (Builtin.zeroCells z.cells n).toList) hR ex ?_ ?_ hsz hzs hxs
          (fun hn hx => hrun (by subst hn; rw [hx]; exact append_noneZ ht0 ht1 hu hu' hi))
          (fun ad sLen sCap w' hx hle hst => hrun (by rw [hx]; exact append_fitZ ht0 ht1 hu hu' hi hz hzs hnb.1 hnb.2 hle hst))
          (fun base sLen sCap os hx ho hgt h63 hb => hrun (by rw [hx]; exact append_growZ ht0 ht1 hu hu' hi hz hzs ho hgt h63 hb))
          h
        · rw [zeroCells_made, hzs, ← hzl]; exact hmade
        · rw [zeroCells_made]; simp [madeCells, hzs]
      · cases h
  · cases h
end Go.Clo
