/- The interpreter of closed runs, a part of it. -/
import Derived.Test.YteojbichibdhjabGreatVJ
namespace Go.Clo
set_option linter.unusedSimpArgs false
set_option linter.unusedVariables false
set_option linter.unnecessarySimpa false
open Go Go.RowKit

variable {P : Program}

theorem isRow_ok {ty : TypeId} (h : isRow P (some ty) = true) : (∃ e, P.underlying ty = some (.slice e)) ∨ P.underlying ty = some .string := by
  unfold isRow at h
  simp only at h
  split at h
  · rename_i e hu; exact Or.inl ⟨e, hu⟩
  · rename_i hu; exact Or.inr hu
  · cases h
section model
variable {tys : Array TypeId} {ty ty' el rt : TypeId} {sz : Nat}
theorem append_fit (h0 : tys[0]? = some ty) (h1 : tys[1]? = some ty') (hu : P.underlying ty = some (.slice el)) (hu' : (∃ e, P.underlying ty' = some (.slice e)) ∨ P.underlying ty' = some .string) (hs : sizeT P el = some sz)
    {ad : Addr} {sLen sCap m : Nat} {ux : Value} {xs : List Value} {w w' : World} (hl : (Builtin.lenOf ux).run P w = .ok m w) (hf : (Builtin.firstCells sz m ux).run P w = .ok xs.toArray w) (hle : sLen + m ≤ sCap)
    (hst : (storeCells (ad.add (sLen * sz)) xs).run P w = .ok () w') :
    (Builtin.append_ tys rt #[.slice (some ad) sLen sCap, ux]).run P w = .ok (.slice (some ad) (sLen + m) sCap) w' := by
  rcases hu' with ⟨e', hu'⟩ | hu' <;> simp [Builtin.append_, h0, h1, run_underlying hu, run_underlying hu', run_sizeT hs, hl, hle, hf, hst]
theorem append_none (h0 : tys[0]? = some ty) (h1 : tys[1]? = some ty') (hu : P.underlying ty = some (.slice el)) (hu' : (∃ e, P.underlying ty' = some (.slice e)) ∨ P.underlying ty' = some .string) (hs : sizeT P el = some sz)
    {ux : Value} {xs : List Value} {w : World} (hl : (Builtin.lenOf ux).run P w = .ok 0 w) (hf : (Builtin.firstCells sz 0 ux).run P w = .ok xs.toArray w) :
    (Builtin.append_ tys rt #[.slice none 0 0, ux]).run P w = .ok (.slice none 0 0) w := by
  rcases hu' with ⟨e', hu'⟩ | hu' <;> simp [Builtin.append_, h0, h1, run_underlying hu, run_underlying hu', run_sizeT hs, hl, hf]
theorem append_grow (h0 : tys[0]? = some ty) (h1 : tys[1]? = some ty') (hu : P.underlying ty = some (.slice el)) (hu' : (∃ e, P.underlying ty' = some (.slice e)) ∨ P.underlying ty' = some .string)
    {i : TypeInfo} {z : Value} (hi : P.info? el = some i) (hz : i.zero = some z)
    {base : Option Addr} {sLen sCap m : Nat} {ux : Value} {os xs : List Value} {w : World} (hl : (Builtin.lenOf ux).run P w = .ok m w) (hf : (Builtin.firstCells i.size m ux).run P w.drew = .ok xs.toArray w.drew)
    (ho : (Builtin.firstCells i.size sLen (.slice base sLen sCap)).run P w.drew = .ok os.toArray w.drew) (hgt : sCap < sLen + m) (h63 : sLen + m ≤ 1073741824) (hb : (sLen + m) * i.bytes ≤ 1073741824) :
    (Builtin.append_ tys rt #[.slice base sLen sCap, ux]).run P w = .ok (.slice (some ⟨w.heap.size, 0, none⟩) (sLen + m) (grownCap w (sLen + m) sCap el)) (w.drew.alloc (.cells ((os ++ xs).toArray ++ Builtin.zeroCells z.cells (grownCap w (sLen + m) sCap el - (sLen + m))) el)) := by
  have hn : ¬ (sLen + m ≤ sCap) := by omega
  have h65 : ¬ (9223372036854775807 < (sLen : Int) + (m : Int)) := by omega
  have h48 : ¬ (281474976710656 < Builtin.nextslicecap (sLen + m) sCap * i.bytes) := by
    have := growslice_fits (bytes := i.bytes) hgt (by omega)
    omega
  rcases hu' with ⟨e', hu'⟩ | hu' <;>
    simp [Builtin.append_, h0, h1, run_underlying hu, run_underlying hu', sizeOf, typeInfo, hi, hl, hn, h65, h48, Question.forced, grownCap, ho, hf, zeroValue, hz, newRow]
  all_goals
    congr 2
    apply Array.ext'
    simp
theorem zeroCells_made (z : Array Value) (n : Nat) : Builtin.zeroCells z n = madeCells z (n * z.size) := rfl
theorem zeroCells_none {z : Array Value} {n : Nat} (h : n * z.size = 0) : Builtin.zeroCells z n = #[] := by
  unfold Builtin.zeroCells; rw [h]; simp
theorem wrap_small {m : Nat} (h : m ≤ 1073741824) : IntKind.i64.wrap (m : Int) = (m : Int) := by
  unfold IntKind.wrap; simp [IntKind.bits, IntKind.signed]; omega
theorem append_fitZ (h0 : tys[0]? = some ty) (h1 : tys[1]? = some ty') (hu : P.underlying ty = some (.slice el)) {kk : IntKind} (hu' : P.underlying ty' = some (.int kk))
    {i : TypeInfo} {z : Value} (hi : P.info? el = some i) (hz : i.zero = some z) (hzs : z.cells.size = i.size) {k : IntKind} {m : Nat} (hm : m ≤ 1073741824) (hmb : m * i.bytes ≤ 1073741824)
    {ad : Addr} {sLen sCap : Nat} {w w' : World} (hle : sLen + m ≤ sCap) (hst : (storeCells (ad.add (sLen * i.size)) (Builtin.zeroCells z.cells m).toList).run P w = .ok () w') :
    (Builtin.append_ tys rt #[.slice (some ad) sLen sCap, .int k m]).run P w = .ok (.slice (some ad) (sLen + m) sCap) w' := by
  have hw := wrap_small hm
  have hneg : ¬ ((m : Int) < 0) := by omega
  have h48 : ¬ (281474976710656 < (m : Int) * (i.bytes : Int)) := by
    rw [← Int.natCast_mul]; omega
  by_cases hs : m * i.size = 0
  · rw [zeroCells_none (by rw [hzs]; exact hs)] at hst
    simp at hst
    simp [Builtin.append_, h0, h1, run_underlying hu, run_underlying hu', sizeOf, typeInfo, hi, asInt, asIntOf, hw, hneg, h48, hs, hle, hst]
  · simp [Builtin.append_, h0, h1, run_underlying hu, run_underlying hu', sizeOf, typeInfo, hi, asInt, asIntOf, hw, hneg, h48, hs, hle, zeroValue, hz, hst]
theorem append_noneZ (h0 : tys[0]? = some ty) (h1 : tys[1]? = some ty') (hu : P.underlying ty = some (.slice el)) {kk : IntKind} (hu' : P.underlying ty' = some (.int kk))
    {i : TypeInfo} (hi : P.info? el = some i) {k : IntKind} {w : World} :
    (Builtin.append_ tys rt #[.slice none 0 0, .int k (0 : Nat)]).run P w = .ok (.slice none 0 0) w := by
  have hw := wrap_small (m := 0) (by omega)
  simp at hw
  simp [Builtin.append_, h0, h1, run_underlying hu, run_underlying hu', sizeOf, typeInfo, hi, asInt, asIntOf, hw]
theorem append_growZ (h0 : tys[0]? = some ty) (h1 : tys[1]? = some ty') (hu : P.underlying ty = some (.slice el)) {kk : IntKind} (hu' : P.underlying ty' = some (.int kk))
    {i : TypeInfo} {z : Value} (hi : P.info? el = some i) (hz : i.zero = some z) (hzs : z.cells.size = i.size) {k : IntKind} {m : Nat}
    {base : Option Addr} {sLen sCap : Nat} {os : List Value} {w : World}
    (ho : (Builtin.firstCells i.size sLen (.slice base sLen sCap)).run P w.drew = .ok os.toArray w.drew) (hgt : sCap < sLen + m) (h63 : sLen + m ≤ 1073741824) (hb : (sLen + m) * i.bytes ≤ 1073741824) :
    (Builtin.append_ tys rt #[.slice base sLen sCap, .int k m]).run P w = .ok (.slice (some ⟨w.heap.size, 0, none⟩) (sLen + m) (grownCap w (sLen + m) sCap el)) (w.drew.alloc (.cells ((os ++ (Builtin.zeroCells z.cells m).toList).toArray ++ Builtin.zeroCells z.cells (grownCap w (sLen + m) sCap el - (sLen + m))) el)) := by
  have hw := wrap_small (m := m) (by omega)
  have hneg : ¬ ((m : Int) < 0) := by omega
  have hn : ¬ (sLen + m ≤ sCap) := by omega
  have h65 : ¬ (9223372036854775807 < (sLen : Int) + (m : Int)) := by omega
  have hmb : m * i.bytes ≤ 1073741824 := Nat.le_trans (Nat.mul_le_mul_right _ (by omega)) hb
  have h48' : ¬ (281474976710656 < (m : Int) * (i.bytes : Int)) := by
    rw [← Int.natCast_mul]; omega
  have h48 : ¬ (281474976710656 < Builtin.nextslicecap (sLen + m) sCap * i.bytes) := by
    have := growslice_fits (bytes := i.bytes) hgt (by omega)
    omega
  by_cases hs : m * i.size = 0
  · rw [zeroCells_none (by rw [hzs]; exact hs)]
    simp [Builtin.append_, h0, h1, run_underlying hu, run_underlying hu', sizeOf, typeInfo, hi, asInt, asIntOf, hw, hneg, h48', hs, hn, h65, h48, Question.forced, grownCap, ho, zeroValue, hz, newRow]
  · simp [Builtin.append_, h0, h1, run_underlying hu, run_underlying hu', sizeOf, typeInfo, hi, asInt, asIntOf, hw, hneg, h48', hs, hn, h65, h48, Question.forced, grownCap, ho, zeroValue, hz, newRow]
    all_goals
      congr 2
      apply Array.ext'
      simp
end model

/-- A row that an append has made. -/
theorem grown_row {W0 : World} {ρ : Rho} {s : St} {w : World} (hR : Rel W0 ρ s w) {c : List V} {cs : List Value} (hE : EL ρ c cs) {e sz k need : Nat} {z : Value} (hz : z.cells.size = sz) (hlen : c.length = need * sz) (hk : need ≤ k) (anc : List Nat) :
    Step W0 ρ s w (ρ.upd s.size ⟨w.heap.size, 0, k⟩) (s.alloc (.row c e sz false anc)) (w.drew.alloc (.cells (cs.toArray ++ Builtin.zeroCells z.cells (k - need)) e)) := by
  have h1 := Step.draw (w' := w.drew) hR rfl rfl rfl rfl
  have hw : w.drew.heap.size = w.heap.size := rfl
  refine h1.trans ?_
  rw [← hw]
  have hle := Rho.le_upd (ρ := ρ) (b := s.size) ⟨w.drew.heap.size, 0, k⟩ (hR.fresh _ (Nat.le_refl _))
  refine Step.alloc h1.rel _ _ k trivial ?_
  refine ⟨cs ++ (Builtin.zeroCells z.cells (k - need)).toList, e, ?_, ?_, ?_, ?_⟩
  · rw [heap_alloc_new]
    congr 2
    apply Array.ext'; simp
  · intro i v hv
    obtain ⟨u, hu, he⟩ := (EL.mono hle _ hE).at hv
    refine ⟨u, ?_, he⟩
    rw [Nat.zero_add, List.getElem?_append_left (by exact (List.getElem?_eq_some_iff.1 hu).1)]
    exact hu
  · have := hE.len
    simp [size_zeroCells, hz, this, hlen]
    rw [← Nat.add_mul]
    exact Nat.mul_le_mul_right _ (by omega)
  · rw [hlen]; exact Nat.mul_le_mul_right _ hk
theorem drew_first {sz n : Nat} {u : Value} {xs : List Value} {w : World} (h : ∀ w' : World, w'.heap = w.heap → (Builtin.firstCells sz n u).run P w' = .ok xs.toArray w') : (Builtin.firstCells sz n u).run P w.drew = .ok xs.toArray w.drew := h w.drew rfl
/-- That a row has been appended to is noted. -/
theorem Step.flag {W0 : World} {ρ : Rho} {s : St} {w : World} (hR : Rel W0 ρ s w) {b : Nat} {c : List V} {ty : TypeId} {sz : Nat} {next : Bool} {anc : List Nat} (hb : s.get b = some (.row c ty sz next anc)) :
    Step W0 ρ s w ρ (s.put b (.row c ty sz true anc)) w := by
  obtain ⟨_, m, hm, hB, hlt, hok⟩ := hR.blk b _ hb
  refine Step.write hR hb trivial (by trivial) hm rfl (fun d hd => Or.inl (by rw [St.get_put, if_neg hd])) (x' := .row c ty sz true anc) (by rw [St.get_put, if_pos rfl]) hR.below rfl (fun _ _ => rfl) hok ?_
  intro d y k hne hd hy hk hblk
  rw [St.get_put, if_neg hne] at hd
  obtain ⟨_, k', hk', _, _, hoky⟩ := hR.blk d _ hd
  rw [hk] at hk'; injection hk' with e; subst e
  refine ⟨?_, hoky⟩
  rcases hR.dis d b y _ k m hd hb hy trivial hk hm hne hblk with hu | hu
  · refine Or.inl ?_
    cases y with
    | row => exact hu
    | _ => exact hu.elim
  · refine Or.inr ?_
    cases y with
    | row => exact ⟨rfl, hu.2.1, hu.2.2⟩
    | _ => exact hu.elim
/-- A row that has grown in place. -/
theorem inPlace {W0 : World} {ρ : Rho} {s : St} {w : World} (hR : Rel W0 ρ s w) {b off len n k e sz : Nat} {c : List V} {ty : TypeId} {anc : List Nat} (hb : s.get b = some (.row c ty sz false anc)) {m : Loc} (hm : ρ b = some m)
    {old new : List V} {os xs : List Value} (hold : s.cells b off (len * sz) = .ok old) (hEo : EL ρ old os) (hos : ∀ (j : Nat) (u : Value), os[j]? = some u → w.cell? ((⟨m.blk, m.off + off, none⟩ : Addr).add j) = some u) (hEn : EL ρ new xs) (hfl : flatL new = true) (hoff : off = k * sz) (hend : off + len * sz = c.length) (hnew : new.length = n * sz) (hroom : len + n ≤ m.cap - k) (hn : 0 < n) (hsz : 0 < sz) :
    ∃ w', (storeCells ((⟨m.blk, m.off + off, none⟩ : Addr).add (len * sz)) xs).run P w = .ok () w' ∧
      Step W0 ρ s w (ρ.upd s.size ⟨m.blk, m.off + off, m.cap - k⟩) ((s.put b (.row c ty sz true anc)).alloc (.row (old ++ new) e sz false (b :: anc))) w' := by
  obtain ⟨hbs, m', hm', hB, hlt, hok⟩ := hR.blk b _ hb
  rw [hm] at hm'; injection hm' with e'; subst e'
  obtain ⟨us, ty', hg, hE, hcap, hcl⟩ := hok
  have hxl := hEn.len
  have holen : old.length = len * sz := by
    unfold St.cells at hold
    rw [hb] at hold
    exact cut_len hold
  have hcapk : (k + len + n) * sz ≤ m.cap * sz := Nat.mul_le_mul_right _ (by omega)
  have hcapk' : k * sz + len * sz + n * sz ≤ m.cap * sz := by rw [← Nat.add_mul, ← Nat.add_mul]; exact hcapk
  have h1 := flatL_ok hfl hEn
  have hrun := run_storeCells_at P m.blk (m.off + off + len * sz) ty' xs 0 us.toArray w hg (by simp; omega) h1
  rw [Addr_add]
  refine ⟨_, hrun, ?_⟩
  -- the flag
  have s1 := Step.flag hR hb
  refine s1.trans ?_
  have hR1 := s1.rel
  have hb1 : (s.put b (.row c ty sz true anc)).get b = some (.row c ty sz true anc) := by rw [St.get_put, if_pos rfl]
  generalize hS : s.put b (.row c ty sz true anc) = S at *
  have hSz : S.size = s.size := by rw [← hS]; rfl
  -- the cells behind the row
  have hothers : ∀ d y q, d ≠ b → S.get d = some y → y.alive → ρ d = some q → q.blk = m.blk → Under d y q (.row c ty sz false anc) m := fun d y q hne hd hy hq hblk => by
    have hd0 : s.get d = some y := by rw [← hS, St.get_put, if_neg hne] at hd; exact hd
    rcases hR.dis d b y _ q m hd0 hb hy trivial hq hm hne hblk with hu | hu
    · exact hu
    · cases y with
      | row => have := hu.1; cases this
      | _ => exact hu.elim
  have hw1 : ∀ (cy : List V) (q : Loc), q.blk = m.blk → q.off + cy.length ≤ m.off + c.length → ∀ (ty1 : TypeId) (sz1 : Nat) (nx : Bool) (an : List Nat), BOK ρ w q (.row cy ty1 sz1 nx an) → BOK ρ (w.setRow m.blk (us.toArray.toList.take (m.off + off + len * sz + 0) ++ xs ++ us.toArray.toList.drop (m.off + off + len * sz + 0 + xs.length)).toArray) q (.row cy ty1 sz1 nx an) := by
    rintro cy q hq hle ty1 sz1 nx an ⟨us1, ty2, g1, g2, g3, g4⟩
    rw [hq] at g1
    rw [hg] at g1
    injection g1 with g1
    injection g1 with g1 g1'
    have g1 : us = us1 := by simpa using g1
    subst g1
    refine ⟨_, ty', by rw [hq]; exact setRow_heap w m.blk _ _ ty' _ hg, ?_, ?_, g4⟩
    · intro i v hv
      obtain ⟨u, hu, he⟩ := g2 i v hv
      refine ⟨u, ?_, he⟩
      have hi : i < cy.length := (List.getElem?_eq_some_iff.1 hv).1
      simp only [Nat.add_zero]
      rw [List.append_assoc, List.getElem?_append_left (by simp; omega), List.getElem?_take, if_pos (by omega)]
      exact hu
    · simp; omega
  have s2 : Step W0 ρ S w ρ S (w.setRow m.blk (us.toArray.toList.take (m.off + off + len * sz + 0) ++ xs ++ us.toArray.toList.drop (m.off + off + len * sz + 0 + xs.length)).toArray) := by
    refine Step.write hR1 hb1 trivial (by trivial) hm rfl (fun d hd => Or.inl rfl) hb1 (Below.row hR.below hB _) (size_setRow _ _ _) (fun r hr => setRow_other w _ r _ hr) (hw1 c m rfl (Nat.le_refl _) _ _ _ _ ⟨us, ty', hg, hE, hcap, hcl⟩) ?_
    intro d y q hne hd hy hq hblk
    have hu := hothers d y q hne hd hy hq hblk
    obtain ⟨_, q', hq', _, _, hoky⟩ := hR1.blk d _ hd
    rw [hq] at hq'; injection hq' with e; subst e
    cases y with
    | row cy ty1 sz1 nx an => exact ⟨Or.inl hu, hw1 cy q hblk hu.2.2 _ _ _ _ hoky⟩
    | _ => exact hu.elim
  refine s2.trans ?_
  have hR2 := s2.rel
  have hnone : ρ S.size = none := hR2.fresh _ (Nat.le_refl _)
  have hgn : S.get S.size = none := by
    cases hgn : S.get S.size with
    | none => rfl
    | some y => have := (hR2.blk _ _ hgn).1; omega
  rw [← hSz]
  have hle := Rho.le_upd (ρ := ρ) (b := S.size) ⟨m.blk, m.off + off, m.cap - k⟩ hnone
  have hR3 := hR2.place (id := S.size) (n := S.size + 1) ⟨m.blk, m.off + off, m.cap - k⟩ hnone hgn (by omega) (by omega)
  have hb2 : b < S.size := by rw [hSz]; exact hbs
  have hR4 := hR3.add' (id := S.size) (x := .row (old ++ new) e sz false (b :: anc)) (by show S.size < S.size + 1; omega) (Rho.upd_same _ _ _) hB (by rw [size_setRow]; exact hlt) (by
    intro d y q hne hd hy hq hblk
    have hd : S.get d = some y := hd
    rw [Rho.upd_other _ _ hne] at hq
    by_cases hdb : d = b
    · subst hdb
      rw [hb1] at hd; injection hd with hd; subst hd
      rw [hm] at hq; injection hq with hq; subst hq
      refine ⟨rfl, List.mem_cons_self, ?_⟩
      simp [holen]; omega
    · have hu := hothers d y q hdb hd hy hq hblk
      cases y with
      | row cy ty1 sz1 nx an =>
        refine ⟨hu.1, List.mem_cons_of_mem _ hu.2.1, ?_⟩
        have := hu.2.2
        simp [holen]; omega
      | _ => exact hu.elim) (by
    refine ⟨_, ty', setRow_heap w m.blk _ _ ty' _ hg, ?_, ?_, ?_⟩
    · intro i v hv
      simp only [Nat.add_zero]
      by_cases hi : i < len * sz
      · rw [List.getElem?_append_left (by rw [holen]; exact hi)] at hv
        obtain ⟨u, hu, he⟩ := hEo.at hv
        refine ⟨u, ?_, he.mono hle⟩
        have := hos i u hu
        rw [Addr_add, cell_of_row w m.blk _ _ _ _ hg] at this
        rw [List.append_assoc, List.getElem?_append_left (by simp; omega), List.getElem?_take, if_pos (by omega)]
        simpa using this
      · rw [List.getElem?_append_right (by rw [holen]; omega), holen] at hv
        obtain ⟨u, hu, he⟩ := hEn.at hv
        have hiu : i - len * sz < xs.length := (List.getElem?_eq_some_iff.1 hu).1
        refine ⟨u, ?_, he.mono hle⟩
        rw [List.getElem?_append_left (by simp; omega), List.getElem?_append_right (by simp; omega)]
        simp only [List.length_take]
        rw [show m.off + off + i - min (m.off + off + len * sz) us.toArray.toList.length = i - len * sz by simp; omega]
        exact hu
    · have : (m.cap - k) * sz + k * sz = m.cap * sz := by rw [← Nat.add_mul]; congr 1; omega
      simp; omega
    · rw [List.length_append, holen, hnew, ← Nat.add_mul]; exact Nat.mul_le_mul_right _ hroom)
  have hmimg : Img ρ S m.blk := ⟨b, _, m, hb1, trivial, hm, rfl⟩
  refine ⟨hle, hR4, by rw [St.size_alloc]; omega, Nat.le_refl _, fun _ _ _ => rfl, ?_, fun d hd hn => by rw [St.get_alloc, if_neg (by omega)]; exact hn, fun d hd hn => by rw [Rho.upd_other _ _ (by omega)]; exact hn, ?_⟩
  · rintro r hr ⟨d, y, q, hd, hy, hq, rfl⟩
    rw [St.get_alloc] at hd
    by_cases hds : d = S.size
    · subst hds
      rw [Rho.upd_same] at hq; injection hq with hq; subst hq
      exact hmimg
    · rw [if_neg hds] at hd
      rw [Rho.upd_other _ _ hds] at hq
      exact ⟨d, y, q, hd, hy, hq, rfl⟩
  · intro d y hy
    rw [St.get_alloc]
    by_cases hds : d = S.size
    · rw [if_pos hds]; exact ⟨_, rfl⟩
    · rw [if_neg hds]; exact ⟨y, hy⟩
end Go.Clo
