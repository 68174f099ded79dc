/- The interpreter of closed runs, a part of it. -/
import Derived.Test.YteojbichibdhjabGreatVS
namespace Go.Clo
set_option linter.unusedSimpArgs false
set_option linter.unusedVariables false
set_option linter.unnecessarySimpa false
open Go Go.RowKit

variable {P : Program} {W0 : World}

section
variable {H : Hook} {ih : Run} {ops : Array Oper} {b : List Nat} {base : Nat} {X : Nat → Sn} {U : Nat → V}
variable {ρ0 ρ : Rho} {s0 : St} {w0 w : World} {L : Nat → Prop} {c : Nat}

/-- An operation that makes a block. -/
theorem MInv.made (C : Cn P H ih ops b base X U) (M : MInv P W0 ops b base X U ρ0 s0 w0 L ρ w c) (hbase : s0.size = base) (hL : Closed ops L) {k : Nat} {o : Oper} (hk : Rdy ops L k o) {x : Blk} (hf : Flt P ops base X U k x) {obj : Obj}
    (hx : BOK (ρ.upd (base + k) ⟨w.heap.size, 0, 0⟩) (w.alloc obj) ⟨w.heap.size, 0, 0⟩ x) : MInv P W0 ops b base X U ρ0 s0 w0 (with_ L k) (ρ.upd (base + k) ⟨w.heap.size, 0, 0⟩) (w.alloc obj) c := by
  have hks := hf.lt
  have he := hf.notEff
  have hn : ρ (base + k) = none := M.un k hks (Or.inl hk.un)
  have hsz := M.sz
  have inE : ∀ {i}, with_ L k i → EffAt P ops X i → L i := fun h h' => h.resolve_left fun e => he (e ▸ h')
  have hst := Step.float M.step hn (by omega) (by omega) obj
  have hgk : (X c).s.get (base + k) = none := by
    cases hg : (X c).s.get (base + k) with
    | none => rfl
    | some y => obtain ⟨_, l, hl, _⟩ := M.step.rel.blk _ _ hg; rw [hn] at hl; cases hl
  have himg : ∀ r, Img (ρ.upd (base + k) ⟨w.heap.size, 0, 0⟩) (X c).s r → Img ρ (X c).s r := by
    rintro r ⟨d, y, l, hd, ha, hl, hr⟩
    have : d ≠ base + k := fun e => by subst e; rw [hgk] at hd; cases hd
    rw [Rho.upd_other _ _ this] at hl
    exact ⟨d, y, l, hd, ha, hl, hr⟩
  have hother : ∀ {i}, i ≠ k → (ρ.upd (base + k) ⟨w.heap.size, 0, 0⟩) (base + i) = ρ (base + i) := fun h => Rho.upd_other _ _ (by omega)
  refine ⟨fun i hi => hi.elim (fun e => e ▸ hks) (M.lt i), M.cur, M.curE, fun h => h.elim (fun e => M.notCur hks he e.symm) M.curL, fun i h1 h2 => Or.inr (M.low i h1 h2), hst, M.sz, ?_, ?_, ?_, ?_⟩
  · intro i hi h
    have hik : i ≠ k := by
      rintro rfl
      rcases h with h | h
      · exact h (Or.inl rfl)
      · exact h x hf
    rw [hother hik]
    exact M.un i hi (h.imp (fun h h' => h (Or.inr h')) id)
  · intro i y j h1 h2 h3 h4 h5
    have hj := inE h3 h4
    rcases h1 with rfl | h1
    · exact absurd (C.down hL h5 hj) hk.un
    · exact M.taken i y j h1 h2 hj h4 h5
  · intro i y h1 h2 h3
    rcases h1 with rfl | h1
    · refine ⟨hgk, _, Rho.upd_same _ _ _, M.step.wsize, by simp, ?_, fun hi => ?_⟩
      · rw [h2.one hf]; exact hx
      · have := M.step.rel.lt (himg _ hi)
        exact Nat.lt_irrefl _ this
    · have hik : i ≠ k := fun e => hk.un (e ▸ h1)
      obtain ⟨k1, l, k2, k3, k4, k5, k6⟩ := M.pend i y h1 h2 fun j h4 h5 => h3 j (Or.inr h4) h5
      exact ⟨k1, l, by rw [hother hik]; exact k2, k3, by simp; omega, (k5.mono (Rho.le_upd _ hn)).world (heap_alloc_old w obj k4), fun hi => k6 (himg _ hi)⟩
  · intro i i' y y' l l' hne h1 h2 h3 h4 g g' hl hl'
    rcases h1 with rfl | h1
    · have h3 := h3.resolve_left (Ne.symm hne)
      rw [hother (Ne.symm hne)] at hl'
      rw [Rho.upd_same] at hl; injection hl with hl; subst hl
      obtain ⟨m, hm, _, hlt, _⟩ := M.open_ h3 h4 g'
      rw [hl'] at hm; injection hm with hm; subst hm
      show w.heap.size ≠ l'.blk
      omega
    · have hik : i ≠ k := fun e => hk.un (e ▸ h1)
      rw [hother hik] at hl
      rcases h3 with rfl | h3
      · rw [Rho.upd_same] at hl'; injection hl' with hl'; subst hl'
        obtain ⟨m, hm, _, hlt, _⟩ := M.open_ h1 h2 g
        rw [hl] at hm; injection hm with hm; subst hm
        show l.blk ≠ w.heap.size
        omega
      · have hik' : i' ≠ k := fun e => hk.un (e ▸ h3)
        rw [hother hik'] at hl'
        exact M.apart i i' y y' l l' hne h1 h2 h3 h4 g g' hl hl'

/-- The effect that is next. -/
theorem MInv.isNext (C : Cn P H ih ops b base X U) (M : MInv P W0 ops b base X U ρ0 s0 w0 L ρ w c) (hL : Closed ops L) {k : Nat} {o : Oper} (hk : Rdy ops L k o) (he : EffAt P ops X k) : k = c := by
  rcases Nat.lt_trichotomy k c with h | h | h
  · exact absurd (M.low k he h) hk.un
  · exact h
  · rcases M.curE with h' | h'
    · have := he.lt; omega
    · exact absurd (C.ahead hL hk (C.ord c k h' he h)) M.curL
theorem MInv.ownAll (C : Cn P H ih ops b base X U) (M : MInv P W0 ops b base X U ρ0 s0 w0 L ρ w c) (hL : Closed ops L) {k : Nat} {o : Oper} (hk : Rdy ops L k o) {q : Pend} (hq : ∀ e ∈ q, e ∈ (X k).q) :
    ∀ e ∈ ownOf b k q, ∃ j x, e = (j, base + j, x) ∧ L j ∧ Flt P ops base X U j x := by
  intro e he
  obtain ⟨h1, h2⟩ := mem_ownOf.1 he
  obtain ⟨j, x, _, rfl, h4⟩ := (C.mem_q (Nat.le_of_lt (size_of hk.op))).1 (hq e h1)
  exact ⟨j, x, rfl, C.ahead hL hk h2, h4⟩
theorem MInv.effect (C : Cn P H ih ops b base X U) (M : MInv P W0 ops b base X U ρ0 s0 w0 L ρ w c) (hB : W0.heap.size ≤ w0.heap.size) (hbase : s0.size = base) (hL : Closed ops L) {o : Oper} (hk : Rdy ops L c o) (he : EffAt P ops X c) {ρ' : Rho} {w' : World}
    (hst : Step W0 ρ (addPend (X c).s (ownOf b c (X c).p)) w ρ' (X (c + 1)).s w') : ∃ c', MInv P W0 ops b base X U ρ0 s0 w0 (with_ L c) ρ' w' c' := by
  have hcs := he.lt
  obtain ⟨c', n1, n2, n3, n4⟩ := next_eff P ops X _ (c + 1) rfl hcs
  have hs' : (X c').s = (X (c + 1)).s := C.still n1 n2 n4
  have hown := M.ownAll C hL hk (q := (X c).p) fun e h => ((C.mem_p M.cur).1 h).1
  have A := M.added hB hbase hown
  have hsz := M.sz
  have hZ : base + ops.size ≤ (addPend (X c).s (ownOf b c (X c).p)).size := by rw [A.size]; exact hsz
  have inF : ∀ {i x}, with_ L c i → Flt P ops base X U i x → L i := fun {i x} h h' => h.resolve_left fun e => h'.notEff (e ▸ he)
  have hnot : ∀ {i : Nat}, before b i c = false → ∀ e ∈ ownOf b c (X c).p, e.2.1 ≠ base + i := fun {i} hb e hm heq => by
    obtain ⟨j, x, rfl, _, _⟩ := hown e hm
    have hij : j = i := by have : base + j = base + i := heq; omega
    subst hij
    have := (mem_ownOf.1 hm).2
    rw [hb] at this; cases this
  refine ⟨c', ⟨fun i hi => hi.elim (fun e => e ▸ hcs) (M.lt i), n2, n3, ?_, ?_, ?_, ?_, ?_, ?_, ?_, ?_⟩⟩
  · rintro (h | h)
    · omega
    · rcases n3 with e | e
      · have := M.lt _ h; omega
      · exact M.curL (C.down hL (C.ord c c' he e (by omega)) h)
  · intro k k1 k2
    rcases Nat.lt_trichotomy k c with h | h | h
    · exact Or.inr (M.low k k1 h)
    · exact Or.inl h
    · exact absurd k1 (n4 k (by omega) k2)
  · rw [hs']; exact A.step.trans hst
  · rw [hs']; exact Nat.le_trans hZ hst.size
  · intro i hi h
    exact hst.unborn _ (by omega) (M.un i hi (h.imp (fun h h' => h (Or.inr h')) id))
  · intro i x k h1 h2 h3 h4 h5
    have hi := inF h1 h2
    rw [hs']
    by_cases hex : ∃ j, L j ∧ EffAt P ops X j ∧ before b i j = true
    · obtain ⟨j, j1, j2, j3⟩ := hex
      obtain ⟨y, hy⟩ := M.taken i x j hi h2 j1 j2 j3
      exact hst.stay _ y (A.old _ y hy)
    · have hkc : k = c := h3.resolve_right fun h => hex ⟨k, h, h4, h5⟩
      subst hkc
      have hik := C.lt h5
      have hq : (i, base + i, x) ∈ (X k).q := (C.mem_q M.cur).2 ⟨i, x, hik, rfl, h2⟩
      have hp : (i, base + i, x) ∈ (X k).p := (C.mem_p M.cur).2 ⟨hq, fun j j1 j2 => by
        cases hb : before b i j with
        | false => rfl
        | true => exact absurd ⟨j, M.low j j2 j1, j2, hb⟩ hex⟩
      obtain ⟨y, hy⟩ := A.there _ (mem_ownOf.2 ⟨hp, h5⟩)
      exact hst.stay _ y hy
  · intro i x h1 h2 h3
    have hi := inF h1 h2
    have hbc := h3 c (Or.inl rfl) he
    obtain ⟨k1, l, k2, k3, k4, k5, k6⟩ := M.pend i x hi h2 fun j h4 h5 => h3 j (Or.inr h4) h5
    have hZn : (addPend (X c).s (ownOf b c (X c).p)).get (base + i) = none := by rw [A.other _ (hnot hbc)]; exact k1
    have his := M.lt i hi
    have hni : ¬ Img ρ (addPend (X c).s (ownOf b c (X c).p)) l.blk := fun hm => by
      rcases A.img _ hm with h | ⟨e, he', hg, l', hl', hr⟩
      · exact k6 h
      · obtain ⟨j, y, rfl, hj, hfj⟩ := hown e he'
        refine M.apart i j x y l l' (fun e => ?_) hi h2 hj hfj k1 hg k2 hl' hr.symm
        subst e
        exact hnot hbc _ he' rfl
    rw [hs']
    exact ⟨hst.hole _ (by omega) hZn, l, hst.le _ _ k2, k3, Nat.lt_of_lt_of_le k4 hst.wsize, (k5.mono hst.le).world (hst.keeps _ k4 hni), fun hm => hni (hst.img _ k4 hm)⟩
  · intro i i' x x' l l' hne h1 h2 h3 h4 g g' hl hl'
    rw [hs'] at g g'
    have back : ∀ {j}, (X (c + 1)).s.get (base + j) = none → (X c).s.get (base + j) = none := fun {j} hg => by
      cases hy : (X c).s.get (base + j) with
      | none => rfl
      | some y => obtain ⟨z, hz⟩ := hst.stay _ y (A.old _ y hy); rw [hg] at hz; cases hz
    have hi := inF h1 h2
    have hi' := inF h3 h4
    obtain ⟨m, hm, _⟩ := M.open_ hi h2 (back g)
    obtain ⟨m', hm', _⟩ := M.open_ hi' h4 (back g')
    have e := hst.le _ _ hm
    rw [hl] at e; injection e with e; subst e
    have e := hst.le _ _ hm'
    rw [hl'] at e; injection e with e; subst e
    exact M.apart i i' x x' _ _ hne hi h2 hi' h4 (back g) (back g') hm hm'
end
end Go.Clo
