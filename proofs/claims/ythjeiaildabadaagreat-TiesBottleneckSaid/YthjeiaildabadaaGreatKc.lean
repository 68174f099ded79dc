/- Layer 4: what the search finds is shortest. / Layer 4: walks and groups: plain mathematics. -/
import Derived.Test.YthjeiaildabadaaGreatKa
/- Layer 4: what the search finds is shortest. -/
namespace Go.Proofs.YthjeiaildabadaaGreat
set_option linter.unusedSimpArgs false
set_option linter.unusedVariables false
open Go Go.RowKit

theorem Bk.uniq {c : List StepD} {first p : Plc} {l l' : List Int} (h : Bk c first p l) (h' : Bk c first p l') : l = l' := by
  induction h generalizing l' with
  | stop =>
    cases h' with
    | stop => rfl
    | step hne => exact absurd rfl hne
  | @step p s l hne h1 h2 hs hd hb ih =>
    cases h' with
    | stop => exact absurd rfl hne
    | @step _ s' l2 _ _ _ hs' _ hb' =>
      rw [hs] at hs'
      injection hs' with hs'
      subst hs'
      rw [ih hb']
theorem lead_snoc_bind (ts : List TieD) (l : List Int) (i : Int) (p : Int × Int) : leadF ts (l ++ [i]) p = (leadF ts l p).bind fun x => stepF ts x i := by
  cases h : leadF ts l p with
  | some x => exact leadF_snoc h
  | none =>
    unfold leadF at *
    rw [List.foldlM_append, h]
    rfl
/-- How far a place is by the way back. -/
def Len (c : List StepD) (a : Nat) (p : Plc) (k : Nat) : Prop := ∃ l, Bk c (a, 0) p l ∧ l.length = k
theorem Len.uniq {c : List StepD} {a k k' : Nat} {p : Plc} (h : Len c a p k) (h' : Len c a p k') : k = k' := by
  obtain ⟨l, h1, h2⟩ := h
  obtain ⟨l', h1', h2'⟩ := h'
  rw [← h2, ← h2', h1.uniq h1']
theorem Len.came {c : List StepD} {a k j : Nat} {h nx p : Plc} (hnx2 : nx.2 < 2) (hdn : doneB c nx = false) (hb : Len c a p k) : Len (came c h j nx) a p k := by
  obtain ⟨l, h1, h2⟩ := hb
  exact ⟨l, h1.came hnx2 hdn, h2⟩
structure Sho (ts : List TieD) (n cuts a : Nat) (s : Option (Plc × Nat)) (c : List StepD) (q : List Plc) (d : Nat) : Prop where
  opt : ∀ p : Plc, p.1 < n → p.2 ≤ cuts → doneB c p = true → ∀ k, Len c a p k → ∀ l' : List Int, leadF ts l' ((a : Int), 0) = some ((p.1 : Int), (p.2 : Int)) → k ≤ l'.length
  lo : ∀ p ∈ q, ∀ k, Len c a p k → d ≤ k ∧ k ≤ d + 1
  here : ∀ h j, s = some (h, j) → ∀ k, Len c a h k → k = d
  ord : q.Pairwise fun p p' => ∀ k k', Len c a p k → Len c a p' k' → k ≤ k'
/-- One step of a walk, from a place. -/
theorem step_over {ts : List TieD} {n : Nat} (hv : ∀ t ∈ ts, tieB t n = true) {p : Plc} {i x y : Int} (hs : stepF ts ((p.1 : Int), (p.2 : Int)) i = some (x, y)) : ∃ nx : Plc, x = nx.1 ∧ y = nx.2 ∧ nx.1 < n ∧ Over ts p i.toNat nx := by
  unfold stepF at hs
  split at hs
  case isFalse => cases hs
  case isTrue hi =>
    split at hs
    case h_2 => cases hs
    case h_1 t ht =>
      split at hs
      case isFalse => cases hs
      case isTrue ho =>
        injection hs with hs; injection hs with e1 e2
        have hin := oth_in (hv t (List.mem_of_getElem? ht)) (x := p.1) (p := (othF t p.1).1) (by rw [← ho])
        obtain ⟨v, hv'⟩ : ∃ v : Nat, x = v := ⟨x.toNat, by simp only at e1; omega⟩
        have hz2 : y = ((p.2 + cutN t : Nat) : Int) := by have := cutN_I t; simp only at e2; omega
        exact ⟨(v, p.2 + cutN t), hv', hz2, by simp only at e1 ⊢; omega, t, ht, by simp only at e1 ho ⊢; rw [← hv', ← e1, ← ho], rfl⟩
theorem step_mono {ts : List TieD} {x y u v i : Int} (hs : stepF ts (x, y) i = some (u, v)) : y ≤ v :=
  lead_mono ts [i] x y u v (by
    show (stepF ts (x, y) i).bind (fun z => leadF ts [] z) = some (u, v)
    rw [hs]; rfl)
theorem cross {ts : List TieD} {n cuts a d : Nat} (hv : ∀ t ∈ ts, tieB t n = true) (ha : a < n) {s : Option (Plc × Nat)} {c : List StepD} {q : List Plc} (hg : Good ts n cuts a s c q) (hs : Sho ts n cuts a s c q d) :
    ∀ (m : Nat) (l : List Int), l.length = m → ∀ x y : Int, leadF ts l ((a : Int), 0) = some (x, y) → y ≤ cuts → (∃ p : Plc, x = p.1 ∧ y = p.2 ∧ p.1 < n ∧ p.2 ≤ cuts ∧ doneB c p = true) ∨ d + 1 ≤ l.length := by
  intro m
  induction m with
  | zero =>
    intro l hl x y hx hy
    have e := List.length_eq_zero_iff.1 hl
    subst e
    have hx : some ((a : Int), (0 : Int)) = some (x, y) := hx
    injection hx with hx; injection hx with e1 e2
    exact .inl ⟨(a, 0), e1.symm, e2.symm, ha, Nat.zero_le _, hg.first⟩
  | succ m ih =>
    intro l hl x y hx hy
    obtain ⟨l1, i, rfl⟩ : ∃ l1 i, l = l1 ++ [i] := ⟨l.dropLast, l.getLast (fun e => by rw [e] at hl; simp at hl), (List.dropLast_concat_getLast _).symm⟩
    rw [lead_snoc_bind] at hx
    cases h1 : leadF ts l1 ((a : Int), 0) with
    | none => rw [h1] at hx; cases hx
    | some z =>
      rw [h1] at hx
      obtain ⟨z1, z2⟩ := z
      have hx : stepF ts (z1, z2) i = some (x, y) := hx
      have hmono := step_mono hx
      have hl1 : l1.length = m := by simpa using hl
      rcases ih l1 hl1 z1 z2 h1 (by omega) with ⟨p, rfl, rfl, hp1, hp2, hpd⟩ | h
      · obtain ⟨nx, rfl, rfl, hn1, hov⟩ := step_over hv hx
        cases hdn : doneB c nx with
        | true => exact .inl ⟨nx, rfl, rfl, hn1, by omega, hdn⟩
        | false =>
          right
          obtain ⟨lp, b1, _, _⟩ := hg.way p hp1 hp2 hpd
          have hlen : Len c a p lp.length := ⟨lp, b1, rfl⟩
          have hopt := hs.opt p hp1 hp2 hpd _ hlen l1 h1
          have hd : d ≤ lp.length := by
            by_cases hpq : p ∈ q
            · exact (hs.lo p hpq _ hlen).1
            · by_cases hh : ∃ k, s = some (p, k)
              · obtain ⟨k, hk⟩ := hh
                rw [hs.here p k hk _ hlen]; exact Nat.le_refl _
              · have := hg.all p hp1 hp2 hpd hpq i.toNat nx hov (by omega) (fun k e => absurd ⟨k, e⟩ hh)
                rw [hdn] at this; cases this
          rw [List.length_append, List.length_singleton]; omega
      · right
        rw [List.length_append, List.length_singleton]; omega
/-- The place that a step takes: as far as it can be, and the others as they were. -/
theorem sho_take {ts : List TieD} {n cuts a k d : Nat} {h nx : Plc} {c : List StepD} {q : List Plc} (hn : n ≤ 32) (hc : cuts ≤ 1) (hv : ∀ t ∈ ts, tieB t n = true) (ha : a < n) (hg : Good ts n cuts a (some (h, k)) c q) (hs : Sho ts n cuts a (some (h, k)) c q d) (ht : Takes ts cuts c h k nx) :
    (∀ p : Plc, p.1 < n → p.2 ≤ cuts → doneB c p = true → ∀ j, Len (came c h k nx) a p j → Len c a p j) ∧ (∀ j, Len (came c h k nx) a nx j → j = d + 1) ∧
    (∀ p : Plc, p.1 < n → p.2 ≤ cuts → doneB (came c h k nx) p = true → ∀ j, Len (came c h k nx) a p j → ∀ l' : List Int, leadF ts l' ((a : Int), 0) = some ((p.1 : Int), (p.2 : Int)) → j ≤ l'.length) := by
  obtain ⟨t, h1, h2, h3, h4, h5⟩ := ht
  have hnx1 : nx.1 < n := by have := oth_in (hv t (List.mem_of_getElem? h1)) h2; omega
  have hl : plI nx < c.length := by rw [hg.ok.len]; exact pl_lt hn hc hnx1 h4
  have hback : ∀ p : Plc, p.1 < n → p.2 ≤ cuts → doneB c p = true → ∀ j, Len (came c h k nx) a p j → Len c a p j := fun p hp1 hp2 hpd j hj => by
    obtain ⟨l, b1, _, _⟩ := hg.way p hp1 hp2 hpd
    have hL : Len c a p l.length := ⟨l, b1, rfl⟩
    have e := (hL.came (h := h) (j := k) (by omega) h5).uniq hj
    rw [← e]; exact hL
  have hnxl : ∀ j, Len (came c h k nx) a nx j → j = d + 1 := fun j hj => by
    obtain ⟨hh1, hh2⟩ := hg.ok.here _ _ rfl
    obtain ⟨l, b1, _, _⟩ := hg.way h hh1 hh2 (hg.here _ _ rfl)
    have hd := hs.here h k rfl _ ⟨l, b1, rfl⟩
    have hne : nx ≠ (a, 0) := fun e => by rw [e, hg.first] at h5; cases h5
    have hL : Len (came c h k nx) a nx (d + 1) := by
      refine ⟨(k : Int) :: l, .step (s := ⟨k, h.1, h.2, true⟩) hne (by omega) (by omega) ?_ rfl (b1.came (by omega) h5), by rw [List.length_cons, hd]⟩
      show (List.set c (plI nx) _)[plI nx]? = _
      rw [List.getElem?_set, if_pos rfl, if_pos hl]
    exact (hL.uniq hj).symm
  refine ⟨hback, hnxl, fun p hp1 hp2 hpd j hj l' hx => ?_⟩
  by_cases hpn : p = nx
  · subst hpn
    rw [hnxl j hj]
    rcases cross hv ha hg hs _ l' rfl _ _ hx (by omega) with ⟨p', e1, e2, _, _, hd'⟩ | h
    · have : p' = p := by obtain ⟨u, v⟩ := p'; obtain ⟨u', v'⟩ := p; simp only at e1 e2; rw [show u = u' by omega, show v = v' by omega]
      rw [this, h5] at hd'; cases hd'
    · exact h
  · have hpl : plI p ≠ plI nx := fun e => hpn (pl_inj (by omega) (by omega) e)
    rw [came_done hl, decide_eq_false hpl, Bool.false_or] at hpd
    exact hs.opt p hp1 hp2 hpd j (hback p hp1 hp2 hpd j hj) l' hx
theorem Srch.sho {ts : List TieD} {cuts a n : Nat} {last : Plc} (hn : n ≤ 32) (hc : cuts ≤ 1) (hv : ∀ t ∈ ts, tieB t n = true) (ha : a < n) {s : Option (Plc × Nat)} {c : List StepD} {q : List Plc} (h : Srch ts cuts a last s c q) : ∃ d, Sho ts n cuts a s c q d := by
  induction h with
  | init =>
    have hz : ∀ k, Len ((List.replicate 64 zeroS).set (plI (a, 0)) ⟨0, 0, 0, true⟩) a (a, 0) k → k = 0 := fun k hk => hk.uniq ⟨[], .stop, rfl⟩
    refine ⟨0, ⟨fun p hp1 hp2 hpd k hk l' _ => ?_, fun p hp k hk => ?_, fun _ _ e => (by cases e), List.pairwise_singleton _ _⟩⟩
    · have e : p = (a, 0) := by
        have e : plI p = plI (a, 0) := by
          unfold doneB at hpd
          rw [List.getElem?_set] at hpd
          by_cases e : plI (a, 0) = plI p
          · exact e.symm
          · rw [if_neg e, List.getElem?_replicate] at hpd
            split at hpd
            · rename_i s hs
              split at hs
              · injection hs with hs; rw [← hs] at hpd; cases hpd
              · cases hs
            · cases hpd
        exact pl_inj (by omega) (by simp) e
      subst e
      rw [hz k hk]; exact Nat.zero_le _
    · rw [List.mem_singleton.1 hp] at hk
      rw [hz k hk]; omega
  | @pop c h q hs ih =>
    obtain ⟨d, ih⟩ := ih
    have hg := hs.good hn hc hv ha
    obtain ⟨hh1, hh2⟩ := hg.ok.que h List.mem_cons_self
    obtain ⟨l, b1, _, _⟩ := hg.way h hh1 hh2 (hg.que h List.mem_cons_self)
    have hL : Len c a h l.length := ⟨l, b1, rfl⟩
    have hd := ih.lo h List.mem_cons_self _ hL
    have ho := List.pairwise_cons.1 ih.ord
    refine ⟨l.length, ⟨ih.opt, fun p hp k hk => ⟨ho.1 p hp _ _ hL hk, ?_⟩, fun h' j e k hk => ?_, ho.2⟩⟩
    · have := (ih.lo p (List.mem_cons_of_mem _ hp) _ hk).2; omega
    · injection e with e; injection e with e _; subst e; exact hk.uniq hL
  | @skip c h k q hs hk hno ih =>
    obtain ⟨d, ih⟩ := ih
    exact ⟨d, ⟨ih.opt, ih.lo, fun h' j e => by injection e with e; injection e with e _; subst e; exact ih.here _ _ rfl, ih.ord⟩⟩
  | @take c h k q nx hs hk ht hne ih =>
    obtain ⟨d, ih⟩ := ih
    have hg := hs.good hn hc hv ha
    obtain ⟨hback, hnxl, hopt⟩ := sho_take hn hc hv ha hg ih ht
    have hq : ∀ p ∈ q, ∀ j, Len (came c h k nx) a p j → Len c a p j := fun p hp => hback p (hg.ok.que p hp).1 (hg.ok.que p hp).2 (hg.que p hp)
    refine ⟨d, ⟨hopt, fun p hp j hj => ?_, fun h' j e k' hk' => ?_, ?_⟩⟩
    · rcases List.mem_append.1 hp with hp | hp
      · exact ih.lo p hp j (hq p hp j hj)
      · rw [List.mem_singleton.1 hp] at hj
        rw [hnxl j hj]; omega
    · injection e with e; injection e with e _; subst e
      obtain ⟨hh1, hh2⟩ := hg.ok.here _ _ rfl
      exact ih.here _ _ rfl _ (hback _ hh1 hh2 (hg.here _ _ rfl) _ hk')
    · rw [List.pairwise_append]
      refine ⟨ih.ord.imp_of_mem fun hp hp' hpp k k' hk hk' => hpp k k' (hq _ hp _ hk) (hq _ hp' _ hk'), List.pairwise_singleton _ _, fun p hp p' hp' k k' hk hk' => ?_⟩
      rw [List.mem_singleton.1 hp'] at hk'
      rw [hnxl _ hk']
      exact (ih.lo p hp _ (hq p hp _ hk)).2
  | @next c h q hs ih =>
    obtain ⟨d, ih⟩ := ih
    exact ⟨d, ⟨ih.opt, ih.lo, fun _ _ e => (by cases e), ih.ord⟩⟩
/-- What the search finds is as short as a walk can be. -/
theorem Fnd.short {ts : List TieD} {cuts a n : Nat} {last : Plc} (hn : n ≤ 32) (hc : cuts ≤ 1) (hv : ∀ t ∈ ts, tieB t n = true) (ha : a < n) (hl1 : last.1 < n) (hl2 : last.2 ≤ cuts) {c : List StepD} (h : Fnd ts cuts a last c) {l : List Int} (hb : Bk c (a, 0) last l) :
    ∀ l' : List Int, leadF ts l' ((a : Int), 0) = some ((last.1 : Int), (last.2 : Int)) → l.length ≤ l'.length := by
  intro l' hx
  cases hd : doneB c last with
  | false => exact absurd hx (h.none hn hc hv ha hd hl1 hl2 l')
  | true =>
    rcases h with h | ⟨h, k, c0, q, h1, h2, h3, rfl⟩
    · obtain ⟨d, hs⟩ := h.sho hn hc hv ha
      exact hs.opt last hl1 hl2 hd _ ⟨l, hb, rfl⟩ l' hx
    · obtain ⟨d, hs⟩ := h1.sho hn hc hv ha
      exact (sho_take hn hc hv ha (h1.good hn hc hv ha) hs h3).2.2 last hl1 hl2 hd _ ⟨l, hb, rfl⟩ l' hx
end Go.Proofs.YthjeiaildabadaaGreat
/- Layer 4: walks and groups: plain mathematics. -/
namespace Go.Proofs.YthjeiaildabadaaGreat
set_option linter.unusedSimpArgs false
set_option linter.unusedVariables false
open Go Go.RowKit

/-- One step: over a tie of two nodes. -/
theorem step_iff {ts : List TieD} {x c i y d : Int} : stepF ts (x, c) i = some (y, d) ↔ 0 ≤ i ∧ ∃ t, ts[i.toNat]? = some t ∧ d = c + cutI t ∧ ((x = t.a ∧ y = t.b) ∨ (x ≠ t.a ∧ x = t.b ∧ y = t.a)) := by
  unfold stepF
  by_cases hi : 0 ≤ i
  · rw [if_pos hi]
    cases ht : ts[i.toNat]? with
    | none => simp
    | some t =>
      simp only [Option.some.injEq, exists_eq_left', hi, true_and]
      have ho : othF t x = if x = t.a then (t.b, true) else if x = t.b then (t.a, true) else (0, false) := by unfold othF; simp only [beq_iff_eq]
      rw [ho]
      by_cases g1 : x = t.a
      · rw [if_pos g1]
        simp only [if_true, Option.some.injEq, Prod.mk.injEq]
        constructor
        · rintro ⟨rfl, rfl⟩; exact ⟨rfl, .inl ⟨g1, rfl⟩⟩
        · rintro ⟨rfl, ⟨_, rfl⟩ | ⟨h, _⟩⟩
          · exact ⟨rfl, rfl⟩
          · exact absurd g1 h
      · rw [if_neg g1]
        by_cases g2 : x = t.b
        · rw [if_pos g2]
          simp only [if_true, Option.some.injEq, Prod.mk.injEq]
          constructor
          · rintro ⟨rfl, rfl⟩; exact ⟨rfl, .inr ⟨g1, g2, rfl⟩⟩
          · rintro ⟨rfl, ⟨h, _⟩ | ⟨_, _, rfl⟩⟩
            · exact absurd h g1
            · exact ⟨rfl, rfl⟩
        · rw [if_neg g2]
          simp only [Bool.false_eq_true, if_false, reduceCtorEq, false_iff]
          rintro ⟨_, ⟨h, _⟩ | ⟨_, h, _⟩⟩
          · exact g1 h
          · exact g2 h
  · rw [if_neg hi]; simp [hi]
theorem lead_nil {ts : List TieD} {p : Int × Int} : leadF ts [] p = some p := rfl
theorem lead_cons {ts : List TieD} {i : Int} {l : List Int} {p : Int × Int} : leadF ts (i :: l) p = (stepF ts p i).bind fun x => leadF ts l x := rfl
theorem lead_app {ts : List TieD} {l l' : List Int} {p : Int × Int} : leadF ts (l ++ l') p = (leadF ts l p).bind fun x => leadF ts l' x := by
  unfold leadF; rw [List.foldlM_append]; rfl
theorem lead_cons_some {ts : List TieD} {i : Int} {l : List Int} {p q : Int × Int} (h : leadF ts (i :: l) p = some q) : ∃ x, stepF ts p i = some x ∧ leadF ts l x = some q := by
  rw [lead_cons] at h
  cases hs : stepF ts p i with
  | none => rw [hs] at h; cases h
  | some x => rw [hs] at h; exact ⟨x, rfl, h⟩
theorem step_shift {ts : List TieD} {x c i y d : Int} (e : Int) (h : stepF ts (x, c) i = some (y, d)) : stepF ts (x, c + e) i = some (y, d + e) := by
  obtain ⟨h0, t, ht, rfl, h1⟩ := step_iff.1 h
  exact step_iff.2 ⟨h0, t, ht, by omega, h1⟩
theorem lead_shift {ts : List TieD} (e : Int) : ∀ {l : List Int} {x c y d : Int}, leadF ts l (x, c) = some (y, d) → leadF ts l (x, c + e) = some (y, d + e)
  | [], x, c, y, d, h => by
    have h : some (x, c) = some (y, d) := h
    injection h with h; injection h with h1 h2
    subst h1; subst h2; rfl
  | i :: l, x, c, y, d, h => by
    obtain ⟨⟨z, f⟩, h1, h2⟩ := lead_cons_some h
    rw [lead_cons, step_shift e h1]
    exact lead_shift e h2
theorem lead_cuts {ts : List TieD} : ∀ {l : List Int} {x c y d : Int}, leadF ts l (x, c) = some (y, d) → c ≤ d
  | [], x, c, y, d, h => by
    have h : some (x, c) = some (y, d) := h
    injection h with h; injection h with h1 h2
    omega
  | i :: l, x, c, y, d, h => by
    obtain ⟨⟨z, f⟩, h1, h2⟩ := lead_cons_some h
    obtain ⟨h0, t, ht, rfl, _⟩ := step_iff.1 h1
    have := lead_cuts h2
    have := cutI_le t
    omega
theorem tie_ne {t : TieD} {n : Int} (h : tieB t n = true) : t.a ≠ t.b := by
  unfold tieB at h
  simp only [Bool.and_eq_true, Bool.not_eq_true', beq_eq_false_iff_ne] at h
  exact h.1.1.1.2
theorem tie_kind {t : TieD} {n : Int} (h : tieB t n = true) : t.kind = 2 ∨ t.kind = 1 := by
  unfold tieB at h
  simp only [Bool.and_eq_true, Bool.or_eq_true, beq_iff_eq] at h
  exact h.1.1.2
theorem step_rev {ts : List TieD} {n : Nat} (hv : ∀ t ∈ ts, tieB t n = true) {x c i y d : Int} (h : stepF ts (x, c) i = some (y, d)) (e : Int) : stepF ts (y, e) i = some (x, e + (d - c)) := by
  obtain ⟨h0, t, ht, rfl, h1⟩ := step_iff.1 h
  have hne := tie_ne (hv t (List.mem_of_getElem? ht))
  refine step_iff.2 ⟨h0, t, ht, by omega, ?_⟩
  rcases h1 with ⟨rfl, rfl⟩ | ⟨g, rfl, rfl⟩
  · exact .inr ⟨fun h => hne h.symm, rfl, rfl⟩
  · exact .inl ⟨rfl, rfl⟩
theorem lead_rev {ts : List TieD} {n : Nat} (hv : ∀ t ∈ ts, tieB t n = true) : ∀ {l : List Int} {x c y d : Int}, leadF ts l (x, c) = some (y, d) → ∀ e, leadF ts l.reverse (y, e) = some (x, e + (d - c))
  | [], x, c, y, d, h, e => by
    have h : some (x, c) = some (y, d) := h
    injection h with h; injection h with h1 h2
    subst h1; subst h2
    show some (x, e) = some (x, e + (c - c))
    rw [Int.sub_self, Int.add_zero]
  | i :: l, x, c, y, d, h, e => by
    obtain ⟨⟨z, f⟩, h1, h2⟩ := lead_cons_some h
    rw [List.reverse_cons, lead_app, lead_rev hv h2 e]
    show leadF ts [i] (z, e + (d - f)) = _
    rw [lead_cons, step_rev hv h1]
    show some (x, _) = some (x, _)
    congr 2; omega
/-- Over joins alone one stays in a group. -/
theorem lead_us {ts us : List TieD} {n : Nat} (hv : ∀ t ∈ ts, tieB t n = true) : ∀ {l : List Int} {x c y : Int}, (∀ i ∈ l, ∀ t, ts[i.toNat]? = some t → t ∈ us) → leadF ts l (x, c) = some (y, c) → Eqv (TieR (joinsT us)) x.toNat y.toNat
  | [], x, c, y, _, h => by
    have h : some (x, c) = some (y, c) := h
    injection h with h; injection h with h1 h2
    subst h1; exact .refl _
  | i :: l, x, c, y, hu, h => by
    obtain ⟨⟨z, f⟩, h1, h2⟩ := lead_cons_some h
    obtain ⟨h0, t, ht, rfl, hab⟩ := step_iff.1 h1
    have h3 := lead_cuts h2
    have h4 := cutI_le t
    have h5 : cutI t = 0 := by omega
    rw [h5, Int.add_zero] at h2
    have htu := hu i List.mem_cons_self t ht
    have hkd : t.kind = 2 := by
      rcases tie_kind (hv t (List.mem_of_getElem? ht)) with h | h
      · exact h
      · unfold cutI at h5; rw [h] at h5; simp at h5
    have hr : TieR (joinsT us) t.a.toNat t.b.toNat := by
      unfold TieR joinsT
      exact List.mem_map.2 ⟨t, List.mem_filter.2 ⟨htu, by simpa using hkd⟩, rfl⟩
    refine .trans ?_ (lead_us hv (fun i hi => hu i (List.mem_cons_of_mem _ hi)) h2)
    rcases hab with ⟨rfl, rfl⟩ | ⟨_, rfl, rfl⟩
    · exact .base hr
    · exact .symm (.base hr)
theorem lead_same {ts : List TieD} {n : Nat} (hv : ∀ t ∈ ts, tieB t n = true) {l : List Int} {x y c : Int} (hx : x.toNat < n) (hy : y.toNat < n) (h : leadF ts l (x, c) = some (y, c)) : atI (grpL n ts) x = atI (grpL n ts) y :=
  (atI_iff (by rw [grpL_len]; exact hx) (by rw [grpL_len]; exact hy)).2 ((grp_eqv hv hx hy).2 (lead_us hv (fun i _ t ht => List.mem_of_getElem? ht) h))
theorem eqv_lead {ts : List TieD} {n : Nat} (hv : ∀ t ∈ ts, tieB t n = true) {x y : Nat} (h : Eqv (TieR (joinsT ts)) x y) : ∃ l, ∀ c, leadF ts l (x, c) = some ((y : Int), c) := by
  induction h with
  | base hr =>
    unfold TieR joinsT at hr
    obtain ⟨t, ht, he⟩ := List.mem_map.1 hr
    obtain ⟨ht, hk⟩ := List.mem_filter.1 ht
    injection he with h1 h2
    subst h1; subst h2
    obtain ⟨i, hi⟩ := List.mem_iff_getElem?.1 ht
    obtain ⟨ga, _, gb, _, _, _⟩ := tieB_in (hv t ht)
    refine ⟨[(i : Int)], fun c => ?_⟩
    rw [lead_cons, step_iff.2 ⟨by omega, t, by rw [Int.toNat_natCast]; exact hi, rfl, .inl ⟨by omega, rfl⟩⟩]
    have : cutI t = 0 := by unfold cutI; rw [show t.kind = 2 by simpa using hk]; rfl
    rw [this, Int.toNat_of_nonneg gb, Int.add_zero]; rfl
  | refl i => exact ⟨[], fun c => rfl⟩
  | symm _ ih =>
    obtain ⟨l, hl⟩ := ih
    refine ⟨l.reverse, fun c => ?_⟩
    have := lead_rev hv (hl 0) c
    simpa using this
  | trans _ _ ih1 ih2 =>
    obtain ⟨l, hl⟩ := ih1
    obtain ⟨l', hl'⟩ := ih2
    exact ⟨l ++ l', fun c => by rw [lead_app, hl c]; exact hl' c⟩
theorem same_lead {ts : List TieD} {n : Nat} (hv : ∀ t ∈ ts, tieB t n = true) {x y : Nat} (hx : x < n) (hy : y < n) (h : atI (grpL n ts) x = atI (grpL n ts) y) : ∃ l, ∀ c, leadF ts l ((x : Int), c) = some ((y : Int), c) :=
  eqv_lead hv ((grp_eqv hv hx hy).1 ((atI_iff (by rw [grpL_len]; exact hx) (by rw [grpL_len]; exact hy)).1 h))
/-- A walk over one cut: the cut is between both groups. -/
theorem lead_apart {ts : List TieD} {n : Nat} (hv : ∀ t ∈ ts, tieB t n = true) : ∀ {l : List Int} {x y c : Int}, x.toNat < n → y.toNat < n → leadF ts l (x, c) = some (y, c + 1) → apB (grpL n ts) ts x y = true
  | [], x, y, c, _, _, h => by
    have h : some (x, c) = some (y, c + 1) := h
    injection h with h; injection h with h1 h2
    omega
  | i :: l, x, y, c, hx, hy, h => by
    obtain ⟨⟨z, f⟩, h1, h2⟩ := lead_cons_some h
    obtain ⟨h0, t, ht, rfl, hab⟩ := step_iff.1 h1
    have htm := List.mem_of_getElem? ht
    obtain ⟨ga, _, gb, _, ga', gb'⟩ := tieB_in (hv t htm)
    have hz : z.toNat < n := by rcases hab with ⟨_, rfl⟩ | ⟨_, _, rfl⟩ <;> assumption
    rcases tie_kind (hv t htm) with hk | hk
    · have h5 : cutI t = 0 := by unfold cutI; rw [hk]; rfl
      rw [h5, Int.add_zero] at h2 h1
      have h6 := lead_apart hv hz hy h2
      have h7 : atI (grpL n ts) x = atI (grpL n ts) z := lead_same hv (l := [i]) (c := c) hx hz (by rw [lead_cons, h1]; rfl)
      unfold apB cutB at h6 ⊢
      rw [h7]; exact h6
    · have h5 : cutI t = 1 := by unfold cutI; rw [hk]; rfl
      rw [h5] at h2
      have h7 := lead_same hv hz hy h2
      unfold apB
      refine List.any_eq_true.2 ⟨t, htm, ?_⟩
      unfold cutB
      simp only [Bool.and_eq_true, Bool.or_eq_true, beq_iff_eq]
      refine ⟨hk, ?_⟩
      rcases hab with ⟨rfl, rfl⟩ | ⟨_, rfl, rfl⟩
      · exact .inl ⟨rfl, h7⟩
      · exact .inr ⟨h7, rfl⟩
theorem apart_lead {ts : List TieD} {n : Nat} (hv : ∀ t ∈ ts, tieB t n = true) {x y : Nat} (hx : x < n) (hy : y < n) (h : apB (grpL n ts) ts x y = true) : ∃ l, leadF ts l ((x : Int), 0) = some ((y : Int), 1) := by
  unfold apB at h
  obtain ⟨t, ht, hc⟩ := List.any_eq_true.1 h
  obtain ⟨ga, _, gb, _, ga', gb'⟩ := tieB_in (hv t ht)
  have hne := tie_ne (hv t ht)
  obtain ⟨p, hp⟩ := Int.eq_ofNat_of_zero_le ga
  obtain ⟨q, hq⟩ := Int.eq_ofNat_of_zero_le gb
  unfold cutB at hc
  simp only [Bool.and_eq_true, Bool.or_eq_true, beq_iff_eq] at hc
  obtain ⟨i, hi⟩ := List.mem_iff_getElem?.1 ht
  have h5 : cutI t = 1 := by unfold cutI; rw [hc.1]; rfl
  rcases hc.2 with ⟨h1, h2⟩ | ⟨h1, h2⟩
  · rw [hp] at h1; rw [hq] at h2
    obtain ⟨l, hl⟩ := same_lead hv hx (by omega : p < n) h1.symm
    obtain ⟨l', hl'⟩ := same_lead hv (by omega : q < n) hy h2
    refine ⟨l ++ ((i : Int) :: l'), ?_⟩
    rw [lead_app, hl 0]
    show leadF ts ((i : Int) :: l') ((p : Int), 0) = _
    rw [lead_cons, step_iff.2 ⟨by omega, t, by rw [Int.toNat_natCast]; exact hi, rfl, .inl ⟨hp.symm, rfl⟩⟩, h5, hq]
    exact hl' _
  · rw [hp] at h1; rw [hq] at h2
    obtain ⟨l, hl⟩ := same_lead hv hx (by omega : q < n) h2.symm
    obtain ⟨l', hl'⟩ := same_lead hv (by omega : p < n) hy h1
    refine ⟨l ++ ((i : Int) :: l'), ?_⟩
    rw [lead_app, hl 0]
    show leadF ts ((i : Int) :: l') ((q : Int), 0) = _
    rw [lead_cons, step_iff.2 ⟨by omega, t, by rw [Int.toNat_natCast]; exact hi, rfl, .inr ⟨fun e => hne (by omega), hq.symm, rfl⟩⟩, h5, hp]
    exact hl' _
end Go.Proofs.YthjeiaildabadaaGreat
