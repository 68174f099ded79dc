/- Layer 4: walks and groups: plain mathematics. -/
import Derived.Test.YtjcafjffmiknmaaGreatQt
namespace Go.Proofs.YtjcafjffmiknmaaGreat
set_option linter.unusedSimpArgs false
set_option linter.unusedVariables false
open Go Go.RowKit

/-- One step: over a tie of two nodes. -/
theorem step_iff {ts : List TieD} {x c i y d : Int} : stepF ts (x, c) i = some (y, d) ↔ 0 ≤ i ∧ ∃ t, ts[i.toNat]? = some t ∧ d = c + cutI t ∧ ((x = t.a ∧ y = t.b) ∨ (x ≠ t.a ∧ x = t.b ∧ y = t.a)) := by
  unfold stepF
  by_cases hi : 0 ≤ i
  · rw [if_pos hi]
    cases ht : ts[i.toNat]? with
    | none => simp
    | some t =>
      simp only [Option.some.injEq, exists_eq_left', hi, true_and]
      have ho : othF t x = if x = t.a then (t.b, true) else if x = t.b then (t.a, true) else (0, false) := by unfold othF; simp only [beq_iff_eq]
      rw [ho]
      by_cases g1 : x = t.a
      · rw [if_pos g1]
        simp only [if_true, Option.some.injEq, Prod.mk.injEq]
        constructor
        · rintro ⟨rfl, rfl⟩; exact ⟨rfl, .inl ⟨g1, rfl⟩⟩
        · rintro ⟨rfl, ⟨_, rfl⟩ | ⟨h, _⟩⟩
          · exact ⟨rfl, rfl⟩
          · exact absurd g1 h
      · rw [if_neg g1]
        by_cases g2 : x = t.b
        · rw [if_pos g2]
          simp only [if_true, Option.some.injEq, Prod.mk.injEq]
          constructor
          · rintro ⟨rfl, rfl⟩; exact ⟨rfl, .inr ⟨g1, g2, rfl⟩⟩
          · rintro ⟨rfl, ⟨h, _⟩ | ⟨_, _, rfl⟩⟩
            · exact absurd h g1
            · exact ⟨rfl, rfl⟩
        · rw [if_neg g2]
          simp only [Bool.false_eq_true, if_false, reduceCtorEq, false_iff]
          rintro ⟨_, ⟨h, _⟩ | ⟨_, h, _⟩⟩
          · exact g1 h
          · exact g2 h
  · rw [if_neg hi]; simp [hi]
theorem lead_nil {ts : List TieD} {p : Int × Int} : leadF ts [] p = some p := rfl
theorem lead_cons {ts : List TieD} {i : Int} {l : List Int} {p : Int × Int} : leadF ts (i :: l) p = (stepF ts p i).bind fun x => leadF ts l x := rfl
theorem lead_app {ts : List TieD} {l l' : List Int} {p : Int × Int} : leadF ts (l ++ l') p = (leadF ts l p).bind fun x => leadF ts l' x := by
  unfold leadF; rw [List.foldlM_append]; rfl
theorem lead_cons_some {ts : List TieD} {i : Int} {l : List Int} {p q : Int × Int} (h : leadF ts (i :: l) p = some q) : ∃ x, stepF ts p i = some x ∧ leadF ts l x = some q := by
  rw [lead_cons] at h
  cases hs : stepF ts p i with
  | none => rw [hs] at h; cases h
  | some x => rw [hs] at h; exact ⟨x, rfl, h⟩
theorem step_shift {ts : List TieD} {x c i y d : Int} (e : Int) (h : stepF ts (x, c) i = some (y, d)) : stepF ts (x, c + e) i = some (y, d + e) := by
  obtain ⟨h0, t, ht, rfl, h1⟩ := step_iff.1 h
  exact step_iff.2 ⟨h0, t, ht, by omega, h1⟩
theorem lead_shift {ts : List TieD} (e : Int) : ∀ {l : List Int} {x c y d : Int}, leadF ts l (x, c) = some (y, d) → leadF ts l (x, c + e) = some (y, d + e)
  | [], x, c, y, d, h => by
    have h : some (x, c) = some (y, d) := h
    injection h with h; injection h with h1 h2
    subst h1; subst h2; rfl
  | i :: l, x, c, y, d, h => by
    obtain ⟨⟨z, f⟩, h1, h2⟩ := lead_cons_some h
    rw [lead_cons, step_shift e h1]
    exact lead_shift e h2
theorem lead_cuts {ts : List TieD} : ∀ {l : List Int} {x c y d : Int}, leadF ts l (x, c) = some (y, d) → c ≤ d
  | [], x, c, y, d, h => by
    have h : some (x, c) = some (y, d) := h
    injection h with h; injection h with h1 h2
    omega
  | i :: l, x, c, y, d, h => by
    obtain ⟨⟨z, f⟩, h1, h2⟩ := lead_cons_some h
    obtain ⟨h0, t, ht, rfl, _⟩ := step_iff.1 h1
    have := lead_cuts h2
    have := cutI_le t
    omega
theorem tie_ne {t : TieD} {n : Int} (h : tieB t n = true) : t.a ≠ t.b := by
  unfold tieB at h
  simp only [Bool.and_eq_true, Bool.not_eq_true', beq_eq_false_iff_ne] at h
  exact h.1.1.1.2
theorem tie_kind {t : TieD} {n : Int} (h : tieB t n = true) : t.kind = 2 ∨ t.kind = 1 := by
  unfold tieB at h
  simp only [Bool.and_eq_true, Bool.or_eq_true, beq_iff_eq] at h
  exact h.1.1.2
theorem step_rev {ts : List TieD} {n : Nat} (hv : ∀ t ∈ ts, tieB t n = true) {x c i y d : Int} (h : stepF ts (x, c) i = some (y, d)) (e : Int) : stepF ts (y, e) i = some (x, e + (d - c)) := by
  obtain ⟨h0, t, ht, rfl, h1⟩ := step_iff.1 h
  have hne := tie_ne (hv t (List.mem_of_getElem? ht))
  refine step_iff.2 ⟨h0, t, ht, by omega, ?_⟩
  rcases h1 with ⟨rfl, rfl⟩ | ⟨g, rfl, rfl⟩
  · exact .inr ⟨fun h => hne h.symm, rfl, rfl⟩
  · exact .inl ⟨rfl, rfl⟩
theorem lead_rev {ts : List TieD} {n : Nat} (hv : ∀ t ∈ ts, tieB t n = true) : ∀ {l : List Int} {x c y d : Int}, leadF ts l (x, c) = some (y, d) → ∀ e, leadF ts l.reverse (y, e) = some (x, e + (d - c))
  | [], x, c, y, d, h, e => by
    have h : some (x, c) = some (y, d) := h
    injection h with h; injection h with h1 h2
    subst h1; subst h2
    show some (x, e) = some (x, e + (c - c))
    rw [Int.sub_self, Int.add_zero]
  | i :: l, x, c, y, d, h, e => by
    obtain ⟨⟨z, f⟩, h1, h2⟩ := lead_cons_some h
    rw [List.reverse_cons, lead_app, lead_rev hv h2 e]
    show leadF ts [i] (z, e + (d - f)) = _
    rw [lead_cons, step_rev hv h1]
    show some (x, _) = some (x, _)
    congr 2; omega
/-- Over joins alone one stays in a group. -/
theorem lead_us {ts us : List TieD} {n : Nat} (hv : ∀ t ∈ ts, tieB t n = true) : ∀ {l : List Int} {x c y : Int}, (∀ i ∈ l, ∀ t, ts[i.toNat]? = some t → t ∈ us) → leadF ts l (x, c) = some (y, c) → Eqv (TieR (joinsT us)) x.toNat y.toNat
  | [], x, c, y, _, h => by
    have h : some (x, c) = some (y, c) := h
    injection h with h; injection h with h1 h2
    subst h1; exact .refl _
  | i :: l, x, c, y, hu, h => by
    obtain ⟨⟨z, f⟩, h1, h2⟩ := lead_cons_some h
    obtain ⟨h0, t, ht, rfl, hab⟩ := step_iff.1 h1
    have h3 := lead_cuts h2
    have h4 := cutI_le t
    have h5 : cutI t = 0 := by omega
    rw [h5, Int.add_zero] at h2
    have htu := hu i List.mem_cons_self t ht
    have hkd : t.kind = 2 := by
      rcases tie_kind (hv t (List.mem_of_getElem? ht)) with h | h
      · exact h
      · unfold cutI at h5; rw [h] at h5; simp at h5
    have hr : TieR (joinsT us) t.a.toNat t.b.toNat := by
      unfold TieR joinsT
      exact List.mem_map.2 ⟨t, List.mem_filter.2 ⟨htu, by simpa using hkd⟩, rfl⟩
    refine .trans ?_ (lead_us hv (fun i hi => hu i (List.mem_cons_of_mem _ hi)) h2)
    rcases hab with ⟨rfl, rfl⟩ | ⟨_, rfl, rfl⟩
    · exact .base hr
    · exact .symm (.base hr)
theorem lead_same {ts : List TieD} {n : Nat} (hv : ∀ t ∈ ts, tieB t n = true) {l : List Int} {x y c : Int} (hx : x.toNat < n) (hy : y.toNat < n) (h : leadF ts l (x, c) = some (y, c)) : atI (grpL n ts) x = atI (grpL n ts) y :=
  (atI_iff (by rw [grpL_len]; exact hx) (by rw [grpL_len]; exact hy)).2 ((grp_eqv hv hx hy).2 (lead_us hv (fun i _ t ht => List.mem_of_getElem? ht) h))
theorem eqv_lead {ts : List TieD} {n : Nat} (hv : ∀ t ∈ ts, tieB t n = true) {x y : Nat} (h : Eqv (TieR (joinsT ts)) x y) : ∃ l, ∀ c, leadF ts l (x, c) = some ((y : Int), c) := by
  induction h with
  | base hr =>
    unfold TieR joinsT at hr
    obtain ⟨t, ht, he⟩ := List.mem_map.1 hr
    obtain ⟨ht, hk⟩ := List.mem_filter.1 ht
    injection he with h1 h2
    subst h1; subst h2
    obtain ⟨i, hi⟩ := List.mem_iff_getElem?.1 ht
    obtain ⟨ga, _, gb, _, _, _⟩ := tieB_in (hv t ht)
    refine ⟨[(i : Int)], fun c => ?_⟩
    rw [lead_cons, step_iff.2 ⟨by omega, t, by rw [Int.toNat_natCast]; exact hi, rfl, .inl ⟨by omega, rfl⟩⟩]
    have : cutI t = 0 := by unfold cutI; rw [show t.kind = 2 by simpa using hk]; rfl
    rw [this, Int.toNat_of_nonneg gb, Int.add_zero]; rfl
  | refl i => exact ⟨[], fun c => rfl⟩
  | symm _ ih =>
    obtain ⟨l, hl⟩ := ih
    refine ⟨l.reverse, fun c => ?_⟩
    have := lead_rev hv (hl 0) c
    simpa using this
  | trans _ _ ih1 ih2 =>
    obtain ⟨l, hl⟩ := ih1
    obtain ⟨l', hl'⟩ := ih2
    exact ⟨l ++ l', fun c => by rw [lead_app, hl c]; exact hl' c⟩
theorem same_lead {ts : List TieD} {n : Nat} (hv : ∀ t ∈ ts, tieB t n = true) {x y : Nat} (hx : x < n) (hy : y < n) (h : atI (grpL n ts) x = atI (grpL n ts) y) : ∃ l, ∀ c, leadF ts l ((x : Int), c) = some ((y : Int), c) :=
  eqv_lead hv ((grp_eqv hv hx hy).1 ((atI_iff (by rw [grpL_len]; exact hx) (by rw [grpL_len]; exact hy)).1 h))
/-- A walk over one cut: the cut is between both groups. -/
theorem lead_apart {ts : List TieD} {n : Nat} (hv : ∀ t ∈ ts, tieB t n = true) : ∀ {l : List Int} {x y c : Int}, x.toNat < n → y.toNat < n → leadF ts l (x, c) = some (y, c + 1) → apB (grpL n ts) ts x y = true
  | [], x, y, c, _, _, h => by
    have h : some (x, c) = some (y, c + 1) := h
    injection h with h; injection h with h1 h2
    omega
  | i :: l, x, y, c, hx, hy, h => by
    obtain ⟨⟨z, f⟩, h1, h2⟩ := lead_cons_some h
    obtain ⟨h0, t, ht, rfl, hab⟩ := step_iff.1 h1
    have htm := List.mem_of_getElem? ht
    obtain ⟨ga, _, gb, _, ga', gb'⟩ := tieB_in (hv t htm)
    have hz : z.toNat < n := by rcases hab with ⟨_, rfl⟩ | ⟨_, _, rfl⟩ <;> assumption
    rcases tie_kind (hv t htm) with hk | hk
    · have h5 : cutI t = 0 := by unfold cutI; rw [hk]; rfl
      rw [h5, Int.add_zero] at h2 h1
      have h6 := lead_apart hv hz hy h2
      have h7 : atI (grpL n ts) x = atI (grpL n ts) z := lead_same hv (l := [i]) (c := c) hx hz (by rw [lead_cons, h1]; rfl)
      unfold apB cutB at h6 ⊢
      rw [h7]; exact h6
    · have h5 : cutI t = 1 := by unfold cutI; rw [hk]; rfl
      rw [h5] at h2
      have h7 := lead_same hv hz hy h2
      unfold apB
      refine List.any_eq_true.2 ⟨t, htm, ?_⟩
      unfold cutB
      simp only [Bool.and_eq_true, Bool.or_eq_true, beq_iff_eq]
      refine ⟨hk, ?_⟩
      rcases hab with ⟨rfl, rfl⟩ | ⟨_, rfl, rfl⟩
      · exact .inl ⟨rfl, h7⟩
      · exact .inr ⟨h7, rfl⟩
theorem apart_lead {ts : List TieD} {n : Nat} (hv : ∀ t ∈ ts, tieB t n = true) {x y : Nat} (hx : x < n) (hy : y < n) (h : apB (grpL n ts) ts x y = true) : ∃ l, leadF ts l ((x : Int), 0) = some ((y : Int), 1) := by
  unfold apB at h
  obtain ⟨t, ht, hc⟩ := List.any_eq_true.1 h
  obtain ⟨ga, _, gb, _, ga', gb'⟩ := tieB_in (hv t ht)
  have hne := tie_ne (hv t ht)
  obtain ⟨p, hp⟩ := Int.eq_ofNat_of_zero_le ga
  obtain ⟨q, hq⟩ := Int.eq_ofNat_of_zero_le gb
  unfold cutB at hc
  simp only [Bool.and_eq_true, Bool.or_eq_true, beq_iff_eq] at hc
  obtain ⟨i, hi⟩ := List.mem_iff_getElem?.1 ht
  have h5 : cutI t = 1 := by unfold cutI; rw [hc.1]; rfl
  rcases hc.2 with ⟨h1, h2⟩ | ⟨h1, h2⟩
  · rw [hp] at h1; rw [hq] at h2
    obtain ⟨l, hl⟩ := same_lead hv hx (by omega : p < n) h1.symm
    obtain ⟨l', hl'⟩ := same_lead hv (by omega : q < n) hy h2
    refine ⟨l ++ ((i : Int) :: l'), ?_⟩
    rw [lead_app, hl 0]
    show leadF ts ((i : Int) :: l') ((p : Int), 0) = _
    rw [lead_cons, step_iff.2 ⟨by omega, t, by rw [Int.toNat_natCast]; exact hi, rfl, .inl ⟨hp.symm, rfl⟩⟩, h5, hq]
    exact hl' _
  · rw [hp] at h1; rw [hq] at h2
    obtain ⟨l, hl⟩ := same_lead hv hx (by omega : q < n) h2.symm
    obtain ⟨l', hl'⟩ := same_lead hv (by omega : p < n) hy h1
    refine ⟨l ++ ((i : Int) :: l'), ?_⟩
    rw [lead_app, hl 0]
    show leadF ts ((i : Int) :: l') ((q : Int), 0) = _
    rw [lead_cons, step_iff.2 ⟨by omega, t, by rw [Int.toNat_natCast]; exact hi, rfl, .inr ⟨fun e => hne (by omega), hq.symm, rfl⟩⟩, h5, hp]
    exact hl' _
end Go.Proofs.YtjcafjffmiknmaaGreat
