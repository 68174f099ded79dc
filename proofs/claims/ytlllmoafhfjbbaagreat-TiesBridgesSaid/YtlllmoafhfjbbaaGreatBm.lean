/- Layer 4: bridges: plain mathematics. -/
import Derived.Test.YtlllmoafhfjbbaaGreatBh
namespace Go.Proofs.YtlllmoafhfjbbaaGreat
set_option linter.unusedSimpArgs false
set_option linter.unusedVariables false
open Go Go.RowKit

theorem brL_at {k m : Nat} {ts : List TieD} {j : Nat} (hj : j < (brL k ts m).length) : ∃ i : Nat, (brL k ts m)[j] = (i : Int) ∧ i < m := by
  unfold brL at hj ⊢
  rw [List.length_map] at hj
  refine ⟨((List.range m).filter (brB k ts))[j], by rw [List.getElem_map], ?_⟩
  have := List.getElem_mem hj
  rw [List.mem_filter, List.mem_range] at this
  exact this.1
theorem brL_lt {k m : Nat} {ts : List TieD} {j : Nat} (hj : j + 1 < (brL k ts m).length) : (brL k ts m)[j]'(by omega) < (brL k ts m)[j + 1] := by
  unfold brL at hj ⊢
  rw [List.length_map] at hj
  rw [List.getElem_map, List.getElem_map]
  have hp : List.Pairwise (· < ·) ((List.range m).filter (brB k ts)) := List.Pairwise.filter _ List.pairwise_lt_range
  have := List.pairwise_iff_getElem.1 hp j (j + 1) (by omega) hj (by omega)
  omega
theorem brL_mem {k m : Nat} {ts : List TieD} {i : Nat} (hi : i < m) : decide ((i : Int) ∈ brL k ts m) = brB k ts i := by
  unfold brL
  rw [Bool.eq_iff_iff, decide_eq_true_eq, List.mem_map]
  constructor
  · rintro ⟨j, hj, e⟩
    obtain rfl : j = i := by omega
    exact (List.mem_filter.1 hj).2
  · intro h
    exact ⟨i, List.mem_filter.2 ⟨List.mem_range.2 hi, h⟩, rfl⟩
theorem lead_eqv {k : Nat} {ts : List TieD} {i : Nat} (hv : ∀ t ∈ ts, tieB t k = true) : ∀ (l : List Int) (x c0 y c : Int), leadF ts l (x, c0) = some (y, c) → c0 ≤ c ∧ (c = c0 → (i : Int) ∉ l → Eqv (TieR (joinsT (ts.eraseIdx i))) x.toNat y.toNat)
  | [], x, c0, y, c, h => by
    have h : some (x, c0) = some (y, c) := h
    injection h with h; injection h with h1 h2
    subst h1; subst h2
    exact ⟨Int.le_refl _, fun _ _ => .refl _⟩
  | j :: l, x, c0, y, c, h => by
    have h : (stepF ts (x, c0) j).bind (fun p => leadF ts l p) = some (y, c) := h
    unfold stepF at h
    split at h
    case isFalse => cases h
    case isTrue hj =>
      split at h
      case h_2 => cases h
      case h_1 t ht =>
        split at h
        case isFalse => cases h
        case isTrue ho =>
          have h : leadF ts l ((othF t x).1, c0 + cutI t) = some (y, c) := h
          obtain ⟨h1, h2⟩ := lead_eqv hv l _ _ _ _ h
          have hc := cutI_le t
          refine ⟨by omega, fun hcc hil => ?_⟩
          have h0 : cutI t = 0 := by omega
          have h3 := h2 (by omega) (fun h9 => hil (List.mem_cons_of_mem _ h9))
          have htm : t ∈ ts := List.mem_of_getElem? ht
          have hkd : t.kind = 2 := by
            have h4 := hv t htm
            unfold tieB at h4
            simp only [Bool.and_eq_true, Bool.or_eq_true, beq_iff_eq] at h4
            rcases h4.1.1.2 with h5 | h5
            · exact h5
            · unfold cutI at h0; rw [h5] at h0; simp at h0
          have hte : t ∈ ts.eraseIdx i := List.mem_eraseIdx_iff_getElem?.2 ⟨j.toNat, fun e => hil (by rw [← e, Int.toNat_of_nonneg hj]; exact List.mem_cons_self), ht⟩
          have hr : TieR (joinsT (ts.eraseIdx i)) t.a.toNat t.b.toNat := by
            unfold TieR joinsT
            exact List.mem_map.2 ⟨t, List.mem_filter.2 ⟨hte, by simpa using hkd⟩, rfl⟩
          refine .trans ?_ h3
          unfold othF at ho ⊢
          by_cases g1 : x = t.a
          · subst g1; simp only [beq_self_eq_true, if_true]; exact .base hr
          · rw [if_neg (by simpa using g1)] at ho ⊢
            by_cases g2 : x = t.b
            · subst g2; simp only [beq_self_eq_true, if_true]; exact .symm (.base hr)
            · rw [if_neg (by simpa using g2)] at ho; cases ho
/-- A bridge is in each chain between its nodes. -/
theorem bridge_in {k : Nat} {ts : List TieD} {i : Nat} (hv : ∀ t ∈ ts, tieB t k = true) (hi : i < ts.length) (hb : brB k ts i = true) {l : List Int} (h : leadF ts l (ts[i].a, 0) = some (ts[i].b, 0)) : (i : Int) ∈ l := by
  refine Classical.byContradiction fun hil => ?_
  have he := (lead_eqv (i := i) hv l _ _ _ _ h).2 rfl hil
  obtain ⟨_, _, _, _, ha, hb'⟩ := tieB_in (hv ts[i] (List.getElem_mem hi))
  have h1 := (grp_eqv (ts := ts.eraseIdx i) (fun t ht => hv t (mem_eras ht)) ha hb').2 he
  rw [brB_at hi, (atI_iff (by rw [grpL_len]; exact ha) (by rw [grpL_len]; exact hb')).2 h1] at hb
  simp at hb
theorem okG_eras {n : Int} {ts : List TieD} (i : Nat) (h : okG n ts = true) : okG n (ts.eraseIdx i) = true := by
  obtain ⟨k, rfl, h1, h2, h3, h4⟩ := okG_parts h
  exact okG_mk h1 h2 (by have := List.length_eraseIdx_le ts i; omega) fun t ht => h4 t (mem_eras ht)
theorem errA_tie {n : Int} {ts us : List TieD} {t : TieD} (h : okG n us = true) (ho : okG n ts = true) (ht : t ∈ ts) : errA n us t.a t.b = 0 := by
  obtain ⟨k, rfl, _, _, _, h4⟩ := okG_parts ho
  obtain ⟨h1, h2, h3, h5, _, _⟩ := tieB_in (h4 t ht)
  refine errA_of h ?_
  unfold ftB
  simp only [Bool.and_eq_true, decide_eq_true_eq]
  omega
theorem same_eras {n : Int} {ts : List TieD} {i : Nat} (hi : i < ts.length) (ho : okG n ts = true) : brB n.toNat ts i = (ts[i].kind == 2 && !sameR n (ts.eraseIdx i) ts[i].a ts[i].b) := by
  rw [brB_at hi]
  unfold sameR
  rw [if_pos (errA_tie (okG_eras i ho) ho (List.getElem_mem hi))]
end Go.Proofs.YtlllmoafhfjbbaaGreat
