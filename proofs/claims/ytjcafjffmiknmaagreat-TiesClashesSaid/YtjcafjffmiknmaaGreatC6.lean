/- Layer 4: the law TiesWitness, for all arguments. -/
import Derived.Test.YtjcafjffmiknmaaGreatC5
namespace Go.Proofs.YtjcafjffmiknmaaGreat
set_option linter.unusedSimpArgs false
set_option linter.unusedVariables false
open Go Go.RowKit

theorem chn_zero {ts : List TieD} {l : List Int} {x y c : Int} : chnF ts l x y c = 0 ↔ leadF ts l (x, 0) = some (y, c) := by
  unfold chnF
  split
  · rename_i h; exact ⟨fun _ => by simpa using h, fun _ => rfl⟩
  · rename_i h; exact ⟨fun e => by omega, fun e => absurd (by simpa using e) h⟩
theorem chn_two (ts : List TieD) (l : List Int) (x y c : Int) : chnF ts l x y c = 0 ∨ chnF ts l x y c = 42 := by
  unfold chnF; split
  · exact .inl rfl
  · exact .inr rfl
theorem wp_chain {k p z base : Nat} {ts : List TieD} {u : Value} {v : Bool} {w' : World} (hv : ∀ t ∈ ts, tieB t k = true) (hp : p < k) (hz : z < k) (h : WP ts 0 p z base u v w') : v = decide (atI (grpL k ts) p = atI (grpL k ts) z) ∧ (v = true → LstA (fun l => chnF ts l p z 0 = 0) u w') := by
  rcases h with ⟨rfl, rfl, h⟩ | ⟨rfl, l, r, c, h1, h2, h3, rfl, h4⟩
  · refine ⟨(decide_eq_false fun e => ?_).symm, fun h => by cases h⟩
    obtain ⟨l, hl⟩ := same_lead hv hp hz e
    exact h l (hl 0)
  · refine ⟨(decide_eq_true (lead_same hv (by simpa using hp) (by simpa using hz) h2)).symm, fun _ => ⟨l, r, c, rfl, by omega, chn_zero.2 h2, (own_intsB h4).2⟩⟩
theorem wp_why {k p z base : Nat} {ts : List TieD} {u : Value} {v : Bool} {w' : World} (hv : ∀ t ∈ ts, tieB t k = true) (hp : p < k) (hz : z < k) (h : WP ts 1 p z base u v w') : v = apB (grpL k ts) ts p z ∧ (v = true → LstA (fun l => chnF ts l p z 1 = 0) u w') := by
  rcases h with ⟨rfl, rfl, h⟩ | ⟨rfl, l, r, c, h1, h2, h3, rfl, h4⟩
  · refine ⟨?_, fun h => by cases h⟩
    cases he : apB (grpL k ts) ts p z with
    | false => rfl
    | true =>
      obtain ⟨l, hl⟩ := apart_lead hv hp hz he
      exact absurd hl (h l)
  · exact ⟨(lead_apart hv (c := 0) (by simpa using hp) (by simpa using hz) h2).symm, fun _ => ⟨l, r, c, rfl, by omega, chn_zero.2 h2, (own_intsB h4).2⟩⟩
theorem clash_con {k : Nat} {ts : List TieD} {l : List Int} (hv : ∀ t ∈ ts, tieB t k = true) (h : clashF k ts l = true) : ts.any (wrB (grpL k ts)) = true := by
  unfold clashF conF at h
  simp only [Bool.and_eq_true] at h
  obtain ⟨t, ht, hw⟩ := List.any_eq_true.1 h.2.1
  have htm := subF_mem ht
  obtain ⟨_, _, _, _, ga, gb⟩ := tieB_in (hv t htm)
  refine List.any_eq_true.2 ⟨t, htm, ?_⟩
  unfold wrB at hw ⊢
  simp only [Bool.and_eq_true, beq_iff_eq] at hw ⊢
  exact ⟨hw.1, grp_sub (fun t ht => hv t (subF_mem ht)) hv (fun t ht => subF_mem ht) ga gb hw.2⟩
theorem errA_tieW {n : Int} {ts : List TieD} {t : TieD} (ho : okG n ts = true) (ht : t ∈ ts) : errA n ts t.a t.b = 0 := by
  obtain ⟨k, rfl, _, _, _, h4⟩ := okG_parts ho
  obtain ⟨h1, h2, h3, h5, _, _⟩ := tieB_in (h4 t ht)
  refine errA_of ho ?_
  unfold ftB
  simp only [Bool.and_eq_true, decide_eq_true_eq]
  omega
theorem join_same {k : Nat} {ts : List TieD} (hv : ∀ t ∈ ts, tieB t k = true) {t : TieD} (ht : t ∈ ts) : t.kind = 2 ∧ atI (grpL k ts) t.a = atI (grpL k ts) t.b ∨ t.kind = 1 := by
  obtain ⟨_, _, _, _, ga, gb⟩ := tieB_in (hv t ht)
  rcases tie_kind (hv t ht) with hk | hk
  · refine .inl ⟨hk, (atI_iff (by rw [grpL_len]; exact ga) (by rw [grpL_len]; exact gb)).2 ((grp_eqv hv ga gb).2 (.base ?_))⟩
    unfold TieR joinsT
    exact List.mem_map.2 ⟨t, List.mem_filter.2 ⟨ht, by simp [hk]⟩, rfl⟩
  · exact .inr hk
set_option maxRecDepth 100000 in
set_option maxHeartbeats 4000000 in
theorem tiesWitness_any (n : Int) (a r : Option Addr) (cap cq : Nat) (ts : List TieD) (P : List Int) (x y : Int) (w : World) (hl : ts.length ≤ 9223372036854775807) (hs : TiesAt w a ts) (hr : IntsAt w r P)
    (hsane : ∀ W, Calls Tryz.prog 7 #[] W fun e w' => e = .returned (.bool true) ∧ Below W.heap.size W w') :
    Calls Tryz.prog 6 #[gV n a ts.length cap, .int .i64 x, .int .i64 y, .slice r P.length cq] w fun e w' => e = .returned (.bool true) ∧ Below w.heap.size w w' := by
  by_cases hno : fewB ts.length = false ∨ 100 < P.length ∨ errA n ts x y ≠ 0
  · exact tiesWitness_no n a r cap cq ts.length P.length ts x y w rfl hl hs hno hsane
  have hf : fewB ts.length = true := by cases h : fewB ts.length with | true => rfl | false => exact absurd (.inl h) hno
  have hq : P.length ≤ 100 := by
    rcases Nat.lt_or_ge 100 P.length with h | h
    · exact absurd (.inr (.inl h)) hno
    · exact h
  have h0 : errA n ts x y = 0 := Classical.byContradiction fun h => hno (.inr (.inr h))
  clear hno
  obtain ⟨hok, hxy⟩ := errA_ok h0
  obtain ⟨k, rfl, hk1, hk2, hl5, hv⟩ := okG_parts hok
  unfold ftB at hxy
  simp only [Bool.and_eq_true, decide_eq_true_eq] at hxy
  obtain ⟨p, rfl⟩ := Int.eq_ofNat_of_zero_le hxy.1.1
  obtain ⟨z, rfl⟩ := Int.eq_ofNat_of_zero_le hxy.2.1
  have hp : p < k := by omega
  have hz : z < k := by omega
  have hG : errG (k : Int) ts = 0 := by unfold errG; rw [hok]; rfl
  refine tiesWitness_yes k a r cap cq ts.length P.length ts (grpL k ts) P p z w (sameR k ts p z) (apartR k ts p z) (ts.any (wrB (grpL k ts))) (chnF ts P p z 0) (chnF ts P p z 1) (if clashF k ts P then 0 else 42) hp hz hq rfl (by omega) hs hr (fun t ht => join_same hv ht) (Lib.hid hsane) ?_ ?_ ?_ ?_ ?_ ?_ ?_ ?_ ?_ ?_ ?_ ?_ ?_ ?_ ?_ ?_ ?_ rfl
  · intro W; have h := few_any (k : Int) a ts.length cap W hl; rw [hf] at h; exact h
  · intro W hb; have h := tCheck_any (k : Int) a cap ts W hl (hs.below hb); rw [hG] at h; exact h
  · intro W hb; have h := tSame_any (k : Int) a cap ts p z W hl (hs.below hb); rw [h0] at h; exact h
  · intro W hb; have h := tApart_any (k : Int) a cap ts p z W hl (hs.below hb); rw [h0] at h; exact h
  · intro W hb
    refine (chain_any (k : Int) a cap ts p z W h0 (hs.below hb)).mono fun e w' ⟨u, v, h1, h2, h3⟩ => ?_
    obtain ⟨h4, h5⟩ := wp_chain hv hp hz h2
    rw [← same_dec h0] at h4
    subst h4
    exact ⟨u, h1, h5, h3⟩
  · intro W hb
    refine (why_any (k : Int) a cap ts p z W h0 (hs.below hb)).mono fun e w' ⟨u, v, h1, h2, h3⟩ => ?_
    obtain ⟨h4, h5⟩ := wp_why hv hp hz h2
    rw [← apart_dec h0] at h4
    subst h4
    exact ⟨u, h1, h5, h3⟩
  · intro W hb
    cases hC : ts.any (wrB (grpL k ts)) with
    | false => exact (clash_none k a cap ts W hk2 hl5 hv hG hC (hs.below hb)).mono fun e w' ⟨h1, h2⟩ => ⟨_, h1, (fun h => by cases h), h2⟩
    | true =>
      refine (clash_some k a cap ts W hk2 hl5 hv hG hC (hs.below hb)).mono fun e w' ⟨⟨j, t, l, rr, c, hj, hw, hch, hll, h1, h2⟩, h3⟩ => ?_
      obtain ⟨h4, h5⟩ := own_intsB h2
      refine ⟨_, h1, fun _ => ⟨_, rr, c, by rw [h4], ?_, (clash_ok hk2 hv hj hw hch).1, h5⟩, h3⟩
      rw [← h4]; omega
  · intro W u hb hu
    obtain ⟨l, rr, c, rfl, h1, h2, h3⟩ := hu
    have h := checkChain_any (k : Int) a cap c ts rr l p z W h1 h0 (hs.below hb) h3
    rw [h2] at h; exact h
  · intro W u hb hu
    obtain ⟨l, rr, c, rfl, h1, h2, h3⟩ := hu
    have h := checkWhy_any (k : Int) a cap c ts rr l p z W h1 h0 (hs.below hb) h3
    rw [h2] at h; exact h
  · intro W u hb hu
    obtain ⟨l, rr, c, rfl, h1, h2, h3⟩ := hu
    have h := checkClash_any k a cap c ts rr l W h1 hok (hs.below hb) h3
    rw [h2] at h; exact h
  · intro W hb; exact checkChain_any (k : Int) a cap cq ts r P p z W (by omega) h0 (hs.below hb) (hr.below hb)
  · intro W hb; exact checkWhy_any (k : Int) a cap cq ts r P p z W (by omega) h0 (hs.below hb) (hr.below hb)
  · intro W hb; exact checkClash_any k a cap cq ts r P W (by omega) hok (hs.below hb) (hr.below hb)
  · rcases chn_two ts P p z 0 with h | h
    · exact .inl ⟨by rw [same_dec h0]; exact decide_eq_true (lead_same hv (by simpa using hp) (by simpa using hz) (chn_zero.1 h)), h⟩
    · exact .inr h
  · rcases chn_two ts P p z 1 with h | h
    · exact .inl ⟨by rw [apart_dec h0]; exact lead_apart hv (c := 0) (by simpa using hp) (by simpa using hz) (chn_zero.1 h), h⟩
    · exact .inr h
  · cases hc : clashF k ts P with
    | true => exact .inl ⟨clash_con hv hc, rfl⟩
    | false => exact .inr rfl
  · intro W t ht hb
    have he := errA_tieW hok ht
    have h := tSame_any (k : Int) a cap ts t.a t.b W hl (hs.below hb)
    rw [he] at h
    unfold sameR at h
    rw [if_pos he, Int.toNat_natCast] at h
    exact h
end Go.Proofs.YtjcafjffmiknmaaGreat
