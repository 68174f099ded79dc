/- Layer 4: the law TiesBottleneck. -/
import Derived.Test.YthjeiaildabadaaGreatT6
import Derived.Test.YthjeiaildabadaaGreatTn
import Derived.Carry
namespace Go.Proofs.YthjeiaildabadaaGreat
set_option linter.unusedSimpArgs false
set_option linter.unusedVariables false
open Go Go.RowKit

theorem tiesBottleneck_speaks (k p z r : Nat) (a : Option Addr) (cap : Nat) (ts : List TieD) (lr : Option Addr) (cq : Nat) (l : List Int) (w : World) (hok : okG k ts = true) (hf : fewB ts.length = true) (hp : p < k) (hz : z < k) (hr : r < k) (hq : l.length ≤ 100) (hs : TiesAt w a ts) (hI : IntsAt w lr l)
    (hsane : ∀ W, Calls Tryz.prog 10 #[] W fun e w' => e = .returned (.bool true) ∧ Below W.heap.size W w') :
    Calls Tryz.prog 6 #[gV k a ts.length cap, .int .i64 p, .int .i64 z, .int .i64 r, .slice lr l.length cq] w fun e w' => e = .returned (.bool true) ∧ Below w.heap.size w w' := by
  obtain ⟨k', hk', hk1, hk2, hl, hv⟩ := okG_parts hok
  obtain rfl : k = k' := by omega
  have hE : ∀ x y : Nat, x < k → y < k → ∀ us : List TieD, okG k us = true → errA k us x y = 0 := fun x y hx hy us hu => errA_of hu (by unfold ftB; simp only [Bool.and_eq_true, decide_eq_true_eq]; omega)
  have hoks : ∀ s, okG k (stF ts s) = true := fun s => okG_mk hk1 hk2 (Nat.le_trans (List.length_filter_le _ _) hl) (stF_valid hv)
  have hW : ∀ x y : Nat, x < k → y < k → ∀ W, Below w.heap.size w W → Calls Tryz.prog 14 #[gV k a ts.length cap, .int .i64 x, .int .i64 y] W fun e w' => (∃ X B, e = .returned (.tuple #[.int .i64 X, .bool B, .int .i64 0]) ∧ WdR k ts x y X B) ∧ Below W.heap.size W w' := fun x y hx hy W hb =>
    (widest_any sort_okT k x y a cap ts W (hE x y hx hy ts hok) (hs.below hb)).mono fun e w' ⟨h1, h2⟩ => ⟨h1.rel, h2⟩
  have hS : ∀ x y : Nat, x < k → y < k → ∀ us : List TieD, okG k us = true → sameR k us x y = samB k us x y := fun x y hx hy us hu => by
    unfold sameR samB
    rw [if_pos (hE x y hx hy us hu), Int.toNat_natCast]
  refine bottle_yes k p z r a cap ts.length lr l.length cq (stF ts) w (samB k ts p z) (chnF ts l p z 0) (leF ts l) (WdR k ts p z) (WdR k ts z p) (WdR k ts z r) (WdR k ts p r) (fun X l2 => X ≤ leF (stF ts X) l2 ∧ l2.length ≤ 1000 ∧ ∀ i ∈ l2, 0 ≤ i ∧ i < (stF ts X).length) hp hz hr hq (Lib.hid hsane) (fun W => by have := few_any k a ts.length cap W (by omega); rw [hf] at this; exact this) (fun W hb => by have h := tCheck_any k a cap ts W (by omega) (hs.below hb); rw [show errG k ts = 0 from by unfold errG; rw [hok]; rfl] at h; exact h) (hW p z hp hz) (hW z p hz hp) (hW z r hz hr) (hW p r hp hr) ?_ ?_ ?_ ?_ ?_ ?_ ?_ ?_ ?_
  · intro W hb
    have h := tSame_any k a cap ts p z W (by omega) (hs.below hb)
    rw [hE p z hp hz ts hok, hS p z hp hz ts hok] at h
    exact h
  · intro X B X2 B2 X3 B3 X4 B4 h1 h2 h3 h4
    obtain ⟨e1, e2⟩ := h1.symm h2 hv hp hz
    refine ⟨h1.same hv hp hz, e1, e2, fun hB hC => h1.tri h3 h4 hv hp hz hr hB hC, ?_⟩
    rcases h1.bound with ⟨g1, g2, _⟩ | g
    · exact .inl ⟨g1, g2⟩
    · exact .inr g
  · intro W hb
    exact checkChain_any k a cap cq ts lr l p z W (by omega) (hE p z hp hz ts hok) (hs.below hb) (hI.below hb)
  · intro h0 W hb
    exact least_any k a cap cq ts lr l W (by omega) (by omega) (hs.below hb) (hI.below hb) (lead_idx (chn_zero.1 h0))
  · intro X B h1 h0
    exact h1.chain hv hp hz (chn_zero.1 h0)
  · intro s h1 h2 W hb
    have h := Strong_any s k a cap ts W (by omega) (hs.below hb)
    have e : strR k ts s = ⟨k, stF ts s, 0⟩ := by unfold strR; rw [hok, if_pos rfl, if_pos (by unfold ftB; simp only [Bool.and_eq_true, decide_eq_true_eq]; omega)]; rfl
    rw [e] at h
    exact h.mono fun e w' ⟨a', c', h1, h2, h3⟩ => ⟨a', c', h1, h2.1, h3⟩
  · intro X h1 W a' c' hT
    have hsm := h1.low hv hp hz rfl (Int.le_refl X)
    have hX : X ≤ 101 := by
      rcases h1.bound with ⟨g, _⟩ | ⟨_, _, g, _⟩
      · cases g
      · exact g
    refine (chain_any k a' c' (stF ts X) p z W (hE p z hp hz _ (hoks X)) hT).mono fun e w' ⟨u, v, he, hw, hb⟩ => ?_
    rcases hw with ⟨_, _, hno⟩ | ⟨rfl, l2, r2, c2, _, hl2, hlen, rfl, hown⟩
    · exfalso
      unfold samB at hsm
      rw [beq_iff_eq] at hsm
      obtain ⟨l3, h3⟩ := same_lead (stF_valid hv) hp hz hsm
      exact hno l3 (h3 0)
    · exact ⟨⟨l2, r2, c2, he, (own_intsB hown).2, le_strong hX hl2, by omega, lead_idx hl2⟩, hb⟩
  · intro X l2 W a' c' r2 c2 hk hT hI2
    have h5 : (stF ts X).length ≤ 1000 := by have := okG_len (hoks X); omega
    exact (least_any k a' c' c2 (stF ts X) r2 l2 W h5 hk.2.1 hT hI2 hk.2.2).mono fun e w' ⟨h1, h2⟩ => ⟨⟨_, h1, hk.1⟩, h2⟩
  · intro X h1 hX W a' c' hT
    have h := tSame_any k a' c' (stF ts (X + 1)) p z W (by have := okG_len (hoks (X + 1)); omega) hT
    rw [hE p z hp hz _ (hoks _), hS p z hp hz _ (hoks _)] at h
    have hf : samB k (stF ts (X + 1)) p z = false := by
      rcases h1 with ⟨_, h2, _⟩ | ⟨_, _, _, h2⟩ | ⟨_, _, _, _, h2, _⟩
      · omega
      · cases h2
      · exact h2
    rw [hf] at h
    exact h
theorem tiesBottleneck_any (n : Int) (a : Option Addr) (cap : Nat) (ts : List TieD) (x y z : Int) (lr : Option Addr) (cq : Nat) (l : List Int) (w : World) (hl : ts.length ≤ 9223372036854775807) (hs : TiesAt w a ts) (hI : IntsAt w lr l)
    (hsane : ∀ W, Calls Tryz.prog 10 #[] W fun e w' => e = .returned (.bool true) ∧ Below W.heap.size W w') :
    Calls Tryz.prog 6 #[gV n a ts.length cap, .int .i64 x, .int .i64 y, .int .i64 z, .slice lr l.length cq] w fun e w' => e = .returned (.bool true) ∧ Below w.heap.size w w' := by
  by_cases h : fewB ts.length = true ∧ l.length ≤ 100 ∧ errG n ts = 0 ∧ 0 ≤ x ∧ 0 ≤ y ∧ 0 ≤ z ∧ x < n ∧ y < n ∧ z < n
  · obtain ⟨h1, h2, h3, h4, h5, h6, h7, h8, h9⟩ := h
    have hok : okG n ts = true := by unfold errG at h3; split at h3; assumption; cases h3
    obtain ⟨p, rfl⟩ := Int.eq_ofNat_of_zero_le h4
    obtain ⟨q, rfl⟩ := Int.eq_ofNat_of_zero_le h5
    obtain ⟨r, rfl⟩ := Int.eq_ofNat_of_zero_le h6
    obtain ⟨k, rfl, _⟩ := okG_parts hok
    exact tiesBottleneck_speaks k p q r a cap ts lr cq l w hok h1 (by omega) (by omega) (by omega) h2 hs hI hsane
  · exact bottle_no n x y z a cap ts.length lr l.length cq w (fewB ts.length) (errG n ts) h (Lib.hid hsane) (fun W => few_any n a ts.length cap W hl) (fun W hb => tCheck_any n a cap ts W hl (hs.below hb))
section
open Go.ChangeShapes
variable {H : Type} {enc : TypeId × Value → H} {P : Program} {w : World} {base : Nat} {spare : Nat → Bool} {held : Bool}
theorem trodAll_five {t0 t1 t2 t3 t4 : TypeId} {args : Array Value} {ds : List (DataW H)} {ps : List MemPlace} (h : DataW.TrodAll enc P w base spare held [t0, t1, t2, t3, t4] args.toList ds ps) :
    ∃ v0 v1 v2 v3 v4 d0 d1 d2 d3 d4 p0 p1 p2 p3 p4, args = #[v0, v1, v2, v3, v4] ∧ ds = [d0, d1, d2, d3, d4] ∧ ps = p0 ++ p1 ++ p2 ++ p3 ++ p4 ∧ DataW.Trod enc P w base spare held t0 v0 d0 p0 ∧ DataW.Trod enc P w base spare held t1 v1 d1 p1 ∧ DataW.Trod enc P w base spare held t2 v2 d2 p2 ∧ DataW.Trod enc P w base spare held t3 v3 d3 p3 ∧ DataW.Trod enc P w base spare held t4 v4 d4 p4 := by
  obtain ⟨v, vs, d, ds', p, q, hargs, rfl, rfl, hd, hrest⟩ := trodAll_cons h
  have hr : DataW.TrodAll enc P w base spare held [t1, t2, t3, t4] vs.toArray.toList ds' q := by simpa using hrest
  obtain ⟨v1, v2, v3, v4, d1, d2, d3, d4, p1, p2, p3, p4, ha, rfl, rfl, h1, h2, h3, h4⟩ := trodAll_four hr
  have hvs : vs = [v1, v2, v3, v4] := by simpa using congrArg Array.toList ha
  exact ⟨v, v1, v2, v3, v4, d, d1, d2, d3, d4, p, p1, p2, p3, p4, by cases args; simp_all, rfl, by simp, hd, h1, h2, h3, h4⟩
theorem trodAll_mk5 {t0 t1 t2 t3 t4 : TypeId} {v0 v1 v2 v3 v4 : Value} {d0 d1 d2 d3 d4 : DataW H} {p0 p1 p2 p3 p4 : List MemPlace} (h0 : DataW.Trod enc P w base spare held t0 v0 d0 p0) (h1 : DataW.Trod enc P w base spare held t1 v1 d1 p1) (h2 : DataW.Trod enc P w base spare held t2 v2 d2 p2) (h3 : DataW.Trod enc P w base spare held t3 v3 d3 p3) (h4 : DataW.Trod enc P w base spare held t4 v4 d4 p4) :
    DataW.TrodAll enc P w base spare held [t0, t1, t2, t3, t4] [v0, v1, v2, v3, v4] [d0, d1, d2, d3, d4] (p0 ++ (p1 ++ (p2 ++ (p3 ++ p4)))) := ⟨p0, p1 ++ (p2 ++ (p3 ++ p4)), h0, trodAll_mk4 h1 h2 h3 h4, rfl⟩
end
end Go.Proofs.YthjeiaildabadaaGreat
