/- Layer 4: the law TiesMore, for all arguments. -/
import Derived.Test.YtklcbccfbiljjaaGreatMp
namespace Go.Proofs.YtklcbccfbiljjaaGreat
set_option linter.unusedSimpArgs false
set_option linter.unusedVariables false
open Go Go.RowKit

theorem gres_of {r r' : GR} {W : World} (e : r = r') {f : FuncId} {vs : Array Value} (h : Calls Tryz.prog f vs W (GRes' r W)) : Calls Tryz.prog f vs W (GRes' r' W) := e ▸ h
set_option maxRecDepth 100000 in
set_option maxHeartbeats 4000000 in
theorem tiesMore_any (n n' : Int) (a b : Option Addr) (cap cap' : Nat) (ts us : List TieD) (t : TieD) (x y : Int) (w : World) (hl : ts.length ≤ 9223372036854775807) (hl' : us.length ≤ 9223372036854775807) (hs : TiesAt w a ts) (ht : TiesAt w b us)
    (hsane : ∀ W, Calls Tryz.prog 5 #[] W fun e w' => e = .returned (.bool true) ∧ Below W.heap.size W w') :
    Calls Tryz.prog 3 #[gV n a ts.length cap, gV n' b us.length cap', tieV t, .int .i64 x, .int .i64 y] w fun e w' => e = .returned (.bool true) ∧ Below w.heap.size w w' := by
  by_cases hno : 40 < ts.length ∨ 40 < us.length ∨ errA n ts x y ≠ 0
  · exact tiesMore_no n n' a b cap cap' ts.length us.length ts us t x y w rfl hl hl' hs hno hsane
  have h1 : ¬ 40 < ts.length := fun h => hno (.inl h)
  have h2 : ¬ 40 < us.length := fun h => hno (.inr (.inl h))
  have h0 : errA n ts x y = 0 := Classical.byContradiction fun h => hno (.inr (.inr h))
  clear hno
  obtain ⟨hok, hxy⟩ := errA_ok h0
  have hn : 0 ≤ x ∧ x ≤ n - 1 ∧ 0 ≤ y ∧ y ≤ n - 1 := by
    unfold ftB at hxy
    simp only [Bool.and_eq_true, decide_eq_true_eq] at hxy
    exact ⟨hxy.1.1, hxy.1.2, hxy.2.1, hxy.2.2⟩
  have HC : Hid (∀ W, Below w.heap.size w W → Calls Tryz.prog 6 #[gV n a ts.length cap] W fun e w' => e = .returned (.int .i64 0) ∧ Below W.heap.size W w') := fun W hb => by
    have h := tCheck_any n a cap ts W hl (hs.below hb)
    rw [show errG n ts = 0 from by unfold errG; rw [hok]; rfl] at h; exact h
  have HS : Hid (∀ W, Below w.heap.size w W → Calls Tryz.prog 7 #[gV n a ts.length cap, .int .i64 x, .int .i64 y] W fun e w' => e = .returned (.tuple #[.bool (sameR n ts x y), .int .i64 0]) ∧ Below W.heap.size W w') := fun W hb => by
    have h := tSame_any n a cap ts x y W hl (hs.below hb); rw [h0] at h; exact h
  have HA : Hid (∀ W, Below w.heap.size w W → Calls Tryz.prog 8 #[gV n a ts.length cap, .int .i64 x, .int .i64 y] W fun e w' => e = .returned (.tuple #[.bool (apartR n ts x y), .int .i64 0]) ∧ Below W.heap.size W w') := fun W hb => by
    have h := tApart_any n a cap ts x y W hl (hs.below hb); rw [h0] at h; exact h
  have HM0 : Hid (∀ W, Below w.heap.size w W → Calls Tryz.prog 9 #[gV n a ts.length cap, gV n a ts.length cap] W (GRes' ⟨n, ts, 0⟩ W)) := fun W hb => gres_of (mrg_self n ts hok) (Merge_any n n a a cap cap ts ts W hl hl (hs.below hb) (hs.below hb))
  have HSG : Hid (∀ W a1 c1, Below w.heap.size w W → TiesAt W a1 ts → Calls Tryz.prog 10 #[.agg #[.int .i64 n, .slice a1 ts.length c1], gV n a ts.length cap] W fun e w' => e = .returned (.bool true) ∧ Below W.heap.size W w') := fun W a1 c1 hb h => same_self n a1 a c1 cap ts (by omega) W h (hs.below hb)
  have HAD : Hid (∀ W, Below w.heap.size w W → Calls Tryz.prog 11 #[gV n a ts.length cap, tieV t] W (GRes' (addR n ts t) W)) := fun W hb => tAdd_any t n a cap ts W hl (hs.below hb)
  obtain ⟨RA, hRA⟩ : ∃ RA, RA = addR n ts t := ⟨_, rfl⟩
  have HADD : Hid (RA.er = 0 → RA = ⟨n, ts ++ [t], 0⟩ ∧ errA n (ts ++ [t]) x y = 0 ∧ (sameR n ts x y = true → sameR n (ts ++ [t]) x y = true) ∧ (apartR n ts x y = true → apartR n (ts ++ [t]) x y = true)) := fun he => by rw [hRA] at he ⊢; exact add_more h0 he
  rw [← hRA] at HAD
  clear hRA
  have hlt : (ts ++ [t]).length ≤ 9223372036854775807 := by simp; omega
  have HMS : Hid (RA.er = 0 → ∀ W a' c', TiesAt W a' RA.ts → Calls Tryz.prog 7 #[gV RA.n a' RA.ts.length c', .int .i64 x, .int .i64 y] W fun e w' => e = .returned (.tuple #[.bool (sameR n (ts ++ [t]) x y), .int .i64 0]) ∧ Below W.heap.size W w') := fun he W a' c' hT => by
    obtain ⟨e1, e2, _, _⟩ := HADD.out he
    rw [e1] at hT ⊢
    have h := tSame_any n a' c' (ts ++ [t]) x y W hlt hT; rw [e2] at h; exact h
  have HMA : Hid (RA.er = 0 → ∀ W a' c', TiesAt W a' RA.ts → Calls Tryz.prog 8 #[gV RA.n a' RA.ts.length c', .int .i64 x, .int .i64 y] W fun e w' => e = .returned (.tuple #[.bool (apartR n (ts ++ [t]) x y), .int .i64 0]) ∧ Below W.heap.size W w') := fun he W a' c' hT => by
    obtain ⟨e1, e2, _, _⟩ := HADD.out he
    rw [e1] at hT ⊢
    have h := tApart_any n a' c' (ts ++ [t]) x y W hlt hT; rw [e2] at h; exact h
  have HSM : Hid (RA.er = 0 → sameR n ts x y = true → sameR n (ts ++ [t]) x y = true) := fun he => (HADD.out he).2.2.1
  have HAM : Hid (RA.er = 0 → apartR n ts x y = true → apartR n (ts ++ [t]) x y = true) := fun he => (HADD.out he).2.2.2
  rcases mrg_more (n' := n') h0 (by omega : ts.length ≤ 40) (by omega : us.length ≤ 40) with ⟨e, he, hX, hY⟩ | ⟨X, Y, hX, hY, oX, oY, hG, aX, aY, hAP, hSX, hAX⟩
  · have HM1 : Hid (∀ W, Below w.heap.size w W → Calls Tryz.prog 9 #[gV n a ts.length cap, gV n' b us.length cap'] W (GRes' ⟨0, [], e⟩ W)) := fun W hb => gres_of hX (Merge_any n n' a b cap cap' ts us W hl hl' (hs.below hb) (ht.below hb))
    have HM2 : Hid (∀ W, Below w.heap.size w W → Calls Tryz.prog 9 #[gV n' b us.length cap', gV n a ts.length cap] W (GRes' ⟨0, [], e⟩ W)) := fun W hb => gres_of hY (Merge_any n' n b a cap' cap us ts W hl' hl (ht.below hb) (hs.below hb))
    exact tiesMore_err n n' a b cap cap' ts.length us.length ts t.a t.b t.kind t.str t.src x y w _ _ _ _ RA.n RA.er 0 0 e RA.ts [] [] h1 h2 (by omega) (by omega) (by omega) (by omega) rfl hs (Lib.hid hsane) HC HS HA HM0 HSG HAD HMS HMA HSM HAM HM1 HM2 ⟨rfl, rfl⟩ he
  · have HM1 : Hid (∀ W, Below w.heap.size w W → Calls Tryz.prog 9 #[gV n a ts.length cap, gV n' b us.length cap'] W (GRes' ⟨n, X, 0⟩ W)) := fun W hb => gres_of hX (Merge_any n n' a b cap cap' ts us W hl hl' (hs.below hb) (ht.below hb))
    have HM2 : Hid (∀ W, Below w.heap.size w W → Calls Tryz.prog 9 #[gV n' b us.length cap', gV n a ts.length cap] W (GRes' ⟨n, Y, 0⟩ W)) := fun W hb => gres_of hY (Merge_any n' n b a cap' cap us ts W hl' hl (ht.below hb) (hs.below hb))
    have lX : X.length ≤ 9223372036854775807 := by have := okG_len oX; omega
    have lY : Y.length ≤ 9223372036854775807 := by have := okG_len oY; omega
    have hgl : (grpL n.toNat X).length ≤ 100000 := by obtain ⟨k, rfl, _, h, _⟩ := okG_parts oX; rw [grpL_len, Int.toNat_natCast]; omega
    have HG1 : Hid (∀ W a' c', TiesAt W a' X → Calls Tryz.prog 12 #[gV n a' X.length c'] W fun e w' => ∃ r c, e = .returned (.tuple #[.slice r (grpL n.toNat X).length c, .int .i64 0]) ∧ IntsAt w' r (grpL n.toNat X) ∧ Below W.heap.size W w') := fun W a' c' hT => by
      have h := tGroups_any n a' c' X W lX hT
      unfold errG at h
      rw [oX] at h; exact h
    have HG2 : Hid (∀ W a' c', TiesAt W a' Y → Calls Tryz.prog 12 #[gV n a' Y.length c'] W fun e w' => ∃ r c, e = .returned (.tuple #[.slice r (grpL n.toNat X).length c, .int .i64 0]) ∧ IntsAt w' r (grpL n.toNat X) ∧ Below W.heap.size W w') := fun W a' c' hT => by
      have h := tGroups_any n a' c' Y W lY hT
      unfold errG at h
      rw [oY, if_pos rfl, ← hG] at h; exact h
    have HA1 : Hid (∀ W a' c', TiesAt W a' X → Calls Tryz.prog 8 #[gV n a' X.length c', .int .i64 x, .int .i64 y] W fun e w' => e = .returned (.tuple #[.bool (apartR n X x y), .int .i64 0]) ∧ Below W.heap.size W w') := fun W a' c' hT => by
      have h := tApart_any n a' c' X x y W lX hT; rw [aX] at h; exact h
    have HA2 : Hid (∀ W a' c', TiesAt W a' Y → Calls Tryz.prog 8 #[gV n a' Y.length c', .int .i64 x, .int .i64 y] W fun e w' => e = .returned (.tuple #[.bool (apartR n X x y), .int .i64 0]) ∧ Below W.heap.size W w') := fun W a' c' hT => by
      have h := tApart_any n a' c' Y x y W lY hT; rw [aY, ← hAP] at h; exact h
    have HS1 : Hid (∀ W a' c', TiesAt W a' X → Calls Tryz.prog 7 #[gV n a' X.length c', .int .i64 x, .int .i64 y] W fun e w' => e = .returned (.tuple #[.bool (sameR n X x y), .int .i64 0]) ∧ Below W.heap.size W w') := fun W a' c' hT => by
      have h := tSame_any n a' c' X x y W lX hT; rw [aX] at h; exact h
    have HEN : Hid (∀ W r1 c1 r2 c2, IntsAt W r1 (grpL n.toNat X) → IntsAt W r2 (grpL n.toNat X) → Calls Tryz.prog 13 #[.slice r1 (grpL n.toNat X).length c1, .slice r2 (grpL n.toNat X).length c2] W fun e w' => e = .returned (.bool true) ∧ Below W.heap.size W w') := fun W r1 c1 r2 c2 k1 k2 => ints_same r1 r2 c1 c2 _ W hgl k1 k2
    exact tiesMore_ok n n' a b cap cap' ts.length us.length ts t.a t.b t.kind t.str t.src x y w _ _ _ _ _ _ RA.n RA.er n n RA.ts X Y _ _ h1 h2 (by omega) (by omega) (by omega) (by omega) rfl hs (Lib.hid hsane) HC HS HA HM0 HSG HAD HMS HMA HSM HAM HM1 HM2 HG1 HA1 HG2 HA2 HS1 HEN hSX hAX
end Go.Proofs.YtklcbccfbiljjaaGreat
