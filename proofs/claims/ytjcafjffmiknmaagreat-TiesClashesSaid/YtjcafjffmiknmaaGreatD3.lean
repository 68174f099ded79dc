/- Layer 4: the law TiesClashes. -/
import Derived.Test.YtjcafjffmiknmaaGreatD2
import Derived.Test.YtjcafjffmiknmaaGreatC6
import Derived.Deep.DeepCutAuto
namespace Go.Proofs.YtjcafjffmiknmaaGreat
set_option linter.unusedSimpArgs false
set_option linter.unusedVariables false
open Go Go.RowKit

set_option maxRecDepth 100000 in
set_option maxHeartbeats 2000000 in
theorem checkClash_bad (n : Int) (a : Option Addr) (cap : Nat) (ts : List TieD) (u : Value) (w : World) (hl : ts.length ≤ 9223372036854775807) (h0 : errG n ts ≠ 0) (hs : TiesAt w a ts) :
    Calls Tryz.prog 17 #[gV n a ts.length cap, u] w fun e w' => e = .returned (.int .i64 (errG n ts)) ∧ Below w.heap.size w w' := by
  have HP : Hid (∀ W, Below w.heap.size w W → Calls Tryz.prog 22 #[gV n a ts.length cap] W fun e w' => e = .returned (.int .i64 (errG n ts)) ∧ Below W.heap.size W w') := fun W hb => tCheck_any n a cap ts W hl (hs.below hb)
  generalize errG n ts = E at *
  generalize ts.length = m at *
  have HB0 : Hid (Below w.heap.size w (w.alloc (.cells #[.int .i64 n, .slice a m cap] 24))) := (Below.refl _ _).alloc (Nat.le_refl _) _
  clear hl hs
  simp only [gV] at HP ⊢
  go_enter Tryz.func17, Tryz.ntmps17
  go_wp2_with (first | (go_at_call 22; refine (HP.out _ HB0.out).mono ?_; rintro e w1 ⟨rfl, hb⟩; clear HP; have HB1 := Lib.hid (HB0.out.trans (hb.mono HB0.out.size)); clear hb))
  go_ret
  exact ⟨rfl, HB1.out⟩
set_option maxRecDepth 100000 in
set_option maxHeartbeats 2000000 in
theorem rCheckClash_bad (n : Int) (a : Option Addr) (cap : Nat) (ts : List TieD) (u : Value) (w : World) (hl : ts.length ≤ 9223372036854775807) (h0 : errG n ts = 40) (hs : TiesAt w a ts) :
    Calls Tryz.prog 18 #[gV n a ts.length cap, u] w fun e w' => e = .returned (.int .i64 40) ∧ Below w.heap.size w w' := by
  have HP : Hid (∀ W, Below w.heap.size w W → Calls Tryz.prog 20 #[gV n a ts.length cap] W fun e w' => e = .returned (.int .i64 40) ∧ Below W.heap.size W w') := fun W hb => by rw [← h0]; exact rCheck_any n a cap ts W hl (hs.below hb)
  generalize ts.length = m at *
  have HB0 : Hid (Below w.heap.size w (w.alloc (.cells #[.int .i64 n, .slice a m cap] 24))) := (Below.refl _ _).alloc (Nat.le_refl _) _
  clear hl hs h0
  simp only [gV] at HP ⊢
  go_enter Tryz.func18, Tryz.ntmps18
  go_wp2_with (first | (go_at_call 20; refine (HP.out _ HB0.out).mono ?_; rintro e w1 ⟨rfl, hb⟩; clear HP; have HB1 := Lib.hid (HB0.out.trans (hb.mono HB0.out.size)); clear hb))
  go_ret
  exact ⟨rfl, HB1.out⟩
def ClA (C : Bool) (EG : Int) (p : List Int → Prop) (u : Value) (w : World) : Prop := (C = false ∧ u = .slice none 0 0) ∨ (C = true ∧ EG = 0 ∧ ∃ (l : List Int) (r : Option Addr) (k : Nat), u = .slice r l.length k ∧ l.length ≤ 60 ∧ p l ∧ IntsAt w r l)
theorem ClA.below {C : Bool} {EG : Int} {p : List Int → Prop} {u : Value} {w w' : World} (h : ClA C EG p u w) (hb : Below w.heap.size w w') : ClA C EG p u w' := by
  rcases h with h | ⟨h1, h2, l, r, k, h3, h4, h5, h6⟩
  · exact .inl h
  · exact .inr ⟨h1, h2, l, r, k, h3, h4, h5, h6.below hb⟩
set_option maxRecDepth 100000 in
set_option maxHeartbeats 8000000 in
theorem tiesClashes_walk (k : Int) (a r : Option Addr) (cap cq m q : Nat) (w : World) (F C : Bool) (E1 EG : Int) (p : List Int → Prop)
    (HSA : Hid (∀ W, Calls Tryz.prog 7 #[] W fun e w' => e = .returned (.bool true) ∧ Below W.heap.size W w'))
    (HF : Hid (∀ W, Calls Tryz.prog 8 #[.agg #[.int .i64 k, .slice a m cap]] W fun e w' => e = .returned (.bool F) ∧ Below W.heap.size W w'))
    (hcase : F = false ∨ (F = true ∧ 60 < q) ∨ (F = true ∧ ¬ 60 < q))
    (HK1 : Hid (∀ W, F = true → ¬ 60 < q → Below w.heap.size w W → Calls Tryz.prog 17 #[.agg #[.int .i64 k, .slice a m cap], .slice r q cq] W fun e w' => e = .returned (.int .i64 E1) ∧ Below W.heap.size W w'))
    (HK2 : Hid (∀ W, F = true → ¬ 60 < q → Below w.heap.size w W → Calls Tryz.prog 18 #[.agg #[.int .i64 k, .slice a m cap], .slice r q cq] W fun e w' => e = .returned (.int .i64 E1) ∧ Below W.heap.size W w'))
    (HCL : Hid (∀ W, Below w.heap.size w W → Calls Tryz.prog 19 #[.agg #[.int .i64 k, .slice a m cap]] W fun e w' => ∃ u, e = .returned (.tuple #[u, .bool C, .int .i64 EG]) ∧ ClA C EG p u w' ∧ Below W.heap.size W w'))
    (HRC : Hid (∀ W, Below w.heap.size w W → Calls Tryz.prog 20 #[.agg #[.int .i64 k, .slice a m cap]] W fun e w' => e = .returned (.int .i64 EG) ∧ Below W.heap.size W w'))
    (HRS : Hid (EG = 0 → ∀ W, Below w.heap.size w W → Calls Tryz.prog 21 #[.agg #[.int .i64 k, .slice a m cap]] W fun e w' => e = .returned (.bool C) ∧ Below W.heap.size W w'))
    (HRU : Hid (EG = 0 → ∀ W l rr c, l.length ≤ 60 → p l → Below w.heap.size w W → IntsAt W rr l → Calls Tryz.prog 18 #[.agg #[.int .i64 k, .slice a m cap], .slice rr l.length c] W fun e w' => e = .returned (.int .i64 0) ∧ Below W.heap.size W w'))
    : Calls Tryz.prog 4 #[.agg #[.int .i64 k, .slice a m cap], .slice r q cq] w fun e w' => e = .returned (.bool true) ∧ Below w.heap.size w w' := by
  have FB := Lib.hid (FA.new w [.int .i64 k, .slice a m cap])
  rcases hcase with rfl | ⟨rfl, hq⟩ | ⟨rfl, hq⟩
  · clear HK1 HK2 HCL HRC HRS HRU
    go_enter Tryz.func4, Tryz.ntmps4
    go_wp2_with (first | (go_at_call 7; refine (HSA.out _).mono ?_; rintro e w1 ⟨rfl, hb⟩; clear HSA; replace FB := Lib.hid (FB.out.below hb); clear hb; have c0 := FB.out.1.cell (i := 0) rfl; have c1 := FB.out.1.cell (i := 1) rfl) | (go_at_call 8; refine (HF.out _).mono ?_; rintro e w2 ⟨rfl, hb⟩; clear HF c0 c1; replace FB := Lib.hid (FB.out.below hb); clear hb; have c0 := FB.out.1.cell (i := 0) rfl; have c1 := FB.out.1.cell (i := 1) rfl))
    go_ret
    exact ⟨rfl, FB.out.2⟩
  · have t1 : decide ((60 : Int) < (q : Int)) = true := decide_eq_true (by omega)
    have t2 : decide (60 < q) = true := decide_eq_true hq
    clear HK1 HK2 HCL HRC HRS HRU hq
    go_enter Tryz.func4, Tryz.ntmps4
    go_wp2_with (first | (go_at_call 7; refine (HSA.out _).mono ?_; rintro e w1 ⟨rfl, hb⟩; clear HSA; replace FB := Lib.hid (FB.out.below hb); clear hb; have c0 := FB.out.1.cell (i := 0) rfl; have c1 := FB.out.1.cell (i := 1) rfl) | (go_at_call 8; refine (HF.out _).mono ?_; rintro e w2 ⟨rfl, hb⟩; clear HF c0 c1; replace FB := Lib.hid (FB.out.below hb); clear hb; have c0 := FB.out.1.cell (i := 0) rfl; have c1 := FB.out.1.cell (i := 1) rfl))
    go_ret
    exact ⟨rfl, FB.out.2⟩
  · have t1 : decide ((60 : Int) < (q : Int)) = false := decide_eq_false (by omega)
    have t2 : decide (60 < q) = false := decide_eq_false hq
    replace HK1 := Lib.hid (fun W => HK1.out W rfl hq)
    replace HK2 := Lib.hid (fun W => HK2.out W rfl hq)
    clear hq
    go_enter Tryz.func4, Tryz.ntmps4
    go_upto_region 5 with (first | (go_at_call 7; refine (HSA.out _).mono ?_; rintro e w1 ⟨rfl, hb⟩; clear HSA; replace FB := Lib.hid (FB.out.below hb); clear hb; have c0 := FB.out.1.cell (i := 0) rfl; have c1 := FB.out.1.cell (i := 1) rfl) | (go_at_call 8; refine (HF.out _).mono ?_; rintro e w2 ⟨rfl, hb⟩; clear HF c0 c1; replace FB := Lib.hid (FB.out.below hb); clear hb; have c0 := FB.out.1.cell (i := 0) rfl; have c1 := FB.out.1.cell (i := 1) rfl))
    clear t1 t2 c0 c1
    have HOWD : Hid (∀ w1, (clOld w2.drew).C w1 → Below w2.heap.size w2 w1) := fun w1 hC => old_end (Below.refl _ _) hC (Nat.le_refl _)
    refine wp_region_old 7 61 (by kernel_rfl) (by kernel_rfl) (by rfl) ?_
    simp only [List.take_succ_cons, List.take_zero, List.drop_succ_cons, List.drop_zero, List.drop_nil]
    refine chain_load (.agg #[.int .i64 k, .slice a m cap]) _ _ _ (fun _ _ => Below.refl _ _) rfl rfl (by kernel_rfl) (by kernel_rfl) rfl (fun w1 hC => load_g ((FB.out.1.below (HOWD.out w1 hC)).cell rfl) ((FB.out.1.below (HOWD.out w1 hC)).cell rfl)) ?_
    refine chain_move (.slice r q cq) _ (fun _ _ => Below.refl _ _) rfl rfl (by kernel_rfl) (by kernel_rfl) rfl ?_
    refine chain_call (.int .i64 E1) 17 [.agg #[.int .i64 k, .slice a m cap], .slice r q cq] _ _ (enters_of Tryz.func17 (by kernel_rfl) rfl) rfl rfl rfl (by kernel_rfl) (by kernel_rfl) rfl rfl (fun w1 hC => HK1.out w1 (FB.out.2.trans ((HOWD.out w1 hC).mono FB.out.2.size))) ?_
    refine chain_load (.agg #[.int .i64 k, .slice a m cap]) _ _ _ (fun _ _ => Below.refl _ _) rfl rfl (by kernel_rfl) (by kernel_rfl) rfl (fun w1 hC => load_g ((FB.out.1.below (HOWD.out w1 hC)).cell rfl) ((FB.out.1.below (HOWD.out w1 hC)).cell rfl)) ?_
    refine chain_move (.slice r q cq) _ (fun _ _ => Below.refl _ _) rfl rfl (by kernel_rfl) (by kernel_rfl) rfl ?_
    refine chain_call (.int .i64 E1) 18 [.agg #[.int .i64 k, .slice a m cap], .slice r q cq] _ _ (enters_of Tryz.func18 (by kernel_rfl) rfl) rfl rfl rfl (by kernel_rfl) (by kernel_rfl) rfl rfl (fun w1 hC => HK2.out w1 (FB.out.2.trans ((HOWD.out w1 hC).mono FB.out.2.size))) ?_
    refine chain_bin (.bool false) _ _ _ _ _ (.int .i64 E1) (.int .i64 E1) (fun _ _ => Below.refl _ _) rfl rfl (by kernel_rfl) (by kernel_rfl) rfl rfl (fun w1 => neq_i64 _ _ _ _ _ _ (by simp) w1) ?_
    refine chain_end (by rfl) ?_
    intro xs w9 hCw9 hrew9
    simp only [layE, List.foldr_cons, List.foldr_nil, List.set_cons_succ, List.set_cons_zero]
    replace FB := Lib.hid (FB.out.below (HOWD.out w9 hCw9))
    clear hCw9 hrew9 HOWD HK1 HK2
    have c0 := FB.out.1.cell (i := 0) rfl
    have c1 := FB.out.1.cell (i := 1) rfl
    go_upto_region 8 with (first | (go_at_call 19; go_loud (refine (HCL.out _ FB.out.2).mono ?_; rintro e w4 ⟨u, rfl, hu, hb⟩; clear HCL c0 c1; replace FB := Lib.hid (FB.out.below hb); have HU := Lib.hid hu; clear hb hu)))
    have c0 := FB.out.1.cell (i := 0) rfl
    have c1 := FB.out.1.cell (i := 1) rfl
    go_upto_region 10 with (first | (go_at_call 20; go_loud (refine (HRC.out _ FB.out.2).mono ?_; rintro e w5 ⟨rfl, hb⟩; clear HRC c0 c1; replace FB := Lib.hid (FB.out.below hb); replace HU := Lib.hid (HU.out.below hb); clear hb)))
    have c0 := FB.out.1.cell (i := 0) rfl
    have c1 := FB.out.1.cell (i := 1) rfl
    rcases HU.out with ⟨rfl, rfl⟩ | ⟨rfl, rfl, l, rr, c, rfl, hl60, hpl, hI⟩
    · clear HU HRU
      by_cases he : EG = 0
      · subst he
        replace HRS := Lib.hid (HRS.out rfl)
        go_wp2_with (first | (go_at_call 21; go_loud (refine (HRS.out _ FB.out.2).mono ?_; rintro e w6 ⟨rfl, hb⟩; clear HRS c0 c1; replace FB := Lib.hid (FB.out.below hb); clear hb)))
        go_ret
        exact ⟨rfl, FB.out.2⟩
      · have t3 : (EG != 0) = true := by simpa using he
        have t4 : (EG == 0) = false := by simpa using he
        clear HRS he
        go_wp2_with (fail)
        go_ret
        exact ⟨rfl, FB.out.2⟩
    · replace HRS := Lib.hid (HRS.out rfl)
      replace HRU := Lib.hid (fun W => HRU.out rfl W l rr c hl60 hpl)
      have HI := Lib.hid hI
      have t3 : decide ((l.length : Int) ≤ 60) = true := decide_eq_true (by omega)
      have t4 : decide (l.length ≤ 60) = true := decide_eq_true hl60
      clear HU hI hpl
      generalize hM : l.length = M at *
      clear hM hl60
      go_wp2_with (first | (go_at_call 21; go_loud (refine (HRS.out _ FB.out.2).mono ?_; rintro e w6 ⟨rfl, hb⟩; clear HRS c0 c1; replace FB := Lib.hid (FB.out.below hb); replace HI := Lib.hid (HI.out.below hb); clear hb; have c0 := FB.out.1.cell (i := 0) rfl; have c1 := FB.out.1.cell (i := 1) rfl)) | (go_at_call 18; go_loud (refine (HRU.out _ FB.out.2 HI.out).mono ?_; rintro e w7 ⟨rfl, hb⟩; clear HRU c0 c1; replace FB := Lib.hid (FB.out.below hb); clear hb)))
      go_ret
      exact ⟨rfl, FB.out.2⟩
set_option maxRecDepth 100000 in
set_option maxHeartbeats 4000000 in
theorem tiesClashes_any (n : Int) (a r : Option Addr) (cap cq : Nat) (ts : List TieD) (P : List Int) (w : World) (hl : ts.length ≤ 9223372036854775807) (hs : TiesAt w a ts) (hr : IntsAt w r P)
    (hsane : ∀ W, Calls Tryz.prog 7 #[] W fun e w' => e = .returned (.bool true) ∧ Below W.heap.size W w') :
    Calls Tryz.prog 4 #[gV n a ts.length cap, .slice r P.length cq] w fun e w' => e = .returned (.bool true) ∧ Below w.heap.size w w' := by
  have hcase : fewB ts.length = false ∨ (fewB ts.length = true ∧ 60 < P.length) ∨ (fewB ts.length = true ∧ ¬ 60 < P.length) := by
    cases fewB ts.length with
    | false => exact .inl rfl
    | true => by_cases h : 60 < P.length
              · exact .inr (.inl ⟨rfl, h⟩)
              · exact .inr (.inr ⟨rfl, h⟩)
  cases hok : okG n ts with
  | false =>
    have hG : errG n ts = 40 := by unfold errG; rw [hok]; rfl
    refine tiesClashes_walk n a r cap cq ts.length P.length w (fewB ts.length) false 40 40 (fun _ => True) (Lib.hid hsane) (fun W => few_any n a ts.length cap W hl) hcase ?_ ?_ ?_ ?_ (fun h => by cases h) (fun h => by cases h)
    · intro W _ _ hb; have h := checkClash_bad n a cap ts (.slice r P.length cq) W hl (by rw [hG]; decide) (hs.below hb); rw [hG] at h; exact h
    · intro W _ _ hb; exact rCheckClash_bad n a cap ts (.slice r P.length cq) W hl hG (hs.below hb)
    · intro W hb; have h := clash_bad n a cap ts W hl (by rw [hG]; decide) (hs.below hb); rw [hG] at h; exact h.mono fun e w' ⟨h1, h2⟩ => ⟨_, h1, .inl ⟨rfl, rfl⟩, h2⟩
    · intro W hb; have h := rCheck_any n a cap ts W hl (hs.below hb); rw [hG] at h; exact h
  | true =>
    obtain ⟨k, rfl, hk1, hk2, hl5, hv⟩ := okG_parts hok
    have hG : errG (k : Int) ts = 0 := by unfold errG; rw [hok]; rfl
    refine tiesClashes_walk k a r cap cq ts.length P.length w (fewB ts.length) (conF k ts) (if clashF k ts P then 0 else 42) 0 (fun l => clashF k ts l = true) (Lib.hid hsane) (fun W => few_any (k : Int) a ts.length cap W hl) hcase ?_ ?_ ?_ ?_ ?_ ?_
    · intro W _ hq hb; exact checkClash_any k a cap cq ts r P W (by omega) hok (hs.below hb) (hr.below hb)
    · intro W _ hq hb; exact rCheckClash_any k a cap cq ts r P W (by omega) hok (hs.below hb) (hr.below hb)
    · intro W hb
      cases hC : conF k ts with
      | false => exact (clash_none k a cap ts W hk2 hl5 hv hG hC (hs.below hb)).mono fun e w' ⟨h1, h2⟩ => ⟨_, h1, .inl ⟨rfl, rfl⟩, h2⟩
      | true =>
        refine (clash_some k a cap ts W hk2 hl5 hv hG hC (hs.below hb)).mono fun e w' ⟨⟨j, t, l, rr, c, hj, hw, hch, hll, h1, h2⟩, h3⟩ => ?_
        obtain ⟨h4, h5⟩ := own_intsB h2
        obtain ⟨h6, h7⟩ := clash_ok hk2 hv hj hw hch
        refine ⟨_, h1, .inr ⟨rfl, rfl, _, rr, c, by rw [h4], ?_, h6, h5⟩, h3⟩
        rw [← h4]; omega
    · intro W hb; have h := rCheck_any (k : Int) a cap ts W hl (hs.below hb); rw [hG] at h; exact h
    · intro _ W hb; exact rClashes_any k a cap ts W hk2 hl5 hv (hs.below hb)
    · intro _ W l rr c h1 h2 hb hI
      have h := rCheckClash_any k a cap c ts rr l W (by omega) hok (hs.below hb) hI
      rw [h2] at h; exact h
end Go.Proofs.YtjcafjffmiknmaaGreat
