/- Layer 4: the law TiesSources. -/
import Derived.Test.YthjeiaildabadaaGreatG6
import Derived.Test.YthjeiaildabadaaGreatKd
namespace Go.Proofs.YthjeiaildabadaaGreat
set_option linter.unusedSimpArgs false
set_option linter.unusedVariables false
open Go Go.RowKit

set_option maxRecDepth 100000 in
set_option maxHeartbeats 2000000 in
theorem rests_bad (n : Int) (a : Option Addr) (cap : Nat) (ts : List TieD) (x y : Int) (w : World) (hl : ts.length ≤ 9223372036854775807) (h0 : errA n ts x y ≠ 0) (hs : TiesAt w a ts) :
    Calls Tryz.prog 22 #[gV n a ts.length cap, .int .i64 x, .int .i64 y] w fun e w' => e = .returned (.tuple #[.slice none 0 0, .int .i64 (errA n ts x y)]) ∧ Below w.heap.size w w' := by
  have HP : Hid (∀ W, Below w.heap.size w W → Calls Tryz.prog 50 #[gV n a ts.length cap, .int .i64 x, .int .i64 y] W fun e w' => e = .returned (.int .i64 (errA n ts x y)) ∧ Below W.heap.size W w') := fun W hb => tPair_any n a cap ts x y W hl (hs.below hb)
  generalize errA n ts x y = E at *
  generalize ts.length = m at *
  have t1 : (E != 0) = true := by simpa using h0
  have HB0 : Hid (Below w.heap.size w (w.alloc (.cells #[.int .i64 n, .slice a m cap] 24))) := (Below.refl _ _).alloc (Nat.le_refl _) _
  clear hl hs h0
  simp only [gV] at HP ⊢
  go_enter Tryz.func22, Tryz.ntmps22
  go_wp2_with (first | (go_at_call 50; refine (HP.out _ HB0.out).mono ?_; rintro e w1 ⟨rfl, hb⟩; clear HP; have HB1 := Lib.hid (HB0.out.trans (hb.mono HB0.out.size)); clear hb))
  refine bodyPost_ret (v := .tuple #[.slice none 0 0, .int .i64 E]) (by simp [results, Tryz.results22, go_sem]) rfl ?_
  exact ⟨rfl, HB1.out⟩
set_option maxRecDepth 100000 in
set_option maxHeartbeats 2000000 in
theorem rRests_bad (n : Int) (a : Option Addr) (cap : Nat) (ts : List TieD) (x y : Int) (w : World) (hl : ts.length ≤ 9223372036854775807) (h0 : errA n ts x y ≠ 0) (hs : TiesAt w a ts) :
    Calls Tryz.prog 23 #[gV n a ts.length cap, .int .i64 x, .int .i64 y] w fun e w' => e = .returned (.tuple #[.slice none 0 0, .int .i64 (errA n ts x y)]) ∧ Below w.heap.size w w' := by
  have HP : Hid (∀ W, Below w.heap.size w W → Calls Tryz.prog 55 #[gV n a ts.length cap, .int .i64 x, .int .i64 y] W fun e w' => e = .returned (.int .i64 (errA n ts x y)) ∧ Below W.heap.size W w') := fun W hb => rAsked_any n a cap ts x y W hl (hs.below hb)
  generalize errA n ts x y = E at *
  generalize ts.length = m at *
  have t1 : (E != 0) = true := by simpa using h0
  have HB0 : Hid (Below w.heap.size w (w.alloc (.cells #[.int .i64 n, .slice a m cap] 24))) := (Below.refl _ _).alloc (Nat.le_refl _) _
  clear hl hs h0
  simp only [gV] at HP ⊢
  go_enter Tryz.func23, Tryz.ntmps23
  go_wp2_with (first | (go_at_call 55; refine (HP.out _ HB0.out).mono ?_; rintro e w1 ⟨rfl, hb⟩; clear HP; have HB1 := Lib.hid (HB0.out.trans (hb.mono HB0.out.size)); clear hb))
  refine bodyPost_ret (v := .tuple #[.slice none 0 0, .int .i64 E]) (by simp [results, Tryz.results23, go_sem]) rfl ?_
  exact ⟨rfl, HB1.out⟩
set_option maxRecDepth 100000 in
set_option maxHeartbeats 8000000 in
theorem tiesSources_walk (n x y : Int) (a : Option Addr) (cap m : Nat) (w : World) (F : Bool) (Z : List Int) (E : Int)
    (HSA : Hid (∀ W, Calls Tryz.prog 10 #[] W fun e w' => e = .returned (.bool true) ∧ Below W.heap.size W w'))
    (HF : Hid (∀ W, Calls Tryz.prog 11 #[.agg #[.int .i64 n, .slice a m cap]] W fun e w' => e = .returned (.bool F) ∧ Below W.heap.size W w'))
    (HR1 : Hid (∀ W, Below w.heap.size w W → Calls Tryz.prog 22 #[.agg #[.int .i64 n, .slice a m cap], .int .i64 x, .int .i64 y] W fun e w' => ∃ r c, e = .returned (.tuple #[.slice r Z.length c, .int .i64 E]) ∧ IntsAt w' r Z ∧ Below W.heap.size W w'))
    (HR2 : Hid (∀ W, Below w.heap.size w W → Calls Tryz.prog 23 #[.agg #[.int .i64 n, .slice a m cap], .int .i64 x, .int .i64 y] W fun e w' => ∃ r c, e = .returned (.tuple #[.slice r Z.length c, .int .i64 E]) ∧ IntsAt w' r Z ∧ Below W.heap.size W w'))
    (HIN : Hid (∀ W r1 c1 r2 c2, IntsAt W r1 Z → IntsAt W r2 Z → Calls Tryz.prog 18 #[.slice r1 Z.length c1, .slice r2 Z.length c2] W fun e w' => e = .returned (.bool true) ∧ Below W.heap.size W w')) :
    Calls Tryz.prog 5 #[.agg #[.int .i64 n, .slice a m cap], .int .i64 x, .int .i64 y] w fun e w' => e = .returned (.bool true) ∧ Below w.heap.size w w' := by
  have FB := Lib.hid (FA.new w [.int .i64 n, .slice a m cap])
  obtain ⟨zl, hzl⟩ : ∃ zl, zl = Z.length := ⟨_, rfl⟩
  rw [← hzl] at HR1 HR2 HIN
  clear hzl
  cases F
  · go_enter Tryz.func5, Tryz.ntmps5
    go_wp2_with (first | (go_at_call 10; refine (HSA.out _).mono ?_; rintro e w1 ⟨rfl, hb⟩; clear HSA; replace FB := Lib.hid (FB.out.below hb); clear hb; have c0 := FB.out.1.cell (i := 0) rfl; have c1 := FB.out.1.cell (i := 1) rfl) | (go_at_call 11; refine (HF.out _).mono ?_; rintro e w2 ⟨rfl, hb⟩; clear HF c0 c1; replace FB := Lib.hid (FB.out.below hb); clear hb; have c0 := FB.out.1.cell (i := 0) rfl; have c1 := FB.out.1.cell (i := 1) rfl))
    go_ret
    exact ⟨rfl, FB.out.2⟩
  · go_enter Tryz.func5, Tryz.ntmps5
    go_upto_region 5 with (first | (go_at_call 10; refine (HSA.out _).mono ?_; rintro e w1 ⟨rfl, hb⟩; clear HSA; replace FB := Lib.hid (FB.out.below hb); clear hb; have c0 := FB.out.1.cell (i := 0) rfl; have c1 := FB.out.1.cell (i := 1) rfl) | (go_at_call 11; refine (HF.out _).mono ?_; rintro e w2 ⟨rfl, hb⟩; clear HF c0 c1; replace FB := Lib.hid (FB.out.below hb); clear hb; have c0 := FB.out.1.cell (i := 0) rfl; have c1 := FB.out.1.cell (i := 1) rfl))
    go_wp2_with (first | (go_at_call 22; go_loud (refine (HR1.out _ FB.out.2).mono ?_; rintro e w4 ⟨r1, k1, rfl, hi, hb⟩; clear HR1 c0 c1; replace FB := Lib.hid (FB.out.below hb); have HI1 := Lib.hid hi; clear hb hi; have c0 := FB.out.1.cell (i := 0) rfl; have c1 := FB.out.1.cell (i := 1) rfl)) | (go_at_call 23; go_loud (refine (HR2.out _ FB.out.2).mono ?_; rintro e w5 ⟨r2, k2, rfl, hi, hb⟩; clear HR2 c0 c1; replace FB := Lib.hid (FB.out.below hb); replace HI1 := Lib.hid (HI1.out.below hb); have HI2 := Lib.hid hi; clear hb hi)) | (go_at_call 18; go_loud (refine (HIN.out _ _ _ _ _ HI1.out HI2.out).mono ?_; rintro e w6 ⟨rfl, hb⟩; clear HIN; replace FB := Lib.hid (FB.out.below hb); clear hb)))
    go_ret
    exact ⟨by first | rfl | simp, FB.out.2⟩
set_option maxRecDepth 100000 in
theorem tiesSources_any (n : Int) (a : Option Addr) (cap : Nat) (ts : List TieD) (x y : Int) (w : World) (hl : ts.length ≤ 9223372036854775807) (hs : TiesAt w a ts)
    (hsane : ∀ W, Calls Tryz.prog 10 #[] W fun e w' => e = .returned (.bool true) ∧ Below W.heap.size W w') :
    Calls Tryz.prog 5 #[gV n a ts.length cap, .int .i64 x, .int .i64 y] w fun e w' => e = .returned (.bool true) ∧ Below w.heap.size w w' := by
  by_cases h0 : errA n ts x y = 0
  · obtain ⟨hok, hxy⟩ := errA_ok h0
    obtain ⟨k, rfl, hk1, hk2, hl5, hv⟩ := okG_parts hok
    unfold ftB at hxy
    simp only [Bool.and_eq_true, decide_eq_true_eq] at hxy
    obtain ⟨p, rfl⟩ := Int.eq_ofNat_of_zero_le hxy.1.1
    obtain ⟨z, rfl⟩ := Int.eq_ofNat_of_zero_le hxy.2.1
    cases ht : told k ts p z with
    | false =>
      refine tiesSources_walk k p z a cap ts.length w (fewB ts.length) [] 4 (Lib.hid hsane) (fun W => few_any (k : Int) a ts.length cap W hl) ?_ ?_ ?_
      · intro W hb
        refine (rests_any k p z a cap ts W h0 (hs.below hb)).mono fun e w' ⟨h1, h2⟩ => ?_
        rcases h1 with ⟨_, rfl⟩ | ⟨h1, _⟩
        · exact ⟨none, 0, rfl, .inl rfl, h2⟩
        · rw [ht] at h1; cases h1
      · intro W hb
        refine (rRests_any k p z a cap ts W h0 (hs.below hb)).mono fun e w' ⟨h1, h2⟩ => ?_
        rcases h1 with ⟨_, rfl⟩ | ⟨h1, _⟩
        · exact ⟨none, 0, rfl, .inl rfl, h2⟩
        · rw [ht] at h1; cases h1
      · intro W r1 c1 r2 c2 h1 h2; exact ints_same r1 r2 c1 c2 [] W (by simp) h1 h2
    | true =>
      refine tiesSources_walk k p z a cap ts.length w (fewB ts.length) (srcL k ts p z 4096) 0 (Lib.hid hsane) (fun W => few_any (k : Int) a ts.length cap W hl) ?_ ?_ ?_
      · intro W hb
        refine (rests_any k p z a cap ts W h0 (hs.below hb)).mono fun e w' ⟨h1, h2⟩ => ?_
        rcases h1 with ⟨h1, _⟩ | ⟨_, R, r, c, rfl, _, hr, hi⟩
        · rw [ht] at h1; cases h1
        · obtain rfl : R = srcL k ts p z 4096 := inc_ext hr.inc (srcL_inc _ _ _ _ _) fun s => by rw [hr.mem, srcL_mem hv ht]
          exact ⟨r, c, rfl, hi, h2⟩
      · intro W hb
        refine (rRests_any k p z a cap ts W h0 (hs.below hb)).mono fun e w' ⟨h1, h2⟩ => ?_
        rcases h1 with ⟨h1, _⟩ | ⟨_, r, c, rfl, hi⟩
        · rw [ht] at h1; cases h1
        · exact ⟨r, c, rfl, hi, h2⟩
      · intro W r1 c1 r2 c2 h1 h2; exact ints_same r1 r2 c1 c2 _ W (by have := srcL_len k ts p z 4096; omega) h1 h2
  · refine tiesSources_walk n x y a cap ts.length w (fewB ts.length) [] (errA n ts x y) (Lib.hid hsane) (fun W => few_any n a ts.length cap W hl) ?_ ?_ ?_
    · intro W hb; exact (rests_bad n a cap ts x y W hl h0 (hs.below hb)).mono fun e w' ⟨h1, h2⟩ => ⟨none, 0, h1, .inl rfl, h2⟩
    · intro W hb; exact (rRests_bad n a cap ts x y W hl h0 (hs.below hb)).mono fun e w' ⟨h1, h2⟩ => ⟨none, 0, h1, .inl rfl, h2⟩
    · intro W r1 c1 r2 c2 h1 h2; exact ints_same r1 r2 c1 c2 [] W (by simp) h1 h2
end Go.Proofs.YthjeiaildabadaaGreat
