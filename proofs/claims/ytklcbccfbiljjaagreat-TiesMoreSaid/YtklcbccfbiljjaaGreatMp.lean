/- Layer 4: the law TiesMore, where its answers are told apart. -/
import Derived.Test.YtklcbccfbiljjaaGreatMo
namespace Go.Proofs.YtklcbccfbiljjaaGreat
set_option linter.unusedSimpArgs false
set_option linter.unusedVariables false
open Go Go.RowKit

set_option maxRecDepth 100000 in
set_option maxHeartbeats 8000000 in
theorem tiesMore_ok (n n' : Int) (a b : Option Addr) (cap cap' m q : Nat) (ts : List TieD) (ya yb yk ys yr x y : Int) (w : World) (S A MS MA XS XA : Bool) (An Ae Xn Yn : Int) (Al Xl Yl : List TieD) (GL : List Int) (gl : Nat) (hm : ¬ 40 < m) (hq : ¬ 40 < q) (h1 : ¬ x < 0) (h2 : ¬ y < 0) (h3 : ¬ n ≤ x) (h4 : ¬ n ≤ y) (HML : Hid (m = ts.length)) (HTS : Hid (TiesAt w a ts))
    (HSA : Hid (∀ W, Calls Tryz.prog 5 #[] W fun e w' => e = .returned (.bool true) ∧ Below W.heap.size W w'))
    (HC : Hid (∀ W, Below w.heap.size w W → Calls Tryz.prog 6 #[.agg #[.int .i64 n, .slice a m cap]] W fun e w' => e = .returned (.int .i64 0) ∧ Below W.heap.size W w'))
    (HS : Hid (∀ W, Below w.heap.size w W → Calls Tryz.prog 7 #[.agg #[.int .i64 n, .slice a m cap], .int .i64 x, .int .i64 y] W fun e w' => e = .returned (.tuple #[.bool S, .int .i64 0]) ∧ Below W.heap.size W w'))
    (HA : Hid (∀ W, Below w.heap.size w W → Calls Tryz.prog 8 #[.agg #[.int .i64 n, .slice a m cap], .int .i64 x, .int .i64 y] W fun e w' => e = .returned (.tuple #[.bool A, .int .i64 0]) ∧ Below W.heap.size W w'))
    (HM0 : Hid (∀ W, Below w.heap.size w W → Calls Tryz.prog 9 #[.agg #[.int .i64 n, .slice a m cap], .agg #[.int .i64 n, .slice a m cap]] W fun e w' => ∃ a' c', e = .returned (.tuple #[.agg #[.int .i64 n, .slice a' m c'], .int .i64 0]) ∧ TiesNew W.heap.size w' a' ts ∧ Below W.heap.size W w'))
    (HSG : Hid (∀ W a1 c1, Below w.heap.size w W → TiesAt W a1 ts → Calls Tryz.prog 10 #[.agg #[.int .i64 n, .slice a1 m c1], .agg #[.int .i64 n, .slice a m cap]] W fun e w' => e = .returned (.bool true) ∧ Below W.heap.size W w'))
    (HAD : Hid (∀ W, Below w.heap.size w W → Calls Tryz.prog 11 #[.agg #[.int .i64 n, .slice a m cap], .agg #[.int .i64 ya, .int .i64 yb, .int .i64 yk, .int .i64 ys, .int .i64 yr]] W fun e w' => ∃ a' c', e = .returned (.tuple #[.agg #[.int .i64 An, .slice a' Al.length c'], .int .i64 Ae]) ∧ TiesNew W.heap.size w' a' Al ∧ Below W.heap.size W w'))
    (HMS : Hid (Ae = 0 → ∀ W a' c', TiesAt W a' Al → Calls Tryz.prog 7 #[.agg #[.int .i64 An, .slice a' Al.length c'], .int .i64 x, .int .i64 y] W fun e w' => e = .returned (.tuple #[.bool MS, .int .i64 0]) ∧ Below W.heap.size W w'))
    (HMA : Hid (Ae = 0 → ∀ W a' c', TiesAt W a' Al → Calls Tryz.prog 8 #[.agg #[.int .i64 An, .slice a' Al.length c'], .int .i64 x, .int .i64 y] W fun e w' => e = .returned (.tuple #[.bool MA, .int .i64 0]) ∧ Below W.heap.size W w'))
    (HSM : Hid (Ae = 0 → S = true → MS = true)) (HAM : Hid (Ae = 0 → A = true → MA = true))
    (HM1 : Hid (∀ W, Below w.heap.size w W → Calls Tryz.prog 9 #[.agg #[.int .i64 n, .slice a m cap], .agg #[.int .i64 n', .slice b q cap']] W fun e w' => ∃ a' c', e = .returned (.tuple #[.agg #[.int .i64 Xn, .slice a' Xl.length c'], .int .i64 0]) ∧ TiesNew W.heap.size w' a' Xl ∧ Below W.heap.size W w'))
    (HM2 : Hid (∀ W, Below w.heap.size w W → Calls Tryz.prog 9 #[.agg #[.int .i64 n', .slice b q cap'], .agg #[.int .i64 n, .slice a m cap]] W fun e w' => ∃ a' c', e = .returned (.tuple #[.agg #[.int .i64 Yn, .slice a' Yl.length c'], .int .i64 0]) ∧ TiesNew W.heap.size w' a' Yl ∧ Below W.heap.size W w'))
    (HG1 : Hid (∀ W a' c', TiesAt W a' Xl → Calls Tryz.prog 12 #[.agg #[.int .i64 Xn, .slice a' Xl.length c']] W fun e w' => ∃ r c, e = .returned (.tuple #[.slice r gl c, .int .i64 0]) ∧ IntsAt w' r GL ∧ Below W.heap.size W w'))
    (HA1 : Hid (∀ W a' c', TiesAt W a' Xl → Calls Tryz.prog 8 #[.agg #[.int .i64 Xn, .slice a' Xl.length c'], .int .i64 x, .int .i64 y] W fun e w' => e = .returned (.tuple #[.bool XA, .int .i64 0]) ∧ Below W.heap.size W w'))
    (HG2 : Hid (∀ W a' c', TiesAt W a' Yl → Calls Tryz.prog 12 #[.agg #[.int .i64 Yn, .slice a' Yl.length c']] W fun e w' => ∃ r c, e = .returned (.tuple #[.slice r gl c, .int .i64 0]) ∧ IntsAt w' r GL ∧ Below W.heap.size W w'))
    (HA2 : Hid (∀ W a' c', TiesAt W a' Yl → Calls Tryz.prog 8 #[.agg #[.int .i64 Yn, .slice a' Yl.length c'], .int .i64 x, .int .i64 y] W fun e w' => e = .returned (.tuple #[.bool XA, .int .i64 0]) ∧ Below W.heap.size W w'))
    (HS1 : Hid (∀ W a' c', TiesAt W a' Xl → Calls Tryz.prog 7 #[.agg #[.int .i64 Xn, .slice a' Xl.length c'], .int .i64 x, .int .i64 y] W fun e w' => e = .returned (.tuple #[.bool XS, .int .i64 0]) ∧ Below W.heap.size W w'))
    (HEN : Hid (∀ W r1 c1 r2 c2, IntsAt W r1 GL → IntsAt W r2 GL → Calls Tryz.prog 13 #[.slice r1 gl c1, .slice r2 gl c2] W fun e w' => e = .returned (.bool true) ∧ Below W.heap.size W w'))
    (HSX : Hid (S = true → XS = true)) (HAX : Hid (A = true → XA = true))
    : Calls Tryz.prog 3 #[.agg #[.int .i64 n, .slice a m cap], .agg #[.int .i64 n', .slice b q cap'], .agg #[.int .i64 ya, .int .i64 yb, .int .i64 yk, .int .i64 ys, .int .i64 yr], .int .i64 x, .int .i64 y] w fun e w' => e = .returned (.bool true) ∧ Below w.heap.size w w' := by
  have HN0 : Hid (LB w (((w.alloc (.cells #[.int .i64 n, .slice a m cap] 24)).alloc (.cells #[.int .i64 n', .slice b q cap'] 24)).alloc (.cells #[.int .i64 ya, .int .i64 yb, .int .i64 yk, .int .i64 ys, .int .i64 yr] 26)) [.int .i64 n, .slice a m cap] [.int .i64 n', .slice b q cap'] ⟨ya, yb, yk, ys, yr⟩) := LB.new w n n' a b m q cap cap' ⟨ya, yb, yk, ys, yr⟩
  have t1 : decide ((40 : Int) < (m : Int)) = false := decide_eq_false (by omega)
  have t2 : decide (40 < m) = false := decide_eq_false hm
  have t3 : decide ((40 : Int) < (q : Int)) = false := decide_eq_false (by omega)
  have t4 : decide (40 < q) = false := decide_eq_false hq
  have t5 : decide (x < 0) = false := decide_eq_false h1
  have t6 : decide (y < 0) = false := decide_eq_false h2
  have t7 : decide (n ≤ x) = false := decide_eq_false h3
  have t8 : decide (n ≤ y) = false := decide_eq_false h4
  clear hm hq h1 h2 h3 h4
  go_enter Tryz.func3, Tryz.ntmps3
  go_upto_region 5 with (first | (go_at_call 5; refine (HSA.out _).mono ?_; rintro e w0 ⟨rfl, hb⟩; clear HSA; have FB := Lib.hid (HN0.out.below hb); clear hb HN0; have c0 := FB.out.1.cell (i := 0) rfl; have c1 := FB.out.1.cell (i := 1) rfl; have d1 := FB.out.2.1.cell (i := 1) rfl) | (go_at_call 6; refine (HC.out _ FB.out.2.2.2).mono ?_; rintro e w3 ⟨rfl, hb⟩; clear HC c0 c1 d1; replace FB := Lib.hid (FB.out.below hb); clear hb; have c0 := FB.out.1.cell (i := 0) rfl; have c1 := FB.out.1.cell (i := 1) rfl))
  clear t1 t2 t3 t4 t5 t6 t7 t8
  go_upto_region 6 with (first | (go_at_call 7; go_loud (refine (HS.out _ FB.out.2.2.2).mono ?_; rintro e w4 ⟨rfl, hb⟩; clear HS c0 c1; replace FB := Lib.hid (FB.out.below hb); clear hb)))
  have c0 := FB.out.1.cell (i := 0) rfl
  have c1 := FB.out.1.cell (i := 1) rfl
  go_upto_region 7 with (first | (go_at_call 8; go_loud (refine (HA.out _ FB.out.2.2.2).mono ?_; rintro e w5 ⟨rfl, hb⟩; clear HA c0 c1; replace FB := Lib.hid (FB.out.below hb); clear hb)))
  have c0 := FB.out.1.cell (i := 0) rfl
  have c1 := FB.out.1.cell (i := 1) rfl
  go_upto_region 8 with (first | (go_at_call 9; go_loud (refine (HM0.out _ FB.out.2.2.2).mono ?_; rintro e w6 ⟨a15, k15, rfl, hT, hb⟩; clear HM0 c0 c1; replace FB := Lib.hid (FB.out.below hb); have HT := Lib.hid hT.1; clear hT; clear hb)))
  refine named (fun V => Hid (Below w6.heap.size w6 V) ∧ Hid (GrA V w6.heap.size n a15 ts k15)) ⟨(Below.refl _ _).alloc (Nat.le_refl _) _, (by have h := GrA.new w6 n a15 ts k15 HT.out; rw [← HML.out] at h; exact h)⟩ ?_
  rintro V15 ⟨HB, F15⟩
  generalize hp : w6.heap.size = p15 at F15 ⊢
  replace FB := Lib.hid (FB.out.below HB.out)
  clear hp HT HB
  rw [show GrA V15 p15 n a15 ts k15 = (Blk V15 p15 [.int .i64 n, .slice a15 m k15] 24 ∧ TiesAt V15 a15 ts) from by unfold GrA; rw [← HML.out]] at F15
  have c0 := FB.out.1.cell (i := 0) rfl
  have c1 := FB.out.1.cell (i := 1) rfl
  have e0 := F15.out.1.cell (i := 0) rfl
  have e1 := F15.out.1.cell (i := 1) rfl
  go_upto_region 10 with (first | (go_at_call 10; go_loud (refine (HSG.out _ _ _ FB.out.2.2.2 F15.out.2).mono ?_; rintro e w7 ⟨rfl, hb⟩; clear HSG c0 c1 e0 e1; replace FB := Lib.hid (FB.out.below hb); clear hb)))
  clear F15
  have c0 := FB.out.1.cell (i := 0) rfl
  have c1 := FB.out.1.cell (i := 1) rfl
  have y0 := FB.out.2.2.1.cell (i := 0) rfl
  have y1 := FB.out.2.2.1.cell (i := 1) rfl
  have y2 := FB.out.2.2.1.cell (i := 2) rfl
  have y3 := FB.out.2.2.1.cell (i := 3) rfl
  have y4 := FB.out.2.2.1.cell (i := 4) rfl
  go_upto_region 11 with (first | (go_at_call 11; go_loud (refine (HAD.out _ FB.out.2.2.2).mono ?_; rintro e w8 ⟨a17, k17, rfl, hT, hb⟩; clear HAD c0 c1 y0 y1 y2 y3 y4; replace FB := Lib.hid (FB.out.below hb); have HT := Lib.hid hT.1; clear hT; clear hb)))
  refine named (fun V => Hid (Below w8.heap.size w8 V) ∧ Hid (GrA V w8.heap.size An a17 Al k17)) ⟨(Below.refl _ _).alloc (Nat.le_refl _) _, GrA.new _ _ _ _ _ HT.out⟩ ?_
  rintro V17 ⟨HB, F17⟩
  generalize hp : w8.heap.size = p17 at F17 ⊢
  replace FB := Lib.hid (FB.out.below HB.out)
  clear hp HT HB
  by_cases hae : Ae = 0
  · subst hae
    replace HMS := Lib.hid (HMS.out rfl)
    replace HMA := Lib.hid (HMA.out rfl)
    replace HSM := Lib.hid (HSM.out rfl)
    replace HAM := Lib.hid (HAM.out rfl)
    have e0 := F17.out.1.cell (i := 0) rfl
    have e1 := F17.out.1.cell (i := 1) rfl
    go_upto_region 13 with (first | (go_at_call 7; go_loud (refine (HMS.out _ _ _ F17.out.2).mono ?_; rintro e w9 ⟨rfl, hb⟩; clear HMS e0 e1; replace FB := Lib.hid (FB.out.below hb); replace F17 := Lib.hid (F17.out.below hb); clear hb)))
    have e0 := F17.out.1.cell (i := 0) rfl
    have e1 := F17.out.1.cell (i := 1) rfl
    go_upto_region 14 with (first | (go_at_call 8; go_loud (refine (HMA.out _ _ _ F17.out.2).mono ?_; rintro e w10 ⟨rfl, hb⟩; clear HMA e0 e1; replace FB := Lib.hid (FB.out.below hb); replace F17 := Lib.hid (F17.out.below hb); clear hb)))
    cases S <;> cases A
    all_goals (
      (first | (have hx := HSM.out (by trivial); subst hx) | skip)
      (first | (have hx := HAM.out (by trivial); subst hx) | skip)
      clear HSM HAM F17
      go_upto_region 16 with (fail)
      have c0 := FB.out.1.cell (i := 0) rfl
      have c1 := FB.out.1.cell (i := 1) rfl
      have d0 := FB.out.2.1.cell (i := 0) rfl
      have d1 := FB.out.2.1.cell (i := 1) rfl
      go_upto_region 17 with (first | (go_at_call 9; go_loud (refine (HM1.out _ FB.out.2.2.2).mono ?_; rintro e w11 ⟨a23, k23, rfl, hT, hb⟩; clear HM1 c0 c1 d0 d1; replace FB := Lib.hid (FB.out.below hb); have HT := Lib.hid hT.1; clear hT; clear hb)))
      refine named (fun V => Hid (Below w11.heap.size w11 V) ∧ Hid (GrA V w11.heap.size Xn a23 Xl k23)) ⟨(Below.refl _ _).alloc (Nat.le_refl _) _, GrA.new _ _ _ _ _ HT.out⟩ ?_
      rintro V23 ⟨HB, F23⟩
      generalize hp : w11.heap.size = p23 at F23 ⊢
      replace FB := Lib.hid (FB.out.below HB.out)
      clear hp HT HB
      have c0 := FB.out.1.cell (i := 0) rfl
      have c1 := FB.out.1.cell (i := 1) rfl
      have d0 := FB.out.2.1.cell (i := 0) rfl
      have d1 := FB.out.2.1.cell (i := 1) rfl
      go_upto_region 18 with (first | (go_at_call 9; go_loud (refine (HM2.out _ FB.out.2.2.2).mono ?_; rintro e w12 ⟨a25, k25, rfl, hT, hb⟩; clear HM2 c0 c1 d0 d1; replace FB := Lib.hid (FB.out.below hb); replace F23 := Lib.hid (F23.out.below hb); have HT := Lib.hid hT.1; clear hT; clear hb)))
      refine named (fun V => Hid (Below w12.heap.size w12 V) ∧ Hid (GrA V w12.heap.size Yn a25 Yl k25)) ⟨(Below.refl _ _).alloc (Nat.le_refl _) _, GrA.new _ _ _ _ _ HT.out⟩ ?_
      rintro V25 ⟨HB, F25⟩
      generalize hp : w12.heap.size = p25 at F25 ⊢
      replace FB := Lib.hid (FB.out.below HB.out)
      replace F23 := Lib.hid (F23.out.below HB.out)
      clear hp HT HB
      have e0 := F23.out.1.cell (i := 0) rfl
      have e1 := F23.out.1.cell (i := 1) rfl
      go_upto_region 23 with (first | (go_at_call 12; go_loud (refine (HG1.out _ _ _ F23.out.2).mono ?_; rintro e w13 ⟨r1, s1, rfl, hI, hb⟩; clear HG1 e0 e1; replace FB := Lib.hid (FB.out.below hb); replace F23 := Lib.hid (F23.out.below hb); replace F25 := Lib.hid (F25.out.below hb); have HI1 := Lib.hid hI; clear hI; clear hb)))
      have e0 := F25.out.1.cell (i := 0) rfl
      have e1 := F25.out.1.cell (i := 1) rfl
      go_upto_region 24 with (first | (go_at_call 12; go_loud (refine (HG2.out _ _ _ F25.out.2).mono ?_; rintro e w14 ⟨r2, s2, rfl, hI, hb⟩; clear HG2 e0 e1; replace FB := Lib.hid (FB.out.below hb); replace F23 := Lib.hid (F23.out.below hb); replace F25 := Lib.hid (F25.out.below hb); have HI2 := Lib.hid hI; clear hI; replace HI1 := Lib.hid (HI1.out.below hb); clear hb)))
      have e0 := F23.out.1.cell (i := 0) rfl
      have e1 := F23.out.1.cell (i := 1) rfl
      go_upto_region 25 with (first | (go_at_call 8; go_loud (refine (HA1.out _ _ _ F23.out.2).mono ?_; rintro e w15 ⟨rfl, hb⟩; clear HA1 e0 e1; replace FB := Lib.hid (FB.out.below hb); replace F23 := Lib.hid (F23.out.below hb); replace F25 := Lib.hid (F25.out.below hb); replace HI1 := Lib.hid (HI1.out.below hb); replace HI2 := Lib.hid (HI2.out.below hb); clear hb)))
      have e0 := F25.out.1.cell (i := 0) rfl
      have e1 := F25.out.1.cell (i := 1) rfl
      go_upto_region 26 with (first | (go_at_call 8; go_loud (refine (HA2.out _ _ _ F25.out.2).mono ?_; rintro e w16 ⟨rfl, hb⟩; clear HA2 e0 e1; replace FB := Lib.hid (FB.out.below hb); replace F23 := Lib.hid (F23.out.below hb); replace F25 := Lib.hid (F25.out.below hb); replace HI1 := Lib.hid (HI1.out.below hb); replace HI2 := Lib.hid (HI2.out.below hb); clear hb)))
      have e0 := F23.out.1.cell (i := 0) rfl
      have e1 := F23.out.1.cell (i := 1) rfl
      go_upto_region 27 with (first | (go_at_call 7; go_loud (refine (HS1.out _ _ _ F23.out.2).mono ?_; rintro e w17 ⟨rfl, hb⟩; clear HS1 e0 e1; replace FB := Lib.hid (FB.out.below hb); replace F23 := Lib.hid (F23.out.below hb); replace F25 := Lib.hid (F25.out.below hb); replace HI1 := Lib.hid (HI1.out.below hb); replace HI2 := Lib.hid (HI2.out.below hb); clear hb)))
      (first | (have hx := HSX.out (by trivial); subst hx) | skip)
      (first | (have hx := HAX.out (by trivial); subst hx) | skip)
      clear HSX HAX
      go_wp2_with (first | (go_at_call 13; refine (HEN.out _ _ _ _ _ HI1.out HI2.out).mono ?_; rintro e w30 ⟨rfl, hb⟩; replace FB := Lib.hid (FB.out.below hb); clear hb HEN))
      go_ret
      exact ⟨by first | rfl | simp, FB.out.2.2.2⟩)
  · have t10 : (Ae == 0) = false := by simpa using hae
    clear hae HMS HMA HSM HAM F17
    go_upto_region 16 with (fail)
    clear t10
    cases S <;> cases A
    all_goals (
      have c0 := FB.out.1.cell (i := 0) rfl
      have c1 := FB.out.1.cell (i := 1) rfl
      have d0 := FB.out.2.1.cell (i := 0) rfl
      have d1 := FB.out.2.1.cell (i := 1) rfl
      go_upto_region 17 with (first | (go_at_call 9; go_loud (refine (HM1.out _ FB.out.2.2.2).mono ?_; rintro e w9 ⟨a23, k23, rfl, hT, hb⟩; clear HM1 c0 c1 d0 d1; replace FB := Lib.hid (FB.out.below hb); have HT := Lib.hid hT.1; clear hT; clear hb)))
      refine named (fun V => Hid (Below w9.heap.size w9 V) ∧ Hid (GrA V w9.heap.size Xn a23 Xl k23)) ⟨(Below.refl _ _).alloc (Nat.le_refl _) _, GrA.new _ _ _ _ _ HT.out⟩ ?_
      rintro V23 ⟨HB, F23⟩
      generalize hp : w9.heap.size = p23 at F23 ⊢
      replace FB := Lib.hid (FB.out.below HB.out)
      clear hp HT HB
      have c0 := FB.out.1.cell (i := 0) rfl
      have c1 := FB.out.1.cell (i := 1) rfl
      have d0 := FB.out.2.1.cell (i := 0) rfl
      have d1 := FB.out.2.1.cell (i := 1) rfl
      go_upto_region 18 with (first | (go_at_call 9; go_loud (refine (HM2.out _ FB.out.2.2.2).mono ?_; rintro e w10 ⟨a25, k25, rfl, hT, hb⟩; clear HM2 c0 c1 d0 d1; replace FB := Lib.hid (FB.out.below hb); replace F23 := Lib.hid (F23.out.below hb); have HT := Lib.hid hT.1; clear hT; clear hb)))
      refine named (fun V => Hid (Below w10.heap.size w10 V) ∧ Hid (GrA V w10.heap.size Yn a25 Yl k25)) ⟨(Below.refl _ _).alloc (Nat.le_refl _) _, GrA.new _ _ _ _ _ HT.out⟩ ?_
      rintro V25 ⟨HB, F25⟩
      generalize hp : w10.heap.size = p25 at F25 ⊢
      replace FB := Lib.hid (FB.out.below HB.out)
      replace F23 := Lib.hid (F23.out.below HB.out)
      clear hp HT HB
      have e0 := F23.out.1.cell (i := 0) rfl
      have e1 := F23.out.1.cell (i := 1) rfl
      go_upto_region 23 with (first | (go_at_call 12; go_loud (refine (HG1.out _ _ _ F23.out.2).mono ?_; rintro e w11 ⟨r1, s1, rfl, hI, hb⟩; clear HG1 e0 e1; replace FB := Lib.hid (FB.out.below hb); replace F23 := Lib.hid (F23.out.below hb); replace F25 := Lib.hid (F25.out.below hb); have HI1 := Lib.hid hI; clear hI; clear hb)))
      have e0 := F25.out.1.cell (i := 0) rfl
      have e1 := F25.out.1.cell (i := 1) rfl
      go_upto_region 24 with (first | (go_at_call 12; go_loud (refine (HG2.out _ _ _ F25.out.2).mono ?_; rintro e w12 ⟨r2, s2, rfl, hI, hb⟩; clear HG2 e0 e1; replace FB := Lib.hid (FB.out.below hb); replace F23 := Lib.hid (F23.out.below hb); replace F25 := Lib.hid (F25.out.below hb); have HI2 := Lib.hid hI; clear hI; replace HI1 := Lib.hid (HI1.out.below hb); clear hb)))
      have e0 := F23.out.1.cell (i := 0) rfl
      have e1 := F23.out.1.cell (i := 1) rfl
      go_upto_region 25 with (first | (go_at_call 8; go_loud (refine (HA1.out _ _ _ F23.out.2).mono ?_; rintro e w13 ⟨rfl, hb⟩; clear HA1 e0 e1; replace FB := Lib.hid (FB.out.below hb); replace F23 := Lib.hid (F23.out.below hb); replace F25 := Lib.hid (F25.out.below hb); replace HI1 := Lib.hid (HI1.out.below hb); replace HI2 := Lib.hid (HI2.out.below hb); clear hb)))
      have e0 := F25.out.1.cell (i := 0) rfl
      have e1 := F25.out.1.cell (i := 1) rfl
      go_upto_region 26 with (first | (go_at_call 8; go_loud (refine (HA2.out _ _ _ F25.out.2).mono ?_; rintro e w14 ⟨rfl, hb⟩; clear HA2 e0 e1; replace FB := Lib.hid (FB.out.below hb); replace F23 := Lib.hid (F23.out.below hb); replace F25 := Lib.hid (F25.out.below hb); replace HI1 := Lib.hid (HI1.out.below hb); replace HI2 := Lib.hid (HI2.out.below hb); clear hb)))
      have e0 := F23.out.1.cell (i := 0) rfl
      have e1 := F23.out.1.cell (i := 1) rfl
      go_upto_region 27 with (first | (go_at_call 7; go_loud (refine (HS1.out _ _ _ F23.out.2).mono ?_; rintro e w15 ⟨rfl, hb⟩; clear HS1 e0 e1; replace FB := Lib.hid (FB.out.below hb); replace F23 := Lib.hid (F23.out.below hb); replace F25 := Lib.hid (F25.out.below hb); replace HI1 := Lib.hid (HI1.out.below hb); replace HI2 := Lib.hid (HI2.out.below hb); clear hb)))
      (first | (have hx := HSX.out (by trivial); subst hx) | skip)
      (first | (have hx := HAX.out (by trivial); subst hx) | skip)
      clear HSX HAX
      go_wp2_with (first | (go_at_call 13; refine (HEN.out _ _ _ _ _ HI1.out HI2.out).mono ?_; rintro e w30 ⟨rfl, hb⟩; replace FB := Lib.hid (FB.out.below hb); clear hb HEN))
      go_ret
      exact ⟨by first | rfl | simp, FB.out.2.2.2⟩)
end Go.Proofs.YtklcbccfbiljjaaGreat
