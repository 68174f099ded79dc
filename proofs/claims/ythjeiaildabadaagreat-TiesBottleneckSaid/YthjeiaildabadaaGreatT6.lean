/- Layer 4: the law TiesBottleneck where it speaks. -/
import Derived.Test.YthjeiaildabadaaGreatT5
import Derived.Test.YthjeiaildabadaaGreatKd
namespace Go.Proofs.YthjeiaildabadaaGreat
set_option linter.unusedSimpArgs false
set_option linter.unusedVariables false
open Go Go.RowKit

attribute [local go_sem] field_gr
set_option maxRecDepth 100000 in
set_option maxHeartbeats 16000000 in
theorem bottle_yes (k p z r : Nat) (a : Option Addr) (cap m : Nat) (lr : Option Addr) (q cq : Nat) (US : Int → List TieD) (w : World) (S : Bool) (E2 L : Int) (R1 R2 R3 R4 : Int → Bool → Prop) (LOK : Int → List Int → Prop) (hp : p < k) (hz : z < k) (hr : r < k) (hq : q ≤ 100)
    (HSA : Hid (∀ W, Calls Tryz.prog 10 #[] W fun e w' => e = .returned (.bool true) ∧ Below W.heap.size W w'))
    (HF : Hid (∀ W, Calls Tryz.prog 11 #[.agg #[.int .i64 k, .slice a m cap]] W fun e w' => e = .returned (.bool true) ∧ Below W.heap.size W w'))
    (HC : Hid (∀ W, Below w.heap.size w W → Calls Tryz.prog 24 #[.agg #[.int .i64 k, .slice a m cap]] W fun e w' => e = .returned (.int .i64 0) ∧ Below W.heap.size W w'))
    (HW1 : Hid (∀ W, Below w.heap.size w W → Calls Tryz.prog 14 #[.agg #[.int .i64 k, .slice a m cap], .int .i64 p, .int .i64 z] W fun e w' => (∃ X B, e = .returned (.tuple #[.int .i64 X, .bool B, .int .i64 0]) ∧ R1 X B) ∧ Below W.heap.size W w'))
    (HW2 : Hid (∀ W, Below w.heap.size w W → Calls Tryz.prog 14 #[.agg #[.int .i64 k, .slice a m cap], .int .i64 z, .int .i64 p] W fun e w' => (∃ X B, e = .returned (.tuple #[.int .i64 X, .bool B, .int .i64 0]) ∧ R2 X B) ∧ Below W.heap.size W w'))
    (HW3 : Hid (∀ W, Below w.heap.size w W → Calls Tryz.prog 14 #[.agg #[.int .i64 k, .slice a m cap], .int .i64 z, .int .i64 r] W fun e w' => (∃ X B, e = .returned (.tuple #[.int .i64 X, .bool B, .int .i64 0]) ∧ R3 X B) ∧ Below W.heap.size W w'))
    (HW4 : Hid (∀ W, Below w.heap.size w W → Calls Tryz.prog 14 #[.agg #[.int .i64 k, .slice a m cap], .int .i64 p, .int .i64 r] W fun e w' => (∃ X B, e = .returned (.tuple #[.int .i64 X, .bool B, .int .i64 0]) ∧ R4 X B) ∧ Below W.heap.size W w'))
    (HS1 : Hid (∀ W, Below w.heap.size w W → Calls Tryz.prog 25 #[.agg #[.int .i64 k, .slice a m cap], .int .i64 p, .int .i64 z] W fun e w' => e = .returned (.tuple #[.bool S, .int .i64 0]) ∧ Below W.heap.size W w'))
    (HFA : Hid (∀ X B X2 B2 X3 B3 X4 B4, R1 X B → R2 X2 B2 → R3 X3 B3 → R4 X4 B4 → S = B ∧ B2 = B ∧ X2 = X ∧ (B = true → B3 = true → B4 = true ∧ min X X3 ≤ X4) ∧ ((B = false ∧ X = 0) ∨ (B = true ∧ 1 ≤ X ∧ X ≤ 101 ∧ (X = 101 ↔ p = z)))))
    (HCC : Hid (∀ W, Below w.heap.size w W → Calls Tryz.prog 26 #[.agg #[.int .i64 k, .slice a m cap], .int .i64 p, .int .i64 z, .slice lr q cq] W fun e w' => e = .returned (.int .i64 E2) ∧ Below W.heap.size W w'))
    (HLE : Hid (E2 = 0 → ∀ W, Below w.heap.size w W → Calls Tryz.prog 27 #[.agg #[.int .i64 k, .slice a m cap], .slice lr q cq] W fun e w' => e = .returned (.int .i64 L) ∧ Below W.heap.size W w'))
    (HF2 : Hid (∀ X B, R1 X B → E2 = 0 → B = true ∧ L ≤ X))
    (HST : Hid (∀ s, 1 ≤ s → s ≤ 101 → ∀ W, Below w.heap.size w W → Calls Tryz.prog 28 #[.agg #[.int .i64 k, .slice a m cap], .int .i64 s] W fun e w' => ∃ a' c', e = .returned (.tuple #[.agg #[.int .i64 k, .slice a' (US s).length c'], .int .i64 0]) ∧ TiesAt w' a' (US s) ∧ Below W.heap.size W w'))
    (HCH : Hid (∀ X, R1 X true → ∀ W a' c', TiesAt W a' (US X) → Calls Tryz.prog 29 #[.agg #[.int .i64 k, .slice a' (US X).length c'], .int .i64 p, .int .i64 z] W fun e w' => (∃ l r c, e = .returned (.tuple #[.slice r l.length c, .bool true, .int .i64 0]) ∧ IntsAt w' r l ∧ LOK X l) ∧ Below W.heap.size W w'))
    (HL2 : Hid (∀ X l W a' c' r c, LOK X l → TiesAt W a' (US X) → IntsAt W r l → Calls Tryz.prog 27 #[.agg #[.int .i64 k, .slice a' (US X).length c'], .slice r l.length c] W fun e w' => (∃ L2, e = .returned (.int .i64 L2) ∧ X ≤ L2) ∧ Below W.heap.size W w'))
    (HS2 : Hid (∀ X, R1 X true → X ≤ 100 → ∀ W a' c', TiesAt W a' (US (X + 1)) → Calls Tryz.prog 25 #[.agg #[.int .i64 k, .slice a' (US (X + 1)).length c'], .int .i64 p, .int .i64 z] W fun e w' => e = .returned (.tuple #[.bool false, .int .i64 0]) ∧ Below W.heap.size W w')) :
    Calls Tryz.prog 6 #[.agg #[.int .i64 k, .slice a m cap], .int .i64 p, .int .i64 z, .int .i64 r, .slice lr q cq] w fun e w' => e = .returned (.bool true) ∧ Below w.heap.size w w' := by
  have FB := Lib.hid (FA.new w [.int .i64 k, .slice a m cap])
  have s1 : decide (((100 : Nat) : Int) < (q : Int)) = false := decide_eq_false (by omega)
  have s2 : decide ((100 : Int) < (q : Int)) = false := decide_eq_false (by omega)
  have s3 : decide ((p : Int) < 0) = false := decide_eq_false (by omega)
  have s4 : decide ((z : Int) < 0) = false := decide_eq_false (by omega)
  have s5 : decide ((r : Int) < 0) = false := decide_eq_false (by omega)
  have s6 : decide (k ≤ p) = false := decide_eq_false (by omega)
  have s7 : decide (k ≤ z) = false := decide_eq_false (by omega)
  have s8 : decide (k ≤ r) = false := decide_eq_false (by omega)
  clear hp hz hr hq
  go_enter Tryz.func6, Tryz.ntmps6
  go_upto_region 5 with (first | (go_at_call 10; refine (HSA.out _).mono ?_; rintro e w1 ⟨rfl, hb⟩; clear HSA; replace FB := Lib.hid (FB.out.below hb); clear hb; have c0 := FB.out.1.cell (i := 0) rfl; have c1 := FB.out.1.cell (i := 1) rfl) | (go_at_call 11; refine (HF.out _).mono ?_; rintro e w2 ⟨rfl, hb⟩; clear HF c0 c1; replace FB := Lib.hid (FB.out.below hb); clear hb; have c0 := FB.out.1.cell (i := 0) rfl; have c1 := FB.out.1.cell (i := 1) rfl) | (go_at_call 24; refine (HC.out _ FB.out.2).mono ?_; rintro e w3 ⟨rfl, hb⟩; clear HC c0 c1; replace FB := Lib.hid (FB.out.below hb); clear hb; have c0 := FB.out.1.cell (i := 0) rfl; have c1 := FB.out.1.cell (i := 1) rfl))
  clear s1 s2 s3 s4 s5 s6 s7 s8
  go_upto_region 6 with (first | (go_at_call 14; go_loud (refine (HW1.out _ FB.out.2).mono ?_; rintro e w4 ⟨⟨X, B, rfl, hr⟩, hb⟩; clear HW1 c0 c1; replace FB := Lib.hid (FB.out.below hb); have HR1 := Lib.hid hr; clear hb hr; have c0 := FB.out.1.cell (i := 0) rfl; have c1 := FB.out.1.cell (i := 1) rfl)))
  go_upto_region 7 with (first | (go_at_call 14; go_loud (refine (HW2.out _ FB.out.2).mono ?_; rintro e w4 ⟨⟨X2, B2, rfl, hr⟩, hb⟩; clear HW2 c0 c1; replace FB := Lib.hid (FB.out.below hb); have HR2 := Lib.hid hr; clear hb hr; have c0 := FB.out.1.cell (i := 0) rfl; have c1 := FB.out.1.cell (i := 1) rfl)))
  go_upto_region 8 with (first | (go_at_call 14; go_loud (refine (HW3.out _ FB.out.2).mono ?_; rintro e w4 ⟨⟨X3, B3, rfl, hr⟩, hb⟩; clear HW3 c0 c1; replace FB := Lib.hid (FB.out.below hb); have HR3 := Lib.hid hr; clear hb hr; have c0 := FB.out.1.cell (i := 0) rfl; have c1 := FB.out.1.cell (i := 1) rfl)))
  go_upto_region 9 with (first | (go_at_call 14; go_loud (refine (HW4.out _ FB.out.2).mono ?_; rintro e w4 ⟨⟨X4, B4, rfl, hr⟩, hb⟩; clear HW4 c0 c1; replace FB := Lib.hid (FB.out.below hb); have HR4 := Lib.hid hr; clear hb hr; have c0 := FB.out.1.cell (i := 0) rfl; have c1 := FB.out.1.cell (i := 1) rfl)))
  go_upto_region 10 with (first | (go_at_call 25; go_loud (refine (HS1.out _ FB.out.2).mono ?_; rintro e w5 ⟨rfl, hb⟩; clear HS1 c0 c1; replace FB := Lib.hid (FB.out.below hb); clear hb; have c0 := FB.out.1.cell (i := 0) rfl; have c1 := FB.out.1.cell (i := 1) rfl)))
  obtain ⟨e1, e2, e3, hT, hB⟩ := HFA.out _ _ _ _ _ _ _ _ HR1.out HR2.out HR3.out HR4.out
  replace e1 := e1.symm
  replace e2 := e2.symm
  replace e3 := e3.symm
  subst e1
  subst e2
  subst e3
  clear HFA HR2 HR3 HR4
  have HTR := Lib.hid hT
  replace HF2 := Lib.hid (HF2.out _ _ HR1.out)
  clear hT
  rcases hB with ⟨hS, hX⟩ | ⟨hS, hX1, hX2, hX3⟩
  · subst hS hX
    have hE : E2 ≠ 0 := fun h => by have := (HF2.out h).1; cases this
    have v1 : (E2 == 0) = false := by simp [hE]
    have v2 : decide (E2 = 0) = false := decide_eq_false hE
    clear hE HLE HF2 HST HCH HL2 HS2 HTR HR1
    go_wp2_with (first | (go_at_call 26; go_loud (refine (HCC.out _ FB.out.2).mono ?_; rintro e w6 ⟨rfl, hb⟩; clear HCC c0 c1; replace FB := Lib.hid (FB.out.below hb); clear hb; have c0 := FB.out.1.cell (i := 0) rfl; have c1 := FB.out.1.cell (i := 1) rfl)))
    go_ret
    exact ⟨by first | rfl | simp, FB.out.2⟩
  · subst hS
    replace HCH := Lib.hid (HCH.out _ HR1.out)
    replace HL2 := Lib.hid (HL2.out X)
    replace HS2 := Lib.hid (HS2.out _ HR1.out)
    have HWI := Lib.hid hX3
    have HWB := Lib.hid (And.intro hX1 hX2)
    clear hX1 hX2 hX3 HR1
    cases B3 with
    | false =>
      clear HTR
      by_cases hpz : p = z
      · subst hpz
        have hx : X = 101 := HWI.out.2 rfl
        subst hx
        have HTP : Hid ((100 : Int) < 101) := by rw [Hid]; omega
        have HW : Hid ((1 : Int) ≤ 101 ∧ (101 : Int) ≤ 101 ∧ True) := ⟨by omega, by omega, trivial⟩
        by_cases hE : E2 = 0
        · subst hE
          replace HLE := Lib.hid (HLE.out rfl)
          have v1 : decide (101 < L) = false := decide_eq_false (by have := (HF2.out rfl).2; omega)
          clear HF2
          go_upto_region 19 with (first | (go_at_call 26; go_loud (refine (HCC.out _ FB.out.2).mono ?_; rintro e w6 ⟨rfl, hb⟩; clear HCC c0 c1; replace FB := Lib.hid (FB.out.below hb); clear hb; have c0 := FB.out.1.cell (i := 0) rfl; have c1 := FB.out.1.cell (i := 1) rfl)) | (go_at_call 27; go_loud (refine (HLE.out _ FB.out.2).mono ?_; rintro e w7 ⟨rfl, hb⟩; clear HLE c0 c1; replace FB := Lib.hid (FB.out.below hb); clear hb; have c0 := FB.out.1.cell (i := 0) rfl; have c1 := FB.out.1.cell (i := 1) rfl)) | (go_at_call 28; go_loud (refine (HST.out _ HW.out.1 HW.out.2.1 _ FB.out.2).mono ?_; rintro e w8 ⟨a', c', rfl, ht, hb⟩; clear c0 c1; have HT := Lib.hid ht; clear ht; replace FB := Lib.hid (FB.out.below hb); clear hb)))
          refine named (fun V => Hid (Blk V w8.heap.size [.int .i64 k, .slice a' (US 101).length c'] 24) ∧ Hid (Below w8.heap.size w8 V)) ⟨Blk.new w8 [.int .i64 k, .slice a' (US 101).length c'] _, (Below.refl _ _).alloc (Nat.le_refl _) _⟩ ?_
          rintro V ⟨H7, HBV⟩
          replace FB := Lib.hid (FB.out.below HBV.out)
          replace HT := Lib.hid (HT.out.below HBV.out)
          generalize hb7 : w8.heap.size = b7 at H7 ⊢
          clear hb7 HBV
          have d0 := H7.out.cell (i := 0) rfl
          have d1 := H7.out.cell (i := 1) rfl
          go_upto_region 20 with (first | (go_at_call 29; go_loud (refine (HCH.out _ _ _ HT.out).mono ?_; rintro e w9 ⟨⟨l2, r2, q2, rfl, hi, hk⟩, hb⟩; clear HCH d0 d1; have HI := Lib.hid hi; have HK := Lib.hid hk; clear hi hk; replace FB := Lib.hid (FB.out.below hb); replace HT := Lib.hid (HT.out.below hb); replace H7 := Lib.hid (H7.out.below hb); clear hb; have d0 := H7.out.cell (i := 0) rfl; have d1 := H7.out.cell (i := 1) rfl)))
          go_upto_region 22 with (first | (go_at_call 27; go_loud (refine (HL2.out _ _ _ _ _ _ HK.out HT.out HI.out).mono ?_; rintro e w10 ⟨⟨L2, rfl, hg⟩, hb⟩; clear HL2 d0 d1 HI HK HT H7; have tl : decide (L2 < 101) = false := decide_eq_false (by omega); clear hg; replace FB := Lib.hid (FB.out.below hb); clear hb)))
          clear tl
          have c0 := FB.out.1.cell (i := 0) rfl
          have c1 := FB.out.1.cell (i := 1) rfl
          have tg : decide ((100 : Int) < 101) = true := decide_eq_true (by have := HTP.out; omega)
          clear HST HS2
          go_wp2_with fail
          go_ret
          exact ⟨rfl, FB.out.2⟩
        · have v1 : (E2 == 0) = false := by simp [hE]
          have v2 : decide (E2 = 0) = false := decide_eq_false hE
          clear hE HLE HF2
          go_upto_region 19 with (first | (go_at_call 26; go_loud (refine (HCC.out _ FB.out.2).mono ?_; rintro e w6 ⟨rfl, hb⟩; clear HCC c0 c1; replace FB := Lib.hid (FB.out.below hb); clear hb; have c0 := FB.out.1.cell (i := 0) rfl; have c1 := FB.out.1.cell (i := 1) rfl)) | (go_at_call 27; go_loud (refine (HLE.out _ FB.out.2).mono ?_; rintro e w7 ⟨rfl, hb⟩; clear HLE c0 c1; replace FB := Lib.hid (FB.out.below hb); clear hb; have c0 := FB.out.1.cell (i := 0) rfl; have c1 := FB.out.1.cell (i := 1) rfl)) | (go_at_call 28; go_loud (refine (HST.out _ HW.out.1 HW.out.2.1 _ FB.out.2).mono ?_; rintro e w8 ⟨a', c', rfl, ht, hb⟩; clear c0 c1; have HT := Lib.hid ht; clear ht; replace FB := Lib.hid (FB.out.below hb); clear hb)))
          refine named (fun V => Hid (Blk V w8.heap.size [.int .i64 k, .slice a' (US 101).length c'] 24) ∧ Hid (Below w8.heap.size w8 V)) ⟨Blk.new w8 [.int .i64 k, .slice a' (US 101).length c'] _, (Below.refl _ _).alloc (Nat.le_refl _) _⟩ ?_
          rintro V ⟨H7, HBV⟩
          replace FB := Lib.hid (FB.out.below HBV.out)
          replace HT := Lib.hid (HT.out.below HBV.out)
          generalize hb7 : w8.heap.size = b7 at H7 ⊢
          clear hb7 HBV
          have d0 := H7.out.cell (i := 0) rfl
          have d1 := H7.out.cell (i := 1) rfl
          go_upto_region 20 with (first | (go_at_call 29; go_loud (refine (HCH.out _ _ _ HT.out).mono ?_; rintro e w9 ⟨⟨l2, r2, q2, rfl, hi, hk⟩, hb⟩; clear HCH d0 d1; have HI := Lib.hid hi; have HK := Lib.hid hk; clear hi hk; replace FB := Lib.hid (FB.out.below hb); replace HT := Lib.hid (HT.out.below hb); replace H7 := Lib.hid (H7.out.below hb); clear hb; have d0 := H7.out.cell (i := 0) rfl; have d1 := H7.out.cell (i := 1) rfl)))
          go_upto_region 22 with (first | (go_at_call 27; go_loud (refine (HL2.out _ _ _ _ _ _ HK.out HT.out HI.out).mono ?_; rintro e w10 ⟨⟨L2, rfl, hg⟩, hb⟩; clear HL2 d0 d1 HI HK HT H7; have tl : decide (L2 < 101) = false := decide_eq_false (by omega); clear hg; replace FB := Lib.hid (FB.out.below hb); clear hb)))
          clear tl
          have c0 := FB.out.1.cell (i := 0) rfl
          have c1 := FB.out.1.cell (i := 1) rfl
          have tg : decide ((100 : Int) < 101) = true := decide_eq_true (by have := HTP.out; omega)
          clear HST HS2
          go_wp2_with fail
          go_ret
          exact ⟨rfl, FB.out.2⟩
      · have hx : X ≠ 101 := fun h => hpz (HWI.out.1 h)
        have HTP : Hid (X ≤ 100) := by have := HWB.out; rw [Hid]; omega
        have HW : Hid (1 ≤ X ∧ X ≤ 101 ∧ True) := ⟨HWB.out.1, HWB.out.2, trivial⟩
        have u1 : decide (X < 1) = false := decide_eq_false (by have := HWB.out; omega)
        have u2 : decide ((101 : Int) < X) = false := decide_eq_false (by have := HWB.out; omega)
        have u3 : (X == 101) = false := by simp [hx]
        have u4 : (p == z) = false := by simp [hpz]
        have u5 : decide (X = 101) = false := decide_eq_false hx
        have u6 : decide (p = z) = false := decide_eq_false hpz
        clear hx hpz
        by_cases hE : E2 = 0
        · subst hE
          replace HLE := Lib.hid (HLE.out rfl)
          have v1 : decide (X < L) = false := decide_eq_false (by have := (HF2.out rfl).2; omega)
          clear HF2
          go_upto_region 19 with (first | (go_at_call 26; go_loud (refine (HCC.out _ FB.out.2).mono ?_; rintro e w6 ⟨rfl, hb⟩; clear HCC c0 c1; replace FB := Lib.hid (FB.out.below hb); clear hb; have c0 := FB.out.1.cell (i := 0) rfl; have c1 := FB.out.1.cell (i := 1) rfl)) | (go_at_call 27; go_loud (refine (HLE.out _ FB.out.2).mono ?_; rintro e w7 ⟨rfl, hb⟩; clear HLE c0 c1; replace FB := Lib.hid (FB.out.below hb); clear hb; have c0 := FB.out.1.cell (i := 0) rfl; have c1 := FB.out.1.cell (i := 1) rfl)) | (go_at_call 28; go_loud (refine (HST.out _ HW.out.1 HW.out.2.1 _ FB.out.2).mono ?_; rintro e w8 ⟨a', c', rfl, ht, hb⟩; clear c0 c1; have HT := Lib.hid ht; clear ht; replace FB := Lib.hid (FB.out.below hb); clear hb)))
          refine named (fun V => Hid (Blk V w8.heap.size [.int .i64 k, .slice a' (US X).length c'] 24) ∧ Hid (Below w8.heap.size w8 V)) ⟨Blk.new w8 [.int .i64 k, .slice a' (US X).length c'] _, (Below.refl _ _).alloc (Nat.le_refl _) _⟩ ?_
          rintro V ⟨H7, HBV⟩
          replace FB := Lib.hid (FB.out.below HBV.out)
          replace HT := Lib.hid (HT.out.below HBV.out)
          generalize hb7 : w8.heap.size = b7 at H7 ⊢
          clear hb7 HBV
          have d0 := H7.out.cell (i := 0) rfl
          have d1 := H7.out.cell (i := 1) rfl
          go_upto_region 20 with (first | (go_at_call 29; go_loud (refine (HCH.out _ _ _ HT.out).mono ?_; rintro e w9 ⟨⟨l2, r2, q2, rfl, hi, hk⟩, hb⟩; clear HCH d0 d1; have HI := Lib.hid hi; have HK := Lib.hid hk; clear hi hk; replace FB := Lib.hid (FB.out.below hb); replace HT := Lib.hid (HT.out.below hb); replace H7 := Lib.hid (H7.out.below hb); clear hb; have d0 := H7.out.cell (i := 0) rfl; have d1 := H7.out.cell (i := 1) rfl)))
          go_upto_region 22 with (first | (go_at_call 27; go_loud (refine (HL2.out _ _ _ _ _ _ HK.out HT.out HI.out).mono ?_; rintro e w10 ⟨⟨L2, rfl, hg⟩, hb⟩; clear HL2 d0 d1 HI HK HT H7; have tl : decide (L2 < X) = false := decide_eq_false (by omega); clear hg; replace FB := Lib.hid (FB.out.below hb); clear hb)))
          clear tl
          have c0 := FB.out.1.cell (i := 0) rfl
          have c1 := FB.out.1.cell (i := 1) rfl
          have tg : decide ((100 : Int) < X) = false := decide_eq_false (by have := HTP.out; omega)
          have hxr : 1 ≤ X ∧ X ≤ 100 := ⟨HW.out.1, HTP.out⟩
          obtain ⟨hx1, hx2⟩ := hxr
          replace HST := Lib.hid (HST.out (X + 1) (by omega) (by omega))
          replace HS2 := Lib.hid (HS2.out HTP.out)
          go_upto_region 25 with (first | (go_at_call 28; go_loud (refine (HST.out _ FB.out.2).mono ?_; rintro e w11 ⟨a2, c2, rfl, ht, hb⟩; clear HST c0 c1; have HT := Lib.hid ht; clear ht; replace FB := Lib.hid (FB.out.below hb); clear hb)))
          refine named (fun V => Hid (Blk V w11.heap.size [.int .i64 k, .slice a2 (US (X + 1)).length c2] 24) ∧ Hid (Below w11.heap.size w11 V)) ⟨Blk.new w11 [.int .i64 k, .slice a2 (US (X + 1)).length c2] _, (Below.refl _ _).alloc (Nat.le_refl _) _⟩ ?_
          rintro V2 ⟨H8, HBV⟩
          replace FB := Lib.hid (FB.out.below HBV.out)
          replace HT := Lib.hid (HT.out.below HBV.out)
          generalize hb8 : w11.heap.size = b8 at H8 ⊢
          clear hb8 HBV
          have d0 := H8.out.cell (i := 0) rfl
          have d1 := H8.out.cell (i := 1) rfl
          go_wp2_with (first | (go_at_call 25; go_loud (refine (HS2.out _ _ _ HT.out).mono ?_; rintro e w12 ⟨rfl, hb⟩; clear HS2 d0 d1; replace FB := Lib.hid (FB.out.below hb); clear hb)))
          go_ret
          exact ⟨by first | rfl | simp, FB.out.2⟩
        · have v1 : (E2 == 0) = false := by simp [hE]
          have v2 : decide (E2 = 0) = false := decide_eq_false hE
          clear hE HLE HF2
          go_upto_region 19 with (first | (go_at_call 26; go_loud (refine (HCC.out _ FB.out.2).mono ?_; rintro e w6 ⟨rfl, hb⟩; clear HCC c0 c1; replace FB := Lib.hid (FB.out.below hb); clear hb; have c0 := FB.out.1.cell (i := 0) rfl; have c1 := FB.out.1.cell (i := 1) rfl)) | (go_at_call 27; go_loud (refine (HLE.out _ FB.out.2).mono ?_; rintro e w7 ⟨rfl, hb⟩; clear HLE c0 c1; replace FB := Lib.hid (FB.out.below hb); clear hb; have c0 := FB.out.1.cell (i := 0) rfl; have c1 := FB.out.1.cell (i := 1) rfl)) | (go_at_call 28; go_loud (refine (HST.out _ HW.out.1 HW.out.2.1 _ FB.out.2).mono ?_; rintro e w8 ⟨a', c', rfl, ht, hb⟩; clear c0 c1; have HT := Lib.hid ht; clear ht; replace FB := Lib.hid (FB.out.below hb); clear hb)))
          refine named (fun V => Hid (Blk V w8.heap.size [.int .i64 k, .slice a' (US X).length c'] 24) ∧ Hid (Below w8.heap.size w8 V)) ⟨Blk.new w8 [.int .i64 k, .slice a' (US X).length c'] _, (Below.refl _ _).alloc (Nat.le_refl _) _⟩ ?_
          rintro V ⟨H7, HBV⟩
          replace FB := Lib.hid (FB.out.below HBV.out)
          replace HT := Lib.hid (HT.out.below HBV.out)
          generalize hb7 : w8.heap.size = b7 at H7 ⊢
          clear hb7 HBV
          have d0 := H7.out.cell (i := 0) rfl
          have d1 := H7.out.cell (i := 1) rfl
          go_upto_region 20 with (first | (go_at_call 29; go_loud (refine (HCH.out _ _ _ HT.out).mono ?_; rintro e w9 ⟨⟨l2, r2, q2, rfl, hi, hk⟩, hb⟩; clear HCH d0 d1; have HI := Lib.hid hi; have HK := Lib.hid hk; clear hi hk; replace FB := Lib.hid (FB.out.below hb); replace HT := Lib.hid (HT.out.below hb); replace H7 := Lib.hid (H7.out.below hb); clear hb; have d0 := H7.out.cell (i := 0) rfl; have d1 := H7.out.cell (i := 1) rfl)))
          go_upto_region 22 with (first | (go_at_call 27; go_loud (refine (HL2.out _ _ _ _ _ _ HK.out HT.out HI.out).mono ?_; rintro e w10 ⟨⟨L2, rfl, hg⟩, hb⟩; clear HL2 d0 d1 HI HK HT H7; have tl : decide (L2 < X) = false := decide_eq_false (by omega); clear hg; replace FB := Lib.hid (FB.out.below hb); clear hb)))
          clear tl
          have c0 := FB.out.1.cell (i := 0) rfl
          have c1 := FB.out.1.cell (i := 1) rfl
          have tg : decide ((100 : Int) < X) = false := decide_eq_false (by have := HTP.out; omega)
          have hxr : 1 ≤ X ∧ X ≤ 100 := ⟨HW.out.1, HTP.out⟩
          obtain ⟨hx1, hx2⟩ := hxr
          replace HST := Lib.hid (HST.out (X + 1) (by omega) (by omega))
          replace HS2 := Lib.hid (HS2.out HTP.out)
          go_upto_region 25 with (first | (go_at_call 28; go_loud (refine (HST.out _ FB.out.2).mono ?_; rintro e w11 ⟨a2, c2, rfl, ht, hb⟩; clear HST c0 c1; have HT := Lib.hid ht; clear ht; replace FB := Lib.hid (FB.out.below hb); clear hb)))
          refine named (fun V => Hid (Blk V w11.heap.size [.int .i64 k, .slice a2 (US (X + 1)).length c2] 24) ∧ Hid (Below w11.heap.size w11 V)) ⟨Blk.new w11 [.int .i64 k, .slice a2 (US (X + 1)).length c2] _, (Below.refl _ _).alloc (Nat.le_refl _) _⟩ ?_
          rintro V2 ⟨H8, HBV⟩
          replace FB := Lib.hid (FB.out.below HBV.out)
          replace HT := Lib.hid (HT.out.below HBV.out)
          generalize hb8 : w11.heap.size = b8 at H8 ⊢
          clear hb8 HBV
          have d0 := H8.out.cell (i := 0) rfl
          have d1 := H8.out.cell (i := 1) rfl
          go_wp2_with (first | (go_at_call 25; go_loud (refine (HS2.out _ _ _ HT.out).mono ?_; rintro e w12 ⟨rfl, hb⟩; clear HS2 d0 d1; replace FB := Lib.hid (FB.out.below hb); clear hb)))
          go_ret
          exact ⟨by first | rfl | simp, FB.out.2⟩
    | true =>
      obtain ⟨hT1, hT2⟩ := HTR.out rfl rfl
      subst hT1
      have tt : decide (X4 < min X X3) = false := decide_eq_false (by omega)
      clear HTR hT2
      by_cases hpz : p = z
      · subst hpz
        have hx : X = 101 := HWI.out.2 rfl
        subst hx
        have HTP : Hid ((100 : Int) < 101) := by rw [Hid]; omega
        have HW : Hid ((1 : Int) ≤ 101 ∧ (101 : Int) ≤ 101 ∧ True) := ⟨by omega, by omega, trivial⟩
        by_cases hE : E2 = 0
        · subst hE
          replace HLE := Lib.hid (HLE.out rfl)
          have v1 : decide (101 < L) = false := decide_eq_false (by have := (HF2.out rfl).2; omega)
          clear HF2
          go_upto_region 19 with (first | (go_at_call 26; go_loud (refine (HCC.out _ FB.out.2).mono ?_; rintro e w6 ⟨rfl, hb⟩; clear HCC c0 c1; replace FB := Lib.hid (FB.out.below hb); clear hb; have c0 := FB.out.1.cell (i := 0) rfl; have c1 := FB.out.1.cell (i := 1) rfl)) | (go_at_call 27; go_loud (refine (HLE.out _ FB.out.2).mono ?_; rintro e w7 ⟨rfl, hb⟩; clear HLE c0 c1; replace FB := Lib.hid (FB.out.below hb); clear hb; have c0 := FB.out.1.cell (i := 0) rfl; have c1 := FB.out.1.cell (i := 1) rfl)) | (go_at_call 28; go_loud (refine (HST.out _ HW.out.1 HW.out.2.1 _ FB.out.2).mono ?_; rintro e w8 ⟨a', c', rfl, ht, hb⟩; clear c0 c1; have HT := Lib.hid ht; clear ht; replace FB := Lib.hid (FB.out.below hb); clear hb)))
          refine named (fun V => Hid (Blk V w8.heap.size [.int .i64 k, .slice a' (US 101).length c'] 24) ∧ Hid (Below w8.heap.size w8 V)) ⟨Blk.new w8 [.int .i64 k, .slice a' (US 101).length c'] _, (Below.refl _ _).alloc (Nat.le_refl _) _⟩ ?_
          rintro V ⟨H7, HBV⟩
          replace FB := Lib.hid (FB.out.below HBV.out)
          replace HT := Lib.hid (HT.out.below HBV.out)
          generalize hb7 : w8.heap.size = b7 at H7 ⊢
          clear hb7 HBV
          have d0 := H7.out.cell (i := 0) rfl
          have d1 := H7.out.cell (i := 1) rfl
          go_upto_region 20 with (first | (go_at_call 29; go_loud (refine (HCH.out _ _ _ HT.out).mono ?_; rintro e w9 ⟨⟨l2, r2, q2, rfl, hi, hk⟩, hb⟩; clear HCH d0 d1; have HI := Lib.hid hi; have HK := Lib.hid hk; clear hi hk; replace FB := Lib.hid (FB.out.below hb); replace HT := Lib.hid (HT.out.below hb); replace H7 := Lib.hid (H7.out.below hb); clear hb; have d0 := H7.out.cell (i := 0) rfl; have d1 := H7.out.cell (i := 1) rfl)))
          go_upto_region 22 with (first | (go_at_call 27; go_loud (refine (HL2.out _ _ _ _ _ _ HK.out HT.out HI.out).mono ?_; rintro e w10 ⟨⟨L2, rfl, hg⟩, hb⟩; clear HL2 d0 d1 HI HK HT H7; have tl : decide (L2 < 101) = false := decide_eq_false (by omega); clear hg; replace FB := Lib.hid (FB.out.below hb); clear hb)))
          clear tl
          have c0 := FB.out.1.cell (i := 0) rfl
          have c1 := FB.out.1.cell (i := 1) rfl
          have tg : decide ((100 : Int) < 101) = true := decide_eq_true (by have := HTP.out; omega)
          clear HST HS2
          go_wp2_with fail
          go_ret
          exact ⟨rfl, FB.out.2⟩
        · have v1 : (E2 == 0) = false := by simp [hE]
          have v2 : decide (E2 = 0) = false := decide_eq_false hE
          clear hE HLE HF2
          go_upto_region 19 with (first | (go_at_call 26; go_loud (refine (HCC.out _ FB.out.2).mono ?_; rintro e w6 ⟨rfl, hb⟩; clear HCC c0 c1; replace FB := Lib.hid (FB.out.below hb); clear hb; have c0 := FB.out.1.cell (i := 0) rfl; have c1 := FB.out.1.cell (i := 1) rfl)) | (go_at_call 27; go_loud (refine (HLE.out _ FB.out.2).mono ?_; rintro e w7 ⟨rfl, hb⟩; clear HLE c0 c1; replace FB := Lib.hid (FB.out.below hb); clear hb; have c0 := FB.out.1.cell (i := 0) rfl; have c1 := FB.out.1.cell (i := 1) rfl)) | (go_at_call 28; go_loud (refine (HST.out _ HW.out.1 HW.out.2.1 _ FB.out.2).mono ?_; rintro e w8 ⟨a', c', rfl, ht, hb⟩; clear c0 c1; have HT := Lib.hid ht; clear ht; replace FB := Lib.hid (FB.out.below hb); clear hb)))
          refine named (fun V => Hid (Blk V w8.heap.size [.int .i64 k, .slice a' (US 101).length c'] 24) ∧ Hid (Below w8.heap.size w8 V)) ⟨Blk.new w8 [.int .i64 k, .slice a' (US 101).length c'] _, (Below.refl _ _).alloc (Nat.le_refl _) _⟩ ?_
          rintro V ⟨H7, HBV⟩
          replace FB := Lib.hid (FB.out.below HBV.out)
          replace HT := Lib.hid (HT.out.below HBV.out)
          generalize hb7 : w8.heap.size = b7 at H7 ⊢
          clear hb7 HBV
          have d0 := H7.out.cell (i := 0) rfl
          have d1 := H7.out.cell (i := 1) rfl
          go_upto_region 20 with (first | (go_at_call 29; go_loud (refine (HCH.out _ _ _ HT.out).mono ?_; rintro e w9 ⟨⟨l2, r2, q2, rfl, hi, hk⟩, hb⟩; clear HCH d0 d1; have HI := Lib.hid hi; have HK := Lib.hid hk; clear hi hk; replace FB := Lib.hid (FB.out.below hb); replace HT := Lib.hid (HT.out.below hb); replace H7 := Lib.hid (H7.out.below hb); clear hb; have d0 := H7.out.cell (i := 0) rfl; have d1 := H7.out.cell (i := 1) rfl)))
          go_upto_region 22 with (first | (go_at_call 27; go_loud (refine (HL2.out _ _ _ _ _ _ HK.out HT.out HI.out).mono ?_; rintro e w10 ⟨⟨L2, rfl, hg⟩, hb⟩; clear HL2 d0 d1 HI HK HT H7; have tl : decide (L2 < 101) = false := decide_eq_false (by omega); clear hg; replace FB := Lib.hid (FB.out.below hb); clear hb)))
          clear tl
          have c0 := FB.out.1.cell (i := 0) rfl
          have c1 := FB.out.1.cell (i := 1) rfl
          have tg : decide ((100 : Int) < 101) = true := decide_eq_true (by have := HTP.out; omega)
          clear HST HS2
          go_wp2_with fail
          go_ret
          exact ⟨rfl, FB.out.2⟩
      · have hx : X ≠ 101 := fun h => hpz (HWI.out.1 h)
        have HTP : Hid (X ≤ 100) := by have := HWB.out; rw [Hid]; omega
        have HW : Hid (1 ≤ X ∧ X ≤ 101 ∧ True) := ⟨HWB.out.1, HWB.out.2, trivial⟩
        have u1 : decide (X < 1) = false := decide_eq_false (by have := HWB.out; omega)
        have u2 : decide ((101 : Int) < X) = false := decide_eq_false (by have := HWB.out; omega)
        have u3 : (X == 101) = false := by simp [hx]
        have u4 : (p == z) = false := by simp [hpz]
        have u5 : decide (X = 101) = false := decide_eq_false hx
        have u6 : decide (p = z) = false := decide_eq_false hpz
        clear hx hpz
        by_cases hE : E2 = 0
        · subst hE
          replace HLE := Lib.hid (HLE.out rfl)
          have v1 : decide (X < L) = false := decide_eq_false (by have := (HF2.out rfl).2; omega)
          clear HF2
          go_upto_region 19 with (first | (go_at_call 26; go_loud (refine (HCC.out _ FB.out.2).mono ?_; rintro e w6 ⟨rfl, hb⟩; clear HCC c0 c1; replace FB := Lib.hid (FB.out.below hb); clear hb; have c0 := FB.out.1.cell (i := 0) rfl; have c1 := FB.out.1.cell (i := 1) rfl)) | (go_at_call 27; go_loud (refine (HLE.out _ FB.out.2).mono ?_; rintro e w7 ⟨rfl, hb⟩; clear HLE c0 c1; replace FB := Lib.hid (FB.out.below hb); clear hb; have c0 := FB.out.1.cell (i := 0) rfl; have c1 := FB.out.1.cell (i := 1) rfl)) | (go_at_call 28; go_loud (refine (HST.out _ HW.out.1 HW.out.2.1 _ FB.out.2).mono ?_; rintro e w8 ⟨a', c', rfl, ht, hb⟩; clear c0 c1; have HT := Lib.hid ht; clear ht; replace FB := Lib.hid (FB.out.below hb); clear hb)))
          refine named (fun V => Hid (Blk V w8.heap.size [.int .i64 k, .slice a' (US X).length c'] 24) ∧ Hid (Below w8.heap.size w8 V)) ⟨Blk.new w8 [.int .i64 k, .slice a' (US X).length c'] _, (Below.refl _ _).alloc (Nat.le_refl _) _⟩ ?_
          rintro V ⟨H7, HBV⟩
          replace FB := Lib.hid (FB.out.below HBV.out)
          replace HT := Lib.hid (HT.out.below HBV.out)
          generalize hb7 : w8.heap.size = b7 at H7 ⊢
          clear hb7 HBV
          have d0 := H7.out.cell (i := 0) rfl
          have d1 := H7.out.cell (i := 1) rfl
          go_upto_region 20 with (first | (go_at_call 29; go_loud (refine (HCH.out _ _ _ HT.out).mono ?_; rintro e w9 ⟨⟨l2, r2, q2, rfl, hi, hk⟩, hb⟩; clear HCH d0 d1; have HI := Lib.hid hi; have HK := Lib.hid hk; clear hi hk; replace FB := Lib.hid (FB.out.below hb); replace HT := Lib.hid (HT.out.below hb); replace H7 := Lib.hid (H7.out.below hb); clear hb; have d0 := H7.out.cell (i := 0) rfl; have d1 := H7.out.cell (i := 1) rfl)))
          go_upto_region 22 with (first | (go_at_call 27; go_loud (refine (HL2.out _ _ _ _ _ _ HK.out HT.out HI.out).mono ?_; rintro e w10 ⟨⟨L2, rfl, hg⟩, hb⟩; clear HL2 d0 d1 HI HK HT H7; have tl : decide (L2 < X) = false := decide_eq_false (by omega); clear hg; replace FB := Lib.hid (FB.out.below hb); clear hb)))
          clear tl
          have c0 := FB.out.1.cell (i := 0) rfl
          have c1 := FB.out.1.cell (i := 1) rfl
          have tg : decide ((100 : Int) < X) = false := decide_eq_false (by have := HTP.out; omega)
          have hxr : 1 ≤ X ∧ X ≤ 100 := ⟨HW.out.1, HTP.out⟩
          obtain ⟨hx1, hx2⟩ := hxr
          replace HST := Lib.hid (HST.out (X + 1) (by omega) (by omega))
          replace HS2 := Lib.hid (HS2.out HTP.out)
          go_upto_region 25 with (first | (go_at_call 28; go_loud (refine (HST.out _ FB.out.2).mono ?_; rintro e w11 ⟨a2, c2, rfl, ht, hb⟩; clear HST c0 c1; have HT := Lib.hid ht; clear ht; replace FB := Lib.hid (FB.out.below hb); clear hb)))
          refine named (fun V => Hid (Blk V w11.heap.size [.int .i64 k, .slice a2 (US (X + 1)).length c2] 24) ∧ Hid (Below w11.heap.size w11 V)) ⟨Blk.new w11 [.int .i64 k, .slice a2 (US (X + 1)).length c2] _, (Below.refl _ _).alloc (Nat.le_refl _) _⟩ ?_
          rintro V2 ⟨H8, HBV⟩
          replace FB := Lib.hid (FB.out.below HBV.out)
          replace HT := Lib.hid (HT.out.below HBV.out)
          generalize hb8 : w11.heap.size = b8 at H8 ⊢
          clear hb8 HBV
          have d0 := H8.out.cell (i := 0) rfl
          have d1 := H8.out.cell (i := 1) rfl
          go_wp2_with (first | (go_at_call 25; go_loud (refine (HS2.out _ _ _ HT.out).mono ?_; rintro e w12 ⟨rfl, hb⟩; clear HS2 d0 d1; replace FB := Lib.hid (FB.out.below hb); clear hb)))
          go_ret
          exact ⟨by first | rfl | simp, FB.out.2⟩
        · have v1 : (E2 == 0) = false := by simp [hE]
          have v2 : decide (E2 = 0) = false := decide_eq_false hE
          clear hE HLE HF2
          go_upto_region 19 with (first | (go_at_call 26; go_loud (refine (HCC.out _ FB.out.2).mono ?_; rintro e w6 ⟨rfl, hb⟩; clear HCC c0 c1; replace FB := Lib.hid (FB.out.below hb); clear hb; have c0 := FB.out.1.cell (i := 0) rfl; have c1 := FB.out.1.cell (i := 1) rfl)) | (go_at_call 27; go_loud (refine (HLE.out _ FB.out.2).mono ?_; rintro e w7 ⟨rfl, hb⟩; clear HLE c0 c1; replace FB := Lib.hid (FB.out.below hb); clear hb; have c0 := FB.out.1.cell (i := 0) rfl; have c1 := FB.out.1.cell (i := 1) rfl)) | (go_at_call 28; go_loud (refine (HST.out _ HW.out.1 HW.out.2.1 _ FB.out.2).mono ?_; rintro e w8 ⟨a', c', rfl, ht, hb⟩; clear c0 c1; have HT := Lib.hid ht; clear ht; replace FB := Lib.hid (FB.out.below hb); clear hb)))
          refine named (fun V => Hid (Blk V w8.heap.size [.int .i64 k, .slice a' (US X).length c'] 24) ∧ Hid (Below w8.heap.size w8 V)) ⟨Blk.new w8 [.int .i64 k, .slice a' (US X).length c'] _, (Below.refl _ _).alloc (Nat.le_refl _) _⟩ ?_
          rintro V ⟨H7, HBV⟩
          replace FB := Lib.hid (FB.out.below HBV.out)
          replace HT := Lib.hid (HT.out.below HBV.out)
          generalize hb7 : w8.heap.size = b7 at H7 ⊢
          clear hb7 HBV
          have d0 := H7.out.cell (i := 0) rfl
          have d1 := H7.out.cell (i := 1) rfl
          go_upto_region 20 with (first | (go_at_call 29; go_loud (refine (HCH.out _ _ _ HT.out).mono ?_; rintro e w9 ⟨⟨l2, r2, q2, rfl, hi, hk⟩, hb⟩; clear HCH d0 d1; have HI := Lib.hid hi; have HK := Lib.hid hk; clear hi hk; replace FB := Lib.hid (FB.out.below hb); replace HT := Lib.hid (HT.out.below hb); replace H7 := Lib.hid (H7.out.below hb); clear hb; have d0 := H7.out.cell (i := 0) rfl; have d1 := H7.out.cell (i := 1) rfl)))
          go_upto_region 22 with (first | (go_at_call 27; go_loud (refine (HL2.out _ _ _ _ _ _ HK.out HT.out HI.out).mono ?_; rintro e w10 ⟨⟨L2, rfl, hg⟩, hb⟩; clear HL2 d0 d1 HI HK HT H7; have tl : decide (L2 < X) = false := decide_eq_false (by omega); clear hg; replace FB := Lib.hid (FB.out.below hb); clear hb)))
          clear tl
          have c0 := FB.out.1.cell (i := 0) rfl
          have c1 := FB.out.1.cell (i := 1) rfl
          have tg : decide ((100 : Int) < X) = false := decide_eq_false (by have := HTP.out; omega)
          have hxr : 1 ≤ X ∧ X ≤ 100 := ⟨HW.out.1, HTP.out⟩
          obtain ⟨hx1, hx2⟩ := hxr
          replace HST := Lib.hid (HST.out (X + 1) (by omega) (by omega))
          replace HS2 := Lib.hid (HS2.out HTP.out)
          go_upto_region 25 with (first | (go_at_call 28; go_loud (refine (HST.out _ FB.out.2).mono ?_; rintro e w11 ⟨a2, c2, rfl, ht, hb⟩; clear HST c0 c1; have HT := Lib.hid ht; clear ht; replace FB := Lib.hid (FB.out.below hb); clear hb)))
          refine named (fun V => Hid (Blk V w11.heap.size [.int .i64 k, .slice a2 (US (X + 1)).length c2] 24) ∧ Hid (Below w11.heap.size w11 V)) ⟨Blk.new w11 [.int .i64 k, .slice a2 (US (X + 1)).length c2] _, (Below.refl _ _).alloc (Nat.le_refl _) _⟩ ?_
          rintro V2 ⟨H8, HBV⟩
          replace FB := Lib.hid (FB.out.below HBV.out)
          replace HT := Lib.hid (HT.out.below HBV.out)
          generalize hb8 : w11.heap.size = b8 at H8 ⊢
          clear hb8 HBV
          have d0 := H8.out.cell (i := 0) rfl
          have d1 := H8.out.cell (i := 1) rfl
          go_wp2_with (first | (go_at_call 25; go_loud (refine (HS2.out _ _ _ HT.out).mono ?_; rintro e w12 ⟨rfl, hb⟩; clear HS2 d0 d1; replace FB := Lib.hid (FB.out.below hb); clear hb)))
          go_ret
          exact ⟨by first | rfl | simp, FB.out.2⟩
end Go.Proofs.YthjeiaildabadaaGreat
