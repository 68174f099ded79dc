/- Layer 4: the law TiesWitness where it says nothing. -/
import Derived.Test.YtjcafjffmiknmaaGreatCn
namespace Go.Proofs.YtjcafjffmiknmaaGreat
set_option linter.unusedSimpArgs false
set_option linter.unusedVariables false
open Go Go.RowKit

set_option maxRecDepth 100000 in
set_option maxHeartbeats 4000000 in
theorem tiesWitness_no (n : Int) (a r : Option Addr) (cap cq m q : Nat) (ts : List TieD) (x y : Int) (w : World) (hl : m = ts.length) (hl1 : m ≤ 9223372036854775807) (hs : TiesAt w a ts)
    (hno : fewB m = false ∨ 100 < q ∨ errA n ts x y ≠ 0)
    (hsane : ∀ W, Calls Tryz.prog 7 #[] W fun e w' => e = .returned (.bool true) ∧ Below W.heap.size W w') :
    Calls Tryz.prog 6 #[gV n a m cap, .int .i64 x, .int .i64 y, .slice r q cq] w fun e w' => e = .returned (.bool true) ∧ Below w.heap.size w w' := by
  have HSA := Lib.hid hsane
  have HC : Hid (∀ W, Below w.heap.size w W → Calls Tryz.prog 22 #[gV n a m cap] W fun e w' => e = .returned (.int .i64 (errG n ts)) ∧ Below W.heap.size W w') := fun W hb => by rw [hl]; exact tCheck_any n a cap ts W (by rw [← hl]; exact hl1) (hs.below hb)
  have HF : Hid (∀ W, Calls Tryz.prog 8 #[gV n a m cap] W fun e w' => e = .returned (.bool (fewB m)) ∧ Below W.heap.size W w') := fun W => few_any n a m cap W hl1
  have hcs : fewB m = false ∨ (fewB m = true ∧ 100 < q) ∨ (fewB m = true ∧ ¬ 100 < q ∧ errG n ts = 40) ∨ (fewB m = true ∧ ¬ 100 < q ∧ errG n ts = 0 ∧ x < 0) ∨ (fewB m = true ∧ ¬ 100 < q ∧ errG n ts = 0 ∧ ¬ x < 0 ∧ y < 0) ∨ (fewB m = true ∧ ¬ 100 < q ∧ errG n ts = 0 ∧ ¬ x < 0 ∧ ¬ y < 0 ∧ n ≤ x) ∨ (fewB m = true ∧ ¬ 100 < q ∧ errG n ts = 0 ∧ ¬ x < 0 ∧ ¬ y < 0 ∧ ¬ n ≤ x ∧ n ≤ y) := by
    cases h1 : fewB m with
    | false => exact .inl rfl
    | true =>
      by_cases hq : 100 < q
      · exact .inr (.inl ⟨by trivial, hq⟩)
      have h3 : errA n ts x y ≠ 0 := hno.elim (fun h => by rw [h1] at h; cases h) (fun h => h.elim (fun h => absurd h hq) id)
      unfold errA at h3
      unfold errG
      cases hok : okG n ts with
      | false => exact .inr (.inr (.inl ⟨rfl, hq, rfl⟩))
      | true =>
        rw [hok] at h3
        simp only [if_true] at h3 ⊢
        unfold ftB at h3
        simp only [ne_eq, ite_eq_left_iff, Bool.not_eq_true, Classical.not_imp, Bool.and_eq_false_imp, Bool.and_eq_true, decide_eq_true_eq, decide_eq_false_iff_not] at h3
        have h4 := h3.1
        by_cases g1 : x < 0
        · exact .inr (.inr (.inr (.inl ⟨by trivial, hq, by trivial, g1⟩)))
        by_cases g2 : y < 0
        · exact .inr (.inr (.inr (.inr (.inl ⟨by trivial, hq, by trivial, g1, g2⟩))))
        by_cases g3 : n ≤ x
        · exact .inr (.inr (.inr (.inr (.inr (.inl ⟨by trivial, hq, by trivial, g1, g2, g3⟩)))))
        by_cases g4 : n ≤ y
        · exact .inr (.inr (.inr (.inr (.inr (.inr ⟨by trivial, hq, by trivial, g1, g2, g3, g4⟩)))))
        exact absurd ⟨⟨by omega, by omega⟩, by omega, by omega⟩ h4
  have hd : (100 < q → decide ((100 : Int) < (q : Int)) = true ∧ decide (100 < q) = true) ∧ (¬ 100 < q → decide ((100 : Int) < (q : Int)) = false ∧ decide (100 < q) = false) := ⟨fun h => ⟨decide_eq_true (by omega), decide_eq_true h⟩, fun h => ⟨decide_eq_false (by omega), decide_eq_false h⟩⟩
  have HD := Lib.hid hd
  clear hd
  have HK := Lib.hid (Blk.new w [.int .i64 n, .slice a m cap] 24)
  have HB0 : Hid (Below w.heap.size w (w.alloc (.cells #[.int .i64 n, .slice a m cap] 24))) := (Below.refl _ _).alloc (Nat.le_refl _) _
  simp only [gV] at HC HF ⊢
  clear hsane hl hs hno
  generalize errG n ts = E at *
  generalize fewB m = F at *
  rcases hcs with rfl | ⟨rfl, hq⟩ | ⟨rfl, hq, rfl⟩ | ⟨rfl, hq, rfl, h3⟩ | ⟨rfl, hq, rfl, h3, h4⟩ | ⟨rfl, hq, rfl, h3, h4, h5⟩ | ⟨rfl, hq, rfl, h3, h4, h5, h6⟩
  · clear HD
    go_enter Tryz.func6, Tryz.ntmps6
    go_wp2_with (first | (go_at_call 7; refine (HSA.out _).mono ?_; rintro e w1 ⟨rfl, hb⟩; have HK1 := Lib.hid (HK.out.below hb); have HB1 := Lib.hid (HB0.out.trans (hb.mono HB0.out.size)); clear hb HSA HK HB0; have c0 := HK1.out.cell (i := 0) rfl; have c1 := HK1.out.cell (i := 1) rfl) | (go_at_call 8; refine (HF.out _).mono ?_; rintro e w2 ⟨rfl, hb⟩; have HK2 := Lib.hid (HK1.out.below hb); have HB2 := Lib.hid (HB1.out.trans (hb.mono HB1.out.size)); clear hb HF c0 c1; have c0 := HK2.out.cell (i := 0) rfl; have c1 := HK2.out.cell (i := 1) rfl) | (go_at_call 22; refine (HC.out _ HB2.out).mono ?_; rintro e w3 ⟨rfl, hb⟩; have HK3 := Lib.hid (HK2.out.below hb); have HB3 := Lib.hid (HB2.out.trans (hb.mono HB2.out.size)); clear hb HC c0 c1; have c0 := HK3.out.cell (i := 0) rfl; have c1 := HK3.out.cell (i := 1) rfl))
    go_ret
    exact ⟨rfl, by first | exact HB3.out | exact HB2.out⟩
  · obtain ⟨d1, d2⟩ := HD.out.1 hq; clear hq HD
    go_enter Tryz.func6, Tryz.ntmps6
    go_wp2_with (first | (go_at_call 7; refine (HSA.out _).mono ?_; rintro e w1 ⟨rfl, hb⟩; have HK1 := Lib.hid (HK.out.below hb); have HB1 := Lib.hid (HB0.out.trans (hb.mono HB0.out.size)); clear hb HSA HK HB0; have c0 := HK1.out.cell (i := 0) rfl; have c1 := HK1.out.cell (i := 1) rfl) | (go_at_call 8; refine (HF.out _).mono ?_; rintro e w2 ⟨rfl, hb⟩; have HK2 := Lib.hid (HK1.out.below hb); have HB2 := Lib.hid (HB1.out.trans (hb.mono HB1.out.size)); clear hb HF c0 c1; have c0 := HK2.out.cell (i := 0) rfl; have c1 := HK2.out.cell (i := 1) rfl) | (go_at_call 22; refine (HC.out _ HB2.out).mono ?_; rintro e w3 ⟨rfl, hb⟩; have HK3 := Lib.hid (HK2.out.below hb); have HB3 := Lib.hid (HB2.out.trans (hb.mono HB2.out.size)); clear hb HC c0 c1; have c0 := HK3.out.cell (i := 0) rfl; have c1 := HK3.out.cell (i := 1) rfl))
    go_ret
    exact ⟨rfl, by first | exact HB3.out | exact HB2.out⟩
  · obtain ⟨d1, d2⟩ := HD.out.2 hq; clear hq HD
    go_enter Tryz.func6, Tryz.ntmps6
    go_wp2_with (first | (go_at_call 7; refine (HSA.out _).mono ?_; rintro e w1 ⟨rfl, hb⟩; have HK1 := Lib.hid (HK.out.below hb); have HB1 := Lib.hid (HB0.out.trans (hb.mono HB0.out.size)); clear hb HSA HK HB0; have c0 := HK1.out.cell (i := 0) rfl; have c1 := HK1.out.cell (i := 1) rfl) | (go_at_call 8; refine (HF.out _).mono ?_; rintro e w2 ⟨rfl, hb⟩; have HK2 := Lib.hid (HK1.out.below hb); have HB2 := Lib.hid (HB1.out.trans (hb.mono HB1.out.size)); clear hb HF c0 c1; have c0 := HK2.out.cell (i := 0) rfl; have c1 := HK2.out.cell (i := 1) rfl) | (go_at_call 22; refine (HC.out _ HB2.out).mono ?_; rintro e w3 ⟨rfl, hb⟩; have HK3 := Lib.hid (HK2.out.below hb); have HB3 := Lib.hid (HB2.out.trans (hb.mono HB2.out.size)); clear hb HC c0 c1; have c0 := HK3.out.cell (i := 0) rfl; have c1 := HK3.out.cell (i := 1) rfl))
    go_ret
    exact ⟨rfl, by first | exact HB3.out | exact HB2.out⟩
  · obtain ⟨d1, d2⟩ := HD.out.2 hq; clear hq HD
    go_enter Tryz.func6, Tryz.ntmps6
    go_wp2_with (first | (go_at_call 7; refine (HSA.out _).mono ?_; rintro e w1 ⟨rfl, hb⟩; have HK1 := Lib.hid (HK.out.below hb); have HB1 := Lib.hid (HB0.out.trans (hb.mono HB0.out.size)); clear hb HSA HK HB0; have c0 := HK1.out.cell (i := 0) rfl; have c1 := HK1.out.cell (i := 1) rfl) | (go_at_call 8; refine (HF.out _).mono ?_; rintro e w2 ⟨rfl, hb⟩; have HK2 := Lib.hid (HK1.out.below hb); have HB2 := Lib.hid (HB1.out.trans (hb.mono HB1.out.size)); clear hb HF c0 c1; have c0 := HK2.out.cell (i := 0) rfl; have c1 := HK2.out.cell (i := 1) rfl) | (go_at_call 22; refine (HC.out _ HB2.out).mono ?_; rintro e w3 ⟨rfl, hb⟩; have HK3 := Lib.hid (HK2.out.below hb); have HB3 := Lib.hid (HB2.out.trans (hb.mono HB2.out.size)); clear hb HC c0 c1; have c0 := HK3.out.cell (i := 0) rfl; have c1 := HK3.out.cell (i := 1) rfl))
    go_ret
    exact ⟨rfl, by first | exact HB3.out | exact HB2.out⟩
  · obtain ⟨d1, d2⟩ := HD.out.2 hq; clear hq HD
    go_enter Tryz.func6, Tryz.ntmps6
    go_wp2_with (first | (go_at_call 7; refine (HSA.out _).mono ?_; rintro e w1 ⟨rfl, hb⟩; have HK1 := Lib.hid (HK.out.below hb); have HB1 := Lib.hid (HB0.out.trans (hb.mono HB0.out.size)); clear hb HSA HK HB0; have c0 := HK1.out.cell (i := 0) rfl; have c1 := HK1.out.cell (i := 1) rfl) | (go_at_call 8; refine (HF.out _).mono ?_; rintro e w2 ⟨rfl, hb⟩; have HK2 := Lib.hid (HK1.out.below hb); have HB2 := Lib.hid (HB1.out.trans (hb.mono HB1.out.size)); clear hb HF c0 c1; have c0 := HK2.out.cell (i := 0) rfl; have c1 := HK2.out.cell (i := 1) rfl) | (go_at_call 22; refine (HC.out _ HB2.out).mono ?_; rintro e w3 ⟨rfl, hb⟩; have HK3 := Lib.hid (HK2.out.below hb); have HB3 := Lib.hid (HB2.out.trans (hb.mono HB2.out.size)); clear hb HC c0 c1; have c0 := HK3.out.cell (i := 0) rfl; have c1 := HK3.out.cell (i := 1) rfl))
    go_ret
    exact ⟨rfl, by first | exact HB3.out | exact HB2.out⟩
  · obtain ⟨d1, d2⟩ := HD.out.2 hq; clear hq HD
    go_enter Tryz.func6, Tryz.ntmps6
    go_wp2_with (first | (go_at_call 7; refine (HSA.out _).mono ?_; rintro e w1 ⟨rfl, hb⟩; have HK1 := Lib.hid (HK.out.below hb); have HB1 := Lib.hid (HB0.out.trans (hb.mono HB0.out.size)); clear hb HSA HK HB0; have c0 := HK1.out.cell (i := 0) rfl; have c1 := HK1.out.cell (i := 1) rfl) | (go_at_call 8; refine (HF.out _).mono ?_; rintro e w2 ⟨rfl, hb⟩; have HK2 := Lib.hid (HK1.out.below hb); have HB2 := Lib.hid (HB1.out.trans (hb.mono HB1.out.size)); clear hb HF c0 c1; have c0 := HK2.out.cell (i := 0) rfl; have c1 := HK2.out.cell (i := 1) rfl) | (go_at_call 22; refine (HC.out _ HB2.out).mono ?_; rintro e w3 ⟨rfl, hb⟩; have HK3 := Lib.hid (HK2.out.below hb); have HB3 := Lib.hid (HB2.out.trans (hb.mono HB2.out.size)); clear hb HC c0 c1; have c0 := HK3.out.cell (i := 0) rfl; have c1 := HK3.out.cell (i := 1) rfl))
    go_ret
    exact ⟨rfl, by first | exact HB3.out | exact HB2.out⟩
  · obtain ⟨d1, d2⟩ := HD.out.2 hq; clear hq HD
    go_enter Tryz.func6, Tryz.ntmps6
    go_wp2_with (first | (go_at_call 7; refine (HSA.out _).mono ?_; rintro e w1 ⟨rfl, hb⟩; have HK1 := Lib.hid (HK.out.below hb); have HB1 := Lib.hid (HB0.out.trans (hb.mono HB0.out.size)); clear hb HSA HK HB0; have c0 := HK1.out.cell (i := 0) rfl; have c1 := HK1.out.cell (i := 1) rfl) | (go_at_call 8; refine (HF.out _).mono ?_; rintro e w2 ⟨rfl, hb⟩; have HK2 := Lib.hid (HK1.out.below hb); have HB2 := Lib.hid (HB1.out.trans (hb.mono HB1.out.size)); clear hb HF c0 c1; have c0 := HK2.out.cell (i := 0) rfl; have c1 := HK2.out.cell (i := 1) rfl) | (go_at_call 22; refine (HC.out _ HB2.out).mono ?_; rintro e w3 ⟨rfl, hb⟩; have HK3 := Lib.hid (HK2.out.below hb); have HB3 := Lib.hid (HB2.out.trans (hb.mono HB2.out.size)); clear hb HC c0 c1; have c0 := HK3.out.cell (i := 0) rfl; have c1 := HK3.out.cell (i := 1) rfl))
    go_ret
    exact ⟨rfl, by first | exact HB3.out | exact HB2.out⟩
end Go.Proofs.YtjcafjffmiknmaaGreat
