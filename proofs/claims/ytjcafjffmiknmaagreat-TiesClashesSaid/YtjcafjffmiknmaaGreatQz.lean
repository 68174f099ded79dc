/- Layer 4: the law TiesFollows where it says nothing. -/
import Derived.Test.YtjcafjffmiknmaaGreatKc
import Derived.Test.YtjcafjffmiknmaaGreatKd
namespace Go.Proofs.YtjcafjffmiknmaaGreat
set_option linter.unusedSimpArgs false
set_option linter.unusedVariables false
open Go Go.RowKit

set_option maxRecDepth 100000 in
set_option maxHeartbeats 4000000 in
theorem tiesFollows_no (n : Int) (a r : Option Addr) (cap cq m q : Nat) (ts : List TieD) (x y : Int) (w : World) (hl : m = ts.length) (hl1 : m ≤ 9223372036854775807) (hs : TiesAt w a ts)
    (hno : fewB m = false ∨ errA n ts x y ≠ 0)
    (hsane : ∀ W, Calls Tryz.prog 7 #[] W fun e w' => e = .returned (.bool true) ∧ Below W.heap.size W w') :
    Calls Tryz.prog 5 #[gV n a m cap, .slice r q cq, .int .i64 x, .int .i64 y] w fun e w' => e = .returned (.bool true) ∧ Below w.heap.size w w' := by
  have HSA := Lib.hid hsane
  have HC : Hid (∀ W, Below w.heap.size w W → Calls Tryz.prog 22 #[gV n a m cap] W fun e w' => e = .returned (.int .i64 (errG n ts)) ∧ Below W.heap.size W w') := fun W hb => by rw [hl]; exact tCheck_any n a cap ts W (by rw [← hl]; exact hl1) (hs.below hb)
  have HF : Hid (∀ W, Calls Tryz.prog 8 #[gV n a m cap] W fun e w' => e = .returned (.bool (fewB m)) ∧ Below W.heap.size W w') := fun W => few_any n a m cap W hl1
  have hcs : fewB m = false ∨ (fewB m = true ∧ errG n ts = 40) ∨ (fewB m = true ∧ errG n ts = 0 ∧ x < 0) ∨ (fewB m = true ∧ errG n ts = 0 ∧ ¬ x < 0 ∧ y < 0) ∨ (fewB m = true ∧ errG n ts = 0 ∧ ¬ x < 0 ∧ ¬ y < 0 ∧ n ≤ x) ∨ (fewB m = true ∧ errG n ts = 0 ∧ ¬ x < 0 ∧ ¬ y < 0 ∧ ¬ n ≤ x ∧ n ≤ y) := by
    cases h1 : fewB m with
    | false => exact .inl rfl
    | true =>
      have h3 : errA n ts x y ≠ 0 := hno.elim (fun h => by rw [h1] at h; cases h) id
      unfold errA at h3
      unfold errG
      cases hok : okG n ts with
      | false => exact .inr (.inl ⟨rfl, rfl⟩)
      | true =>
        rw [hok] at h3
        simp only [if_true] at h3 ⊢
        unfold ftB at h3
        simp only [ne_eq, ite_eq_left_iff, Bool.not_eq_true, Classical.not_imp, Bool.and_eq_false_imp, Bool.and_eq_true, decide_eq_true_eq, decide_eq_false_iff_not] at h3
        have h4 := h3.1
        by_cases g1 : x < 0
        · exact .inr (.inr (.inl ⟨by trivial, by trivial, g1⟩))
        by_cases g2 : y < 0
        · exact .inr (.inr (.inr (.inl ⟨by trivial, by trivial, g1, g2⟩)))
        by_cases g3 : n ≤ x
        · exact .inr (.inr (.inr (.inr (.inl ⟨by trivial, by trivial, g1, g2, g3⟩))))
        by_cases g4 : n ≤ y
        · exact .inr (.inr (.inr (.inr (.inr ⟨by trivial, by trivial, g1, g2, g3, g4⟩))))
        exact absurd ⟨⟨by omega, by omega⟩, by omega, by omega⟩ h4
  have HK := Lib.hid (Blk.new w [.int .i64 n, .slice a m cap] 24)
  have HB0 : Hid (Below w.heap.size w (w.alloc (.cells #[.int .i64 n, .slice a m cap] 24))) := (Below.refl _ _).alloc (Nat.le_refl _) _
  simp only [gV] at HC HF ⊢
  clear hsane hl hs hno
  generalize errG n ts = E at *
  generalize fewB m = F at *
  rcases hcs with rfl | ⟨rfl, rfl⟩ | ⟨rfl, rfl, h3⟩ | ⟨rfl, rfl, h3, h4⟩ | ⟨rfl, rfl, h3, h4, h5⟩ | ⟨rfl, rfl, h3, h4, h5, h6⟩
  all_goals (
    go_enter Tryz.func5, Tryz.ntmps5
    go_wp2_with (first | (go_at_call 7; refine (HSA.out _).mono ?_; rintro e w1 ⟨rfl, hb⟩; have HK1 := Lib.hid (HK.out.below hb); have HB1 := Lib.hid (HB0.out.trans (hb.mono HB0.out.size)); clear hb HSA HK HB0; have c0 := HK1.out.cell (i := 0) rfl; have c1 := HK1.out.cell (i := 1) rfl) | (go_at_call 8; refine (HF.out _).mono ?_; rintro e w2 ⟨rfl, hb⟩; have HK2 := Lib.hid (HK1.out.below hb); have HB2 := Lib.hid (HB1.out.trans (hb.mono HB1.out.size)); clear hb HF c0 c1; have c0 := HK2.out.cell (i := 0) rfl; have c1 := HK2.out.cell (i := 1) rfl) | (go_at_call 22; refine (HC.out _ HB2.out).mono ?_; rintro e w3 ⟨rfl, hb⟩; have HK3 := Lib.hid (HK2.out.below hb); have HB3 := Lib.hid (HB2.out.trans (hb.mono HB2.out.size)); clear hb HC c0 c1; have c0 := HK3.out.cell (i := 0) rfl; have c1 := HK3.out.cell (i := 1) rfl))
    go_ret
    exact ⟨rfl, by first | exact HB3.out | exact HB2.out⟩)
end Go.Proofs.YtjcafjffmiknmaaGreat
