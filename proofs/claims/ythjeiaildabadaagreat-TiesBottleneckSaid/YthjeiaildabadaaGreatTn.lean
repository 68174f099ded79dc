/- Layer 4: the law TiesBottleneck where it says nothing. -/
import Derived.Test.YthjeiaildabadaaGreatF0
import Derived.Test.YthjeiaildabadaaGreatKd
namespace Go.Proofs.YthjeiaildabadaaGreat
set_option linter.unusedSimpArgs false
set_option linter.unusedVariables false
open Go Go.RowKit

set_option maxRecDepth 100000 in
set_option maxHeartbeats 16000000 in
theorem bottle_no (n x y z : Int) (a : Option Addr) (cap m : Nat) (lr : Option Addr) (q cq : Nat) (w : World) (F : Bool) (E : Int) (hno : ¬ (F = true ∧ q ≤ 100 ∧ E = 0 ∧ 0 ≤ x ∧ 0 ≤ y ∧ 0 ≤ z ∧ x < n ∧ y < n ∧ z < n))
    (HSA : Hid (∀ W, Calls Tryz.prog 10 #[] W fun e w' => e = .returned (.bool true) ∧ Below W.heap.size W w'))
    (HF : Hid (∀ W, Calls Tryz.prog 11 #[.agg #[.int .i64 n, .slice a m cap]] W fun e w' => e = .returned (.bool F) ∧ Below W.heap.size W w'))
    (HC : Hid (∀ W, Below w.heap.size w W → Calls Tryz.prog 24 #[.agg #[.int .i64 n, .slice a m cap]] W fun e w' => e = .returned (.int .i64 E) ∧ Below W.heap.size W w')) :
    Calls Tryz.prog 6 #[.agg #[.int .i64 n, .slice a m cap], .int .i64 x, .int .i64 y, .int .i64 z, .slice lr q cq] w fun e w' => e = .returned (.bool true) ∧ Below w.heap.size w w' := by
  have FB := Lib.hid (FA.new w [.int .i64 n, .slice a m cap])
  cases F
  · clear hno
    go_enter Tryz.func6, Tryz.ntmps6
    go_wp2_with (first | (go_at_call 10; refine (HSA.out _).mono ?_; rintro e w1 ⟨rfl, hb⟩; clear HSA; replace FB := Lib.hid (FB.out.below hb); clear hb; have c0 := FB.out.1.cell (i := 0) rfl; have c1 := FB.out.1.cell (i := 1) rfl) | (go_at_call 11; refine (HF.out _).mono ?_; rintro e w2 ⟨rfl, hb⟩; clear HF c0 c1; replace FB := Lib.hid (FB.out.below hb); clear hb; have c0 := FB.out.1.cell (i := 0) rfl; have c1 := FB.out.1.cell (i := 1) rfl) | (go_at_call 24; refine (HC.out _ FB.out.2).mono ?_; rintro e w3 ⟨rfl, hb⟩; clear HC c0 c1; replace FB := Lib.hid (FB.out.below hb); clear hb; have c0 := FB.out.1.cell (i := 0) rfl; have c1 := FB.out.1.cell (i := 1) rfl))
    go_ret
    exact ⟨rfl, FB.out.2⟩
  by_cases hq100 : 100 < q
  · have tq1000 : decide ((100 : Int) < (q : Int)) = true := decide_eq_true (by omega)
    have tq1001 : decide (100 < q) = true := decide_eq_true (by omega)
    clear hno hq100
    go_enter Tryz.func6, Tryz.ntmps6
    go_wp2_with (first | (go_at_call 10; refine (HSA.out _).mono ?_; rintro e w1 ⟨rfl, hb⟩; clear HSA; replace FB := Lib.hid (FB.out.below hb); clear hb; have c0 := FB.out.1.cell (i := 0) rfl; have c1 := FB.out.1.cell (i := 1) rfl) | (go_at_call 11; refine (HF.out _).mono ?_; rintro e w2 ⟨rfl, hb⟩; clear HF c0 c1; replace FB := Lib.hid (FB.out.below hb); clear hb; have c0 := FB.out.1.cell (i := 0) rfl; have c1 := FB.out.1.cell (i := 1) rfl) | (go_at_call 24; refine (HC.out _ FB.out.2).mono ?_; rintro e w3 ⟨rfl, hb⟩; clear HC c0 c1; replace FB := Lib.hid (FB.out.below hb); clear hb; have c0 := FB.out.1.cell (i := 0) rfl; have c1 := FB.out.1.cell (i := 1) rfl))
    go_ret
    exact ⟨rfl, FB.out.2⟩
  have tq1000 : decide ((100 : Int) < (q : Int)) = false := decide_eq_false (by omega)
  have tq1001 : decide (100 < q) = false := decide_eq_false (by omega)
  by_cases he0 : E = 0
  case neg =>
    have te0 : (E != 0) = true := by simpa using he0
    have ve0 : decide (E = 0) = false := decide_eq_false he0
    clear hno he0
    go_enter Tryz.func6, Tryz.ntmps6
    go_wp2_with (first | (go_at_call 10; refine (HSA.out _).mono ?_; rintro e w1 ⟨rfl, hb⟩; clear HSA; replace FB := Lib.hid (FB.out.below hb); clear hb; have c0 := FB.out.1.cell (i := 0) rfl; have c1 := FB.out.1.cell (i := 1) rfl) | (go_at_call 11; refine (HF.out _).mono ?_; rintro e w2 ⟨rfl, hb⟩; clear HF c0 c1; replace FB := Lib.hid (FB.out.below hb); clear hb; have c0 := FB.out.1.cell (i := 0) rfl; have c1 := FB.out.1.cell (i := 1) rfl) | (go_at_call 24; refine (HC.out _ FB.out.2).mono ?_; rintro e w3 ⟨rfl, hb⟩; clear HC c0 c1; replace FB := Lib.hid (FB.out.below hb); clear hb; have c0 := FB.out.1.cell (i := 0) rfl; have c1 := FB.out.1.cell (i := 1) rfl))
    go_ret
    exact ⟨rfl, FB.out.2⟩
  subst he0
  by_cases hx0 : x < 0
  · have tx00 : decide (x < 0) = true := decide_eq_true (by omega)
    clear hno hx0
    go_enter Tryz.func6, Tryz.ntmps6
    go_wp2_with (first | (go_at_call 10; refine (HSA.out _).mono ?_; rintro e w1 ⟨rfl, hb⟩; clear HSA; replace FB := Lib.hid (FB.out.below hb); clear hb; have c0 := FB.out.1.cell (i := 0) rfl; have c1 := FB.out.1.cell (i := 1) rfl) | (go_at_call 11; refine (HF.out _).mono ?_; rintro e w2 ⟨rfl, hb⟩; clear HF c0 c1; replace FB := Lib.hid (FB.out.below hb); clear hb; have c0 := FB.out.1.cell (i := 0) rfl; have c1 := FB.out.1.cell (i := 1) rfl) | (go_at_call 24; refine (HC.out _ FB.out.2).mono ?_; rintro e w3 ⟨rfl, hb⟩; clear HC c0 c1; replace FB := Lib.hid (FB.out.below hb); clear hb; have c0 := FB.out.1.cell (i := 0) rfl; have c1 := FB.out.1.cell (i := 1) rfl))
    go_ret
    exact ⟨rfl, FB.out.2⟩
  have tx00 : decide (x < 0) = false := decide_eq_false (by omega)
  by_cases hy0 : y < 0
  · have ty00 : decide (y < 0) = true := decide_eq_true (by omega)
    clear hno hy0
    go_enter Tryz.func6, Tryz.ntmps6
    go_wp2_with (first | (go_at_call 10; refine (HSA.out _).mono ?_; rintro e w1 ⟨rfl, hb⟩; clear HSA; replace FB := Lib.hid (FB.out.below hb); clear hb; have c0 := FB.out.1.cell (i := 0) rfl; have c1 := FB.out.1.cell (i := 1) rfl) | (go_at_call 11; refine (HF.out _).mono ?_; rintro e w2 ⟨rfl, hb⟩; clear HF c0 c1; replace FB := Lib.hid (FB.out.below hb); clear hb; have c0 := FB.out.1.cell (i := 0) rfl; have c1 := FB.out.1.cell (i := 1) rfl) | (go_at_call 24; refine (HC.out _ FB.out.2).mono ?_; rintro e w3 ⟨rfl, hb⟩; clear HC c0 c1; replace FB := Lib.hid (FB.out.below hb); clear hb; have c0 := FB.out.1.cell (i := 0) rfl; have c1 := FB.out.1.cell (i := 1) rfl))
    go_ret
    exact ⟨rfl, FB.out.2⟩
  have ty00 : decide (y < 0) = false := decide_eq_false (by omega)
  by_cases hz0 : z < 0
  · have tz00 : decide (z < 0) = true := decide_eq_true (by omega)
    clear hno hz0
    go_enter Tryz.func6, Tryz.ntmps6
    go_wp2_with (first | (go_at_call 10; refine (HSA.out _).mono ?_; rintro e w1 ⟨rfl, hb⟩; clear HSA; replace FB := Lib.hid (FB.out.below hb); clear hb; have c0 := FB.out.1.cell (i := 0) rfl; have c1 := FB.out.1.cell (i := 1) rfl) | (go_at_call 11; refine (HF.out _).mono ?_; rintro e w2 ⟨rfl, hb⟩; clear HF c0 c1; replace FB := Lib.hid (FB.out.below hb); clear hb; have c0 := FB.out.1.cell (i := 0) rfl; have c1 := FB.out.1.cell (i := 1) rfl) | (go_at_call 24; refine (HC.out _ FB.out.2).mono ?_; rintro e w3 ⟨rfl, hb⟩; clear HC c0 c1; replace FB := Lib.hid (FB.out.below hb); clear hb; have c0 := FB.out.1.cell (i := 0) rfl; have c1 := FB.out.1.cell (i := 1) rfl))
    go_ret
    exact ⟨rfl, FB.out.2⟩
  have tz00 : decide (z < 0) = false := decide_eq_false (by omega)
  by_cases hxn : n ≤ x
  · have txn0 : decide (n ≤ x) = true := decide_eq_true (by omega)
    clear hno hxn
    go_enter Tryz.func6, Tryz.ntmps6
    go_wp2_with (first | (go_at_call 10; refine (HSA.out _).mono ?_; rintro e w1 ⟨rfl, hb⟩; clear HSA; replace FB := Lib.hid (FB.out.below hb); clear hb; have c0 := FB.out.1.cell (i := 0) rfl; have c1 := FB.out.1.cell (i := 1) rfl) | (go_at_call 11; refine (HF.out _).mono ?_; rintro e w2 ⟨rfl, hb⟩; clear HF c0 c1; replace FB := Lib.hid (FB.out.below hb); clear hb; have c0 := FB.out.1.cell (i := 0) rfl; have c1 := FB.out.1.cell (i := 1) rfl) | (go_at_call 24; refine (HC.out _ FB.out.2).mono ?_; rintro e w3 ⟨rfl, hb⟩; clear HC c0 c1; replace FB := Lib.hid (FB.out.below hb); clear hb; have c0 := FB.out.1.cell (i := 0) rfl; have c1 := FB.out.1.cell (i := 1) rfl))
    go_ret
    exact ⟨rfl, FB.out.2⟩
  have txn0 : decide (n ≤ x) = false := decide_eq_false (by omega)
  by_cases hyn : n ≤ y
  · have tyn0 : decide (n ≤ y) = true := decide_eq_true (by omega)
    clear hno hyn
    go_enter Tryz.func6, Tryz.ntmps6
    go_wp2_with (first | (go_at_call 10; refine (HSA.out _).mono ?_; rintro e w1 ⟨rfl, hb⟩; clear HSA; replace FB := Lib.hid (FB.out.below hb); clear hb; have c0 := FB.out.1.cell (i := 0) rfl; have c1 := FB.out.1.cell (i := 1) rfl) | (go_at_call 11; refine (HF.out _).mono ?_; rintro e w2 ⟨rfl, hb⟩; clear HF c0 c1; replace FB := Lib.hid (FB.out.below hb); clear hb; have c0 := FB.out.1.cell (i := 0) rfl; have c1 := FB.out.1.cell (i := 1) rfl) | (go_at_call 24; refine (HC.out _ FB.out.2).mono ?_; rintro e w3 ⟨rfl, hb⟩; clear HC c0 c1; replace FB := Lib.hid (FB.out.below hb); clear hb; have c0 := FB.out.1.cell (i := 0) rfl; have c1 := FB.out.1.cell (i := 1) rfl))
    go_ret
    exact ⟨rfl, FB.out.2⟩
  have tyn0 : decide (n ≤ y) = false := decide_eq_false (by omega)
  by_cases hzn : n ≤ z
  · have tzn0 : decide (n ≤ z) = true := decide_eq_true (by omega)
    clear hno hzn
    go_enter Tryz.func6, Tryz.ntmps6
    go_wp2_with (first | (go_at_call 10; refine (HSA.out _).mono ?_; rintro e w1 ⟨rfl, hb⟩; clear HSA; replace FB := Lib.hid (FB.out.below hb); clear hb; have c0 := FB.out.1.cell (i := 0) rfl; have c1 := FB.out.1.cell (i := 1) rfl) | (go_at_call 11; refine (HF.out _).mono ?_; rintro e w2 ⟨rfl, hb⟩; clear HF c0 c1; replace FB := Lib.hid (FB.out.below hb); clear hb; have c0 := FB.out.1.cell (i := 0) rfl; have c1 := FB.out.1.cell (i := 1) rfl) | (go_at_call 24; refine (HC.out _ FB.out.2).mono ?_; rintro e w3 ⟨rfl, hb⟩; clear HC c0 c1; replace FB := Lib.hid (FB.out.below hb); clear hb; have c0 := FB.out.1.cell (i := 0) rfl; have c1 := FB.out.1.cell (i := 1) rfl))
    go_ret
    exact ⟨rfl, FB.out.2⟩
  have tzn0 : decide (n ≤ z) = false := decide_eq_false (by omega)
  exact absurd ⟨rfl, by omega, rfl, by omega, by omega, by omega, by omega, by omega, by omega⟩ hno
end Go.Proofs.YthjeiaildabadaaGreat
