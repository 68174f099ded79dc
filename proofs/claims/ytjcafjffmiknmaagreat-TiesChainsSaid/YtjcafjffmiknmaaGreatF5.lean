/- Layer 4: the law TiesChains. -/
import Derived.Test.YtjcafjffmiknmaaGreatF4
namespace Go.Proofs.YtjcafjffmiknmaaGreat
set_option linter.unusedSimpArgs false
set_option linter.unusedVariables false
open Go Go.RowKit

set_option maxRecDepth 100000 in
set_option maxHeartbeats 8000000 in
theorem tiesChains_no (k p z : Int) (a r : Option Addr) (cap cq m q : Nat) (w : World) (F : Bool) (hcase : F = false ∨ (F = true ∧ 100 < q))
    (HSA : Hid (∀ W, Calls Tryz.prog 7 #[] W fun e w' => e = .returned (.bool true) ∧ Below W.heap.size W w'))
    (HF : Hid (∀ W, Calls Tryz.prog 8 #[.agg #[.int .i64 k, .slice a m cap]] W fun e w' => e = .returned (.bool F) ∧ Below W.heap.size W w')) :
    Calls Tryz.prog 3 #[.agg #[.int .i64 k, .slice a m cap], .int .i64 p, .int .i64 z, .slice r q cq] w fun e w' => e = .returned (.bool true) ∧ Below w.heap.size w w' := by
  have FB := Lib.hid (FA.new w [.int .i64 k, .slice a m cap])
  rcases hcase with rfl | ⟨rfl, hq⟩
  · go_enter Tryz.func3, Tryz.ntmps3
    go_wp2_with (first | (go_at_call 7; refine (HSA.out _).mono ?_; rintro e w1 ⟨rfl, hb⟩; clear HSA; replace FB := Lib.hid (FB.out.below hb); clear hb; have c0 := FB.out.1.cell (i := 0) rfl; have c1 := FB.out.1.cell (i := 1) rfl) | (go_at_call 8; refine (HF.out _).mono ?_; rintro e w2 ⟨rfl, hb⟩; clear HF c0 c1; replace FB := Lib.hid (FB.out.below hb); clear hb; have c0 := FB.out.1.cell (i := 0) rfl; have c1 := FB.out.1.cell (i := 1) rfl))
    go_ret
    exact ⟨rfl, FB.out.2⟩
  · have t1 : decide ((100 : Int) < (q : Int)) = true := decide_eq_true (by omega)
    have t2 : decide (100 < q) = true := decide_eq_true hq
    clear hq
    go_enter Tryz.func3, Tryz.ntmps3
    go_wp2_with (first | (go_at_call 7; refine (HSA.out _).mono ?_; rintro e w1 ⟨rfl, hb⟩; clear HSA; replace FB := Lib.hid (FB.out.below hb); clear hb; have c0 := FB.out.1.cell (i := 0) rfl; have c1 := FB.out.1.cell (i := 1) rfl) | (go_at_call 8; refine (HF.out _).mono ?_; rintro e w2 ⟨rfl, hb⟩; clear HF c0 c1; replace FB := Lib.hid (FB.out.below hb); clear hb; have c0 := FB.out.1.cell (i := 0) rfl; have c1 := FB.out.1.cell (i := 1) rfl))
    go_ret
    exact ⟨rfl, FB.out.2⟩
set_option maxRecDepth 100000 in
set_option maxHeartbeats 8000000 in
theorem tiesChains_bad (k p z : Int) (a r : Option Addr) (cap cq m q : Nat) (w : World) (E1 E2 EA : Int) (hq : ¬ 100 < q) (he : EA ≠ 0)
    (HSA : Hid (∀ W, Calls Tryz.prog 7 #[] W fun e w' => e = .returned (.bool true) ∧ Below W.heap.size W w'))
    (HF : Hid (∀ W, Calls Tryz.prog 8 #[.agg #[.int .i64 k, .slice a m cap]] W fun e w' => e = .returned (.bool true) ∧ Below W.heap.size W w'))
    (HK1 : Hid (∀ W, Below w.heap.size w W → Calls Tryz.prog 9 #[.agg #[.int .i64 k, .slice a m cap], .int .i64 p, .int .i64 z, .slice r q cq] W fun e w' => e = .returned (.int .i64 E1) ∧ Below W.heap.size W w'))
    (HK2 : Hid (∀ W, Below w.heap.size w W → Calls Tryz.prog 10 #[.agg #[.int .i64 k, .slice a m cap], .int .i64 p, .int .i64 z, .slice r q cq] W fun e w' => e = .returned (.int .i64 E1) ∧ Below W.heap.size W w'))
    (HK3 : Hid (∀ W, Below w.heap.size w W → Calls Tryz.prog 11 #[.agg #[.int .i64 k, .slice a m cap], .int .i64 p, .int .i64 z, .slice r q cq] W fun e w' => e = .returned (.int .i64 E2) ∧ Below W.heap.size W w'))
    (HK4 : Hid (∀ W, Below w.heap.size w W → Calls Tryz.prog 12 #[.agg #[.int .i64 k, .slice a m cap], .int .i64 p, .int .i64 z, .slice r q cq] W fun e w' => e = .returned (.int .i64 E2) ∧ Below W.heap.size W w'))
    (HCH : Hid (∀ W, Below w.heap.size w W → Calls Tryz.prog 13 #[.agg #[.int .i64 k, .slice a m cap], .int .i64 p, .int .i64 z] W fun e w' => e = .returned (.tuple #[.slice none 0 0, .bool false, .int .i64 EA]) ∧ Below W.heap.size W w'))
    (HWY : Hid (∀ W, Below w.heap.size w W → Calls Tryz.prog 14 #[.agg #[.int .i64 k, .slice a m cap], .int .i64 p, .int .i64 z] W fun e w' => e = .returned (.tuple #[.slice none 0 0, .bool false, .int .i64 EA]) ∧ Below W.heap.size W w'))
    (HRS : Hid (∀ W, Below w.heap.size w W → Calls Tryz.prog 15 #[.agg #[.int .i64 k, .slice a m cap], .int .i64 p, .int .i64 z] W fun e w' => (∃ b, e = .returned (.tuple #[.bool b, .int .i64 EA])) ∧ Below W.heap.size W w')) :
    Calls Tryz.prog 3 #[.agg #[.int .i64 k, .slice a m cap], .int .i64 p, .int .i64 z, .slice r q cq] w fun e w' => e = .returned (.bool true) ∧ Below w.heap.size w w' := by
  have FB := Lib.hid (FA.new w [.int .i64 k, .slice a m cap])
  · have t1 : decide ((100 : Int) < (q : Int)) = false := decide_eq_false (by omega)
    have t2 : decide (100 < q) = false := decide_eq_false hq
    have t3 : (EA != 0) = true := by simpa using he
    clear hq he
    go_enter Tryz.func3, Tryz.ntmps3
    go_upto_region 5 with (first | (go_at_call 7; refine (HSA.out _).mono ?_; rintro e w1 ⟨rfl, hb⟩; clear HSA; replace FB := Lib.hid (FB.out.below hb); clear hb; have c0 := FB.out.1.cell (i := 0) rfl; have c1 := FB.out.1.cell (i := 1) rfl) | (go_at_call 8; refine (HF.out _).mono ?_; rintro e w2 ⟨rfl, hb⟩; clear HF c0 c1; replace FB := Lib.hid (FB.out.below hb); clear hb; have c0 := FB.out.1.cell (i := 0) rfl; have c1 := FB.out.1.cell (i := 1) rfl))
    clear t1 t2 c0 c1
    have HOWD : Hid (∀ w1, (clOld w2.drew).C w1 → Below w2.heap.size w2 w1) := fun w1 hC => old_end (Below.refl _ _) hC (Nat.le_refl _)
    refine wp_region_old 24 169 (by kernel_rfl) (by kernel_rfl) (by rfl) ?_
    simp only [List.take_succ_cons, List.take_zero, List.drop_succ_cons, List.drop_zero, List.drop_nil]
    refine chain_load (.agg #[.int .i64 k, .slice a m cap]) _ _ _ (fun _ _ => Below.refl _ _) rfl rfl (by kernel_rfl) (by kernel_rfl) rfl (fun w1 hC => load_g ((FB.out.1.below (HOWD.out w1 hC)).cell rfl) ((FB.out.1.below (HOWD.out w1 hC)).cell rfl)) ?_
    refine chain_move (.int .i64 p) _ (fun _ _ => Below.refl _ _) rfl rfl (by kernel_rfl) (by kernel_rfl) rfl ?_
    refine chain_move (.int .i64 z) _ (fun _ _ => Below.refl _ _) rfl rfl (by kernel_rfl) (by kernel_rfl) rfl ?_
    refine chain_move (.slice r q cq) _ (fun _ _ => Below.refl _ _) rfl rfl (by kernel_rfl) (by kernel_rfl) rfl ?_
    refine chain_call (.int .i64 E1) 9 [.agg #[.int .i64 k, .slice a m cap], .int .i64 p, .int .i64 z, .slice r q cq] _ _ (enters_of Tryz.func9 (by kernel_rfl) rfl) rfl rfl rfl (by kernel_rfl) (by kernel_rfl) rfl rfl (fun w1 hC => HK1.out w1 (FB.out.2.trans ((HOWD.out w1 hC).mono FB.out.2.size))) ?_
    refine chain_load (.agg #[.int .i64 k, .slice a m cap]) _ _ _ (fun _ _ => Below.refl _ _) rfl rfl (by kernel_rfl) (by kernel_rfl) rfl (fun w1 hC => load_g ((FB.out.1.below (HOWD.out w1 hC)).cell rfl) ((FB.out.1.below (HOWD.out w1 hC)).cell rfl)) ?_
    refine chain_move (.int .i64 p) _ (fun _ _ => Below.refl _ _) rfl rfl (by kernel_rfl) (by kernel_rfl) rfl ?_
    refine chain_move (.int .i64 z) _ (fun _ _ => Below.refl _ _) rfl rfl (by kernel_rfl) (by kernel_rfl) rfl ?_
    refine chain_move (.slice r q cq) _ (fun _ _ => Below.refl _ _) rfl rfl (by kernel_rfl) (by kernel_rfl) rfl ?_
    refine chain_call (.int .i64 E1) 10 [.agg #[.int .i64 k, .slice a m cap], .int .i64 p, .int .i64 z, .slice r q cq] _ _ (enters_of Tryz.func10 (by kernel_rfl) rfl) rfl rfl rfl (by kernel_rfl) (by kernel_rfl) rfl rfl (fun w1 hC => HK2.out w1 (FB.out.2.trans ((HOWD.out w1 hC).mono FB.out.2.size))) ?_
    refine chain_bin (.bool false) _ _ _ _ _ (.int .i64 E1) (.int .i64 E1) (fun _ _ => Below.refl _ _) rfl rfl (by kernel_rfl) (by kernel_rfl) rfl rfl (fun w1 => neq_i64 _ _ _ _ _ _ (by simp) w1) ?_
    refine chain_move (.bool false) _ (fun _ _ => Below.refl _ _) rfl rfl (by kernel_rfl) (by kernel_rfl) rfl ?_
    refine chain_load (.agg #[.int .i64 k, .slice a m cap]) _ _ _ (fun _ _ => Below.refl _ _) rfl rfl (by kernel_rfl) (by kernel_rfl) rfl (fun w1 hC => load_g ((FB.out.1.below (HOWD.out w1 hC)).cell rfl) ((FB.out.1.below (HOWD.out w1 hC)).cell rfl)) ?_
    refine chain_move (.int .i64 p) _ (fun _ _ => Below.refl _ _) rfl rfl (by kernel_rfl) (by kernel_rfl) rfl ?_
    refine chain_move (.int .i64 z) _ (fun _ _ => Below.refl _ _) rfl rfl (by kernel_rfl) (by kernel_rfl) rfl ?_
    refine chain_move (.slice r q cq) _ (fun _ _ => Below.refl _ _) rfl rfl (by kernel_rfl) (by kernel_rfl) rfl ?_
    refine chain_call (.int .i64 E2) 11 [.agg #[.int .i64 k, .slice a m cap], .int .i64 p, .int .i64 z, .slice r q cq] _ _ (enters_of Tryz.func11 (by kernel_rfl) rfl) rfl rfl rfl (by kernel_rfl) (by kernel_rfl) rfl rfl (fun w1 hC => HK3.out w1 (FB.out.2.trans ((HOWD.out w1 hC).mono FB.out.2.size))) ?_
    refine chain_load (.agg #[.int .i64 k, .slice a m cap]) _ _ _ (fun _ _ => Below.refl _ _) rfl rfl (by kernel_rfl) (by kernel_rfl) rfl (fun w1 hC => load_g ((FB.out.1.below (HOWD.out w1 hC)).cell rfl) ((FB.out.1.below (HOWD.out w1 hC)).cell rfl)) ?_
    refine chain_move (.int .i64 p) _ (fun _ _ => Below.refl _ _) rfl rfl (by kernel_rfl) (by kernel_rfl) rfl ?_
    refine chain_move (.int .i64 z) _ (fun _ _ => Below.refl _ _) rfl rfl (by kernel_rfl) (by kernel_rfl) rfl ?_
    refine chain_move (.slice r q cq) _ (fun _ _ => Below.refl _ _) rfl rfl (by kernel_rfl) (by kernel_rfl) rfl ?_
    refine chain_call (.int .i64 E2) 12 [.agg #[.int .i64 k, .slice a m cap], .int .i64 p, .int .i64 z, .slice r q cq] _ _ (enters_of Tryz.func12 (by kernel_rfl) rfl) rfl rfl rfl (by kernel_rfl) (by kernel_rfl) rfl rfl (fun w1 hC => HK4.out w1 (FB.out.2.trans ((HOWD.out w1 hC).mono FB.out.2.size))) ?_
    refine chain_bin (.bool false) _ _ _ _ _ (.int .i64 E2) (.int .i64 E2) (fun _ _ => Below.refl _ _) rfl rfl (by kernel_rfl) (by kernel_rfl) rfl rfl (fun w1 => neq_i64 _ _ _ _ _ _ (by simp) w1) ?_
    refine chain_pick (.bool false) _ _ _ false (fun _ _ => Below.refl _ _) rfl rfl (by kernel_rfl) (by kernel_rfl) rfl rfl ?_
    refine chain_end (by rfl) ?_
    intro xs w9 hCw9 hrew9
    simp only [layE, List.foldr_cons, List.foldr_nil, List.set_cons_succ, List.set_cons_zero]
    replace FB := Lib.hid (FB.out.below (HOWD.out w9 hCw9))
    clear hCw9 hrew9 HOWD HK1 HK2 HK3 HK4
    have c0 := FB.out.1.cell (i := 0) rfl
    have c1 := FB.out.1.cell (i := 1) rfl
    go_wp2_with (first | (go_at_call 13; go_loud (refine (HCH.out _ FB.out.2).mono ?_; rintro e w3 ⟨rfl, hb⟩; clear HCH c0 c1; replace FB := Lib.hid (FB.out.below hb); clear hb; have c0 := FB.out.1.cell (i := 0) rfl; have c1 := FB.out.1.cell (i := 1) rfl)) | (go_at_call 14; go_loud (refine (HWY.out _ FB.out.2).mono ?_; rintro e w4 ⟨rfl, hb⟩; clear HWY c0 c1; replace FB := Lib.hid (FB.out.below hb); clear hb; have c0 := FB.out.1.cell (i := 0) rfl; have c1 := FB.out.1.cell (i := 1) rfl)) | (go_at_call 15; go_loud (refine (HRS.out _ FB.out.2).mono ?_; rintro e w5 ⟨⟨b, rfl⟩, hb⟩; clear HRS c0 c1; replace FB := Lib.hid (FB.out.below hb); clear hb)))
    go_ret
    exact ⟨rfl, FB.out.2⟩
/-- What Chain or Why tells, beside what Length tells. -/
def CwA (R : Int → Prop) (p : List Int → Prop) (u : Value) (v : Bool) (w : World) : Prop := (v = false ∧ u = .slice none 0 0 ∧ ∀ r, R r → r = -1) ∨ (v = true ∧ ∃ (l : List Int) (r : Option Addr) (k : Nat), u = .slice r l.length k ∧ (∀ r, R r → r = l.length) ∧ l.length ≤ 1000 ∧ p l ∧ IntsAt w r l)
theorem CwA.below {R : Int → Prop} {p : List Int → Prop} {u : Value} {v : Bool} {w w' : World} (h : CwA R p u v w) (hb : Below w.heap.size w w') : CwA R p u v w' := by
  rcases h with h | ⟨h1, l, r, k, h2, h3, h4, h5, h6⟩
  · exact .inl h
  · exact .inr ⟨h1, l, r, k, h2, h3, h4, h5, h6.below hb⟩
set_option maxRecDepth 100000 in
set_option maxHeartbeats 8000000 in
theorem tiesChains_ok (k p z : Int) (a r : Option Addr) (cap cq m q : Nat) (w : World) (E1 E2 : Int) (R1 R2 : Int → Prop) (p1 p2 : List Int → Prop) (hq : ¬ 100 < q)
    (HSA : Hid (∀ W, Calls Tryz.prog 7 #[] W fun e w' => e = .returned (.bool true) ∧ Below W.heap.size W w'))
    (HF : Hid (∀ W, Calls Tryz.prog 8 #[.agg #[.int .i64 k, .slice a m cap]] W fun e w' => e = .returned (.bool true) ∧ Below W.heap.size W w'))
    (HK1 : Hid (∀ W, Below w.heap.size w W → Calls Tryz.prog 9 #[.agg #[.int .i64 k, .slice a m cap], .int .i64 p, .int .i64 z, .slice r q cq] W fun e w' => e = .returned (.int .i64 E1) ∧ Below W.heap.size W w'))
    (HK2 : Hid (∀ W, Below w.heap.size w W → Calls Tryz.prog 10 #[.agg #[.int .i64 k, .slice a m cap], .int .i64 p, .int .i64 z, .slice r q cq] W fun e w' => e = .returned (.int .i64 E1) ∧ Below W.heap.size W w'))
    (HK3 : Hid (∀ W, Below w.heap.size w W → Calls Tryz.prog 11 #[.agg #[.int .i64 k, .slice a m cap], .int .i64 p, .int .i64 z, .slice r q cq] W fun e w' => e = .returned (.int .i64 E2) ∧ Below W.heap.size W w'))
    (HK4 : Hid (∀ W, Below w.heap.size w W → Calls Tryz.prog 12 #[.agg #[.int .i64 k, .slice a m cap], .int .i64 p, .int .i64 z, .slice r q cq] W fun e w' => e = .returned (.int .i64 E2) ∧ Below W.heap.size W w'))
    (HCH : Hid (∀ W, Below w.heap.size w W → Calls Tryz.prog 13 #[.agg #[.int .i64 k, .slice a m cap], .int .i64 p, .int .i64 z] W fun e w' => ∃ u v, e = .returned (.tuple #[u, .bool v, .int .i64 0]) ∧ CwA R1 p1 u v w' ∧ Below W.heap.size W w'))
    (HWY : Hid (∀ W, Below w.heap.size w W → Calls Tryz.prog 14 #[.agg #[.int .i64 k, .slice a m cap], .int .i64 p, .int .i64 z] W fun e w' => ∃ u v, e = .returned (.tuple #[u, .bool v, .int .i64 0]) ∧ CwA R2 p2 u v w' ∧ Below W.heap.size W w'))
    (HRS : Hid (∀ W, Below w.heap.size w W → Calls Tryz.prog 15 #[.agg #[.int .i64 k, .slice a m cap], .int .i64 p, .int .i64 z] W fun e w' => (∃ b, e = .returned (.tuple #[.bool b, .int .i64 0])) ∧ Below W.heap.size W w'))
    (HL1 : Hid (∀ W, Below w.heap.size w W → Calls Tryz.prog 16 #[.agg #[.int .i64 k, .slice a m cap], .int .i64 p, .int .i64 z, .int .i64 0] W fun e w' => (∃ r, e = .returned (.int .i64 r) ∧ R1 r) ∧ Below W.heap.size W w'))
    (HL2 : Hid (∀ W, Below w.heap.size w W → Calls Tryz.prog 16 #[.agg #[.int .i64 k, .slice a m cap], .int .i64 p, .int .i64 z, .int .i64 1] W fun e w' => (∃ r, e = .returned (.int .i64 r) ∧ R2 r) ∧ Below W.heap.size W w'))
    (HC1 : Hid (∀ W (l : List Int) rr c, l.length ≤ 1000 → p1 l → Below w.heap.size w W → IntsAt W rr l → Calls Tryz.prog 10 #[.agg #[.int .i64 k, .slice a m cap], .int .i64 p, .int .i64 z, .slice rr l.length c] W fun e w' => e = .returned (.int .i64 0) ∧ Below W.heap.size W w'))
    (HC2 : Hid (∀ W (l : List Int) rr c, l.length ≤ 1000 → p2 l → Below w.heap.size w W → IntsAt W rr l → Calls Tryz.prog 12 #[.agg #[.int .i64 k, .slice a m cap], .int .i64 p, .int .i64 z, .slice rr l.length c] W fun e w' => e = .returned (.int .i64 0) ∧ Below W.heap.size W w')) :
    Calls Tryz.prog 3 #[.agg #[.int .i64 k, .slice a m cap], .int .i64 p, .int .i64 z, .slice r q cq] w fun e w' => e = .returned (.bool true) ∧ Below w.heap.size w w' := by
  have FB := Lib.hid (FA.new w [.int .i64 k, .slice a m cap])
  · have t1 : decide ((100 : Int) < (q : Int)) = false := decide_eq_false (by omega)
    have t2 : decide (100 < q) = false := decide_eq_false hq
    clear hq
    go_enter Tryz.func3, Tryz.ntmps3
    go_upto_region 5 with (first | (go_at_call 7; refine (HSA.out _).mono ?_; rintro e w1 ⟨rfl, hb⟩; clear HSA; replace FB := Lib.hid (FB.out.below hb); clear hb; have c0 := FB.out.1.cell (i := 0) rfl; have c1 := FB.out.1.cell (i := 1) rfl) | (go_at_call 8; refine (HF.out _).mono ?_; rintro e w2 ⟨rfl, hb⟩; clear HF c0 c1; replace FB := Lib.hid (FB.out.below hb); clear hb; have c0 := FB.out.1.cell (i := 0) rfl; have c1 := FB.out.1.cell (i := 1) rfl))
    clear t1 t2 c0 c1
    have HOWD : Hid (∀ w1, (clOld w2.drew).C w1 → Below w2.heap.size w2 w1) := fun w1 hC => old_end (Below.refl _ _) hC (Nat.le_refl _)
    refine wp_region_old 24 169 (by kernel_rfl) (by kernel_rfl) (by rfl) ?_
    simp only [List.take_succ_cons, List.take_zero, List.drop_succ_cons, List.drop_zero, List.drop_nil]
    refine chain_load (.agg #[.int .i64 k, .slice a m cap]) _ _ _ (fun _ _ => Below.refl _ _) rfl rfl (by kernel_rfl) (by kernel_rfl) rfl (fun w1 hC => load_g ((FB.out.1.below (HOWD.out w1 hC)).cell rfl) ((FB.out.1.below (HOWD.out w1 hC)).cell rfl)) ?_
    refine chain_move (.int .i64 p) _ (fun _ _ => Below.refl _ _) rfl rfl (by kernel_rfl) (by kernel_rfl) rfl ?_
    refine chain_move (.int .i64 z) _ (fun _ _ => Below.refl _ _) rfl rfl (by kernel_rfl) (by kernel_rfl) rfl ?_
    refine chain_move (.slice r q cq) _ (fun _ _ => Below.refl _ _) rfl rfl (by kernel_rfl) (by kernel_rfl) rfl ?_
    refine chain_call (.int .i64 E1) 9 [.agg #[.int .i64 k, .slice a m cap], .int .i64 p, .int .i64 z, .slice r q cq] _ _ (enters_of Tryz.func9 (by kernel_rfl) rfl) rfl rfl rfl (by kernel_rfl) (by kernel_rfl) rfl rfl (fun w1 hC => HK1.out w1 (FB.out.2.trans ((HOWD.out w1 hC).mono FB.out.2.size))) ?_
    refine chain_load (.agg #[.int .i64 k, .slice a m cap]) _ _ _ (fun _ _ => Below.refl _ _) rfl rfl (by kernel_rfl) (by kernel_rfl) rfl (fun w1 hC => load_g ((FB.out.1.below (HOWD.out w1 hC)).cell rfl) ((FB.out.1.below (HOWD.out w1 hC)).cell rfl)) ?_
    refine chain_move (.int .i64 p) _ (fun _ _ => Below.refl _ _) rfl rfl (by kernel_rfl) (by kernel_rfl) rfl ?_
    refine chain_move (.int .i64 z) _ (fun _ _ => Below.refl _ _) rfl rfl (by kernel_rfl) (by kernel_rfl) rfl ?_
    refine chain_move (.slice r q cq) _ (fun _ _ => Below.refl _ _) rfl rfl (by kernel_rfl) (by kernel_rfl) rfl ?_
    refine chain_call (.int .i64 E1) 10 [.agg #[.int .i64 k, .slice a m cap], .int .i64 p, .int .i64 z, .slice r q cq] _ _ (enters_of Tryz.func10 (by kernel_rfl) rfl) rfl rfl rfl (by kernel_rfl) (by kernel_rfl) rfl rfl (fun w1 hC => HK2.out w1 (FB.out.2.trans ((HOWD.out w1 hC).mono FB.out.2.size))) ?_
    refine chain_bin (.bool false) _ _ _ _ _ (.int .i64 E1) (.int .i64 E1) (fun _ _ => Below.refl _ _) rfl rfl (by kernel_rfl) (by kernel_rfl) rfl rfl (fun w1 => neq_i64 _ _ _ _ _ _ (by simp) w1) ?_
    refine chain_move (.bool false) _ (fun _ _ => Below.refl _ _) rfl rfl (by kernel_rfl) (by kernel_rfl) rfl ?_
    refine chain_load (.agg #[.int .i64 k, .slice a m cap]) _ _ _ (fun _ _ => Below.refl _ _) rfl rfl (by kernel_rfl) (by kernel_rfl) rfl (fun w1 hC => load_g ((FB.out.1.below (HOWD.out w1 hC)).cell rfl) ((FB.out.1.below (HOWD.out w1 hC)).cell rfl)) ?_
    refine chain_move (.int .i64 p) _ (fun _ _ => Below.refl _ _) rfl rfl (by kernel_rfl) (by kernel_rfl) rfl ?_
    refine chain_move (.int .i64 z) _ (fun _ _ => Below.refl _ _) rfl rfl (by kernel_rfl) (by kernel_rfl) rfl ?_
    refine chain_move (.slice r q cq) _ (fun _ _ => Below.refl _ _) rfl rfl (by kernel_rfl) (by kernel_rfl) rfl ?_
    refine chain_call (.int .i64 E2) 11 [.agg #[.int .i64 k, .slice a m cap], .int .i64 p, .int .i64 z, .slice r q cq] _ _ (enters_of Tryz.func11 (by kernel_rfl) rfl) rfl rfl rfl (by kernel_rfl) (by kernel_rfl) rfl rfl (fun w1 hC => HK3.out w1 (FB.out.2.trans ((HOWD.out w1 hC).mono FB.out.2.size))) ?_
    refine chain_load (.agg #[.int .i64 k, .slice a m cap]) _ _ _ (fun _ _ => Below.refl _ _) rfl rfl (by kernel_rfl) (by kernel_rfl) rfl (fun w1 hC => load_g ((FB.out.1.below (HOWD.out w1 hC)).cell rfl) ((FB.out.1.below (HOWD.out w1 hC)).cell rfl)) ?_
    refine chain_move (.int .i64 p) _ (fun _ _ => Below.refl _ _) rfl rfl (by kernel_rfl) (by kernel_rfl) rfl ?_
    refine chain_move (.int .i64 z) _ (fun _ _ => Below.refl _ _) rfl rfl (by kernel_rfl) (by kernel_rfl) rfl ?_
    refine chain_move (.slice r q cq) _ (fun _ _ => Below.refl _ _) rfl rfl (by kernel_rfl) (by kernel_rfl) rfl ?_
    refine chain_call (.int .i64 E2) 12 [.agg #[.int .i64 k, .slice a m cap], .int .i64 p, .int .i64 z, .slice r q cq] _ _ (enters_of Tryz.func12 (by kernel_rfl) rfl) rfl rfl rfl (by kernel_rfl) (by kernel_rfl) rfl rfl (fun w1 hC => HK4.out w1 (FB.out.2.trans ((HOWD.out w1 hC).mono FB.out.2.size))) ?_
    refine chain_bin (.bool false) _ _ _ _ _ (.int .i64 E2) (.int .i64 E2) (fun _ _ => Below.refl _ _) rfl rfl (by kernel_rfl) (by kernel_rfl) rfl rfl (fun w1 => neq_i64 _ _ _ _ _ _ (by simp) w1) ?_
    refine chain_pick (.bool false) _ _ _ false (fun _ _ => Below.refl _ _) rfl rfl (by kernel_rfl) (by kernel_rfl) rfl rfl ?_
    refine chain_end (by rfl) ?_
    intro xs w9 hCw9 hrew9
    simp only [layE, List.foldr_cons, List.foldr_nil, List.set_cons_succ, List.set_cons_zero]
    replace FB := Lib.hid (FB.out.below (HOWD.out w9 hCw9))
    clear hCw9 hrew9 HOWD HK1 HK2 HK3 HK4
    have c0 := FB.out.1.cell (i := 0) rfl
    have c1 := FB.out.1.cell (i := 1) rfl
    go_upto_region 10 with (first | (go_at_call 13; go_loud (refine (HCH.out _ FB.out.2).mono ?_; rintro e w3 ⟨u1, v1, rfl, hu, hb⟩; clear HCH c0 c1; replace FB := Lib.hid (FB.out.below hb); have HU := Lib.hid hu; clear hb hu; have c0 := FB.out.1.cell (i := 0) rfl; have c1 := FB.out.1.cell (i := 1) rfl)) | (go_at_call 14; go_loud (refine (HWY.out _ FB.out.2).mono ?_; rintro e w4 ⟨u2, v2, rfl, hu, hb⟩; clear HWY c0 c1; replace FB := Lib.hid (FB.out.below hb); replace HU := Lib.hid (HU.out.below hb); have HV := Lib.hid hu; clear hb hu; have c0 := FB.out.1.cell (i := 0) rfl; have c1 := FB.out.1.cell (i := 1) rfl)) | (go_at_call 15; go_loud (refine (HRS.out _ FB.out.2).mono ?_; rintro e w5 ⟨⟨b, rfl⟩, hb⟩; clear HRS c0 c1; replace FB := Lib.hid (FB.out.below hb); replace HU := Lib.hid (HU.out.below hb); replace HV := Lib.hid (HV.out.below hb); clear hb)))
    go_upto_region 14 with (fail)
    rcases HU.out with ⟨rfl, rfl, hm1⟩ | ⟨rfl, l1, r1, k1, rfl, hm1, hl1, hp1, hi1⟩ <;> rcases HV.out with ⟨rfl, rfl, hm2⟩ | ⟨rfl, l2, r2, k2, rfl, hm2, hl2, hp2, hi2⟩
    · clear HU HV HC1 HC2
      have HOWD : Hid (∀ w1, (clOld w5.drew).C w1 → Below w5.heap.size w5 w1) := fun w1 hC => old_end (Below.refl _ _) hC (Nat.le_refl _)
      replace HL1 : Hid (∀ W, Below w.heap.size w W → Calls Tryz.prog 16 #[.agg #[.int .i64 k, .slice a m cap], .int .i64 p, .int .i64 z, .int .i64 0] W fun e w' => e = .returned (.int .i64 (-1)) ∧ Below W.heap.size W w') := Lib.hid (fun W hb => (HL1.out W hb).mono fun e w' ⟨⟨r, h1, h2⟩, h3⟩ => ⟨by rw [h1, hm1 r h2], h3⟩)
      replace HL2 : Hid (∀ W, Below w.heap.size w W → Calls Tryz.prog 16 #[.agg #[.int .i64 k, .slice a m cap], .int .i64 p, .int .i64 z, .int .i64 1] W fun e w' => e = .returned (.int .i64 (-1)) ∧ Below W.heap.size W w') := Lib.hid (fun W hb => (HL2.out W hb).mono fun e w' ⟨⟨r, h1, h2⟩, h3⟩ => ⟨by rw [h1, hm2 r h2], h3⟩)
      clear hm1 hm2
      refine wp_region_old 10 169 (by kernel_rfl) (by kernel_rfl) (by rfl) ?_
      simp only [List.take_succ_cons, List.take_zero, List.drop_succ_cons, List.drop_zero, List.drop_nil]
      refine chain_load (.agg #[.int .i64 k, .slice a m cap]) _ _ _ (fun _ _ => Below.refl _ _) rfl rfl (by kernel_rfl) (by kernel_rfl) rfl (fun w1 hC => load_g ((FB.out.1.below (HOWD.out w1 hC)).cell rfl) ((FB.out.1.below (HOWD.out w1 hC)).cell rfl)) ?_
      refine chain_move (.int .i64 p) _ (fun _ _ => Below.refl _ _) rfl rfl (by kernel_rfl) (by kernel_rfl) rfl ?_
      refine chain_move (.int .i64 z) _ (fun _ _ => Below.refl _ _) rfl rfl (by kernel_rfl) (by kernel_rfl) rfl ?_
      refine chain_call (.int .i64 (-1)) 16 [.agg #[.int .i64 k, .slice a m cap], .int .i64 p, .int .i64 z, .int .i64 0] _ _ (enters_of Tryz.func16 (by kernel_rfl) rfl) rfl rfl rfl (by kernel_rfl) (by kernel_rfl) rfl rfl (fun w1 hC => HL1.out w1 (FB.out.2.trans ((HOWD.out w1 hC).mono FB.out.2.size))) ?_
      refine chain_load (.agg #[.int .i64 k, .slice a m cap]) _ _ _ (fun _ _ => Below.refl _ _) rfl rfl (by kernel_rfl) (by kernel_rfl) rfl (fun w1 hC => load_g ((FB.out.1.below (HOWD.out w1 hC)).cell rfl) ((FB.out.1.below (HOWD.out w1 hC)).cell rfl)) ?_
      refine chain_move (.int .i64 p) _ (fun _ _ => Below.refl _ _) rfl rfl (by kernel_rfl) (by kernel_rfl) rfl ?_
      refine chain_move (.int .i64 z) _ (fun _ _ => Below.refl _ _) rfl rfl (by kernel_rfl) (by kernel_rfl) rfl ?_
      refine chain_call (.int .i64 (-1)) 16 [.agg #[.int .i64 k, .slice a m cap], .int .i64 p, .int .i64 z, .int .i64 1] _ _ (enters_of Tryz.func16 (by kernel_rfl) rfl) rfl rfl rfl (by kernel_rfl) (by kernel_rfl) rfl rfl (fun w1 hC => HL2.out w1 (FB.out.2.trans ((HOWD.out w1 hC).mono FB.out.2.size))) ?_
      refine chain_assign (.int .i64 (-1)) _ (fun _ _ => Below.refl _ _) rfl rfl (by kernel_rfl) (by kernel_rfl) rfl ?_
      refine chain_assign (.int .i64 (-1)) _ (fun _ _ => Below.refl _ _) rfl rfl (by kernel_rfl) (by kernel_rfl) rfl ?_
      refine chain_end (by rfl) ?_
      intro xs w9 hCw9 hrew9
      simp only [layE, List.foldr_cons, List.foldr_nil, List.set_cons_succ, List.set_cons_zero]
      have HY := Lib.hid (HOWD.out w9 hCw9)
      replace FB := Lib.hid (FB.out.below HY.out)
      clear hCw9 hrew9 HOWD HL1 HL2 HY
      have c0 := FB.out.1.cell (i := 0) rfl
      have c1 := FB.out.1.cell (i := 1) rfl
      go_wp2_with fail
      go_ret
      exact ⟨rfl, FB.out.2⟩
    · clear HU HV HC1
      have HI2 := Lib.hid hi2
      replace HC2 := Lib.hid (fun W => HC2.out W l2 r2 k2 hl2 hp2)
      clear hi2 hp2
      generalize hM2 : l2.length = L2 at *
      clear hM2
      have HOWD : Hid (∀ w1, (clOld w5.drew).C w1 → Below w5.heap.size w5 w1) := fun w1 hC => old_end (Below.refl _ _) hC (Nat.le_refl _)
      replace HL1 : Hid (∀ W, Below w.heap.size w W → Calls Tryz.prog 16 #[.agg #[.int .i64 k, .slice a m cap], .int .i64 p, .int .i64 z, .int .i64 0] W fun e w' => e = .returned (.int .i64 (-1)) ∧ Below W.heap.size W w') := Lib.hid (fun W hb => (HL1.out W hb).mono fun e w' ⟨⟨r, h1, h2⟩, h3⟩ => ⟨by rw [h1, hm1 r h2], h3⟩)
      replace HL2 : Hid (∀ W, Below w.heap.size w W → Calls Tryz.prog 16 #[.agg #[.int .i64 k, .slice a m cap], .int .i64 p, .int .i64 z, .int .i64 1] W fun e w' => e = .returned (.int .i64 (L2 : Int)) ∧ Below W.heap.size W w') := Lib.hid (fun W hb => (HL2.out W hb).mono fun e w' ⟨⟨r, h1, h2⟩, h3⟩ => ⟨by rw [h1, hm2 r h2], h3⟩)
      clear hm1 hm2
      refine wp_region_old 10 169 (by kernel_rfl) (by kernel_rfl) (by rfl) ?_
      simp only [List.take_succ_cons, List.take_zero, List.drop_succ_cons, List.drop_zero, List.drop_nil]
      refine chain_load (.agg #[.int .i64 k, .slice a m cap]) _ _ _ (fun _ _ => Below.refl _ _) rfl rfl (by kernel_rfl) (by kernel_rfl) rfl (fun w1 hC => load_g ((FB.out.1.below (HOWD.out w1 hC)).cell rfl) ((FB.out.1.below (HOWD.out w1 hC)).cell rfl)) ?_
      refine chain_move (.int .i64 p) _ (fun _ _ => Below.refl _ _) rfl rfl (by kernel_rfl) (by kernel_rfl) rfl ?_
      refine chain_move (.int .i64 z) _ (fun _ _ => Below.refl _ _) rfl rfl (by kernel_rfl) (by kernel_rfl) rfl ?_
      refine chain_call (.int .i64 (-1)) 16 [.agg #[.int .i64 k, .slice a m cap], .int .i64 p, .int .i64 z, .int .i64 0] _ _ (enters_of Tryz.func16 (by kernel_rfl) rfl) rfl rfl rfl (by kernel_rfl) (by kernel_rfl) rfl rfl (fun w1 hC => HL1.out w1 (FB.out.2.trans ((HOWD.out w1 hC).mono FB.out.2.size))) ?_
      refine chain_load (.agg #[.int .i64 k, .slice a m cap]) _ _ _ (fun _ _ => Below.refl _ _) rfl rfl (by kernel_rfl) (by kernel_rfl) rfl (fun w1 hC => load_g ((FB.out.1.below (HOWD.out w1 hC)).cell rfl) ((FB.out.1.below (HOWD.out w1 hC)).cell rfl)) ?_
      refine chain_move (.int .i64 p) _ (fun _ _ => Below.refl _ _) rfl rfl (by kernel_rfl) (by kernel_rfl) rfl ?_
      refine chain_move (.int .i64 z) _ (fun _ _ => Below.refl _ _) rfl rfl (by kernel_rfl) (by kernel_rfl) rfl ?_
      refine chain_call (.int .i64 (L2 : Int)) 16 [.agg #[.int .i64 k, .slice a m cap], .int .i64 p, .int .i64 z, .int .i64 1] _ _ (enters_of Tryz.func16 (by kernel_rfl) rfl) rfl rfl rfl (by kernel_rfl) (by kernel_rfl) rfl rfl (fun w1 hC => HL2.out w1 (FB.out.2.trans ((HOWD.out w1 hC).mono FB.out.2.size))) ?_
      refine chain_assign (.int .i64 (-1)) _ (fun _ _ => Below.refl _ _) rfl rfl (by kernel_rfl) (by kernel_rfl) rfl ?_
      refine chain_assign (.int .i64 (L2 : Int)) _ (fun _ _ => Below.refl _ _) rfl rfl (by kernel_rfl) (by kernel_rfl) rfl ?_
      refine chain_end (by rfl) ?_
      intro xs w9 hCw9 hrew9
      simp only [layE, List.foldr_cons, List.foldr_nil, List.set_cons_succ, List.set_cons_zero]
      have HY := Lib.hid (HOWD.out w9 hCw9)
      replace FB := Lib.hid (FB.out.below HY.out)
      replace HI2 := Lib.hid (HI2.out.below HY.out)
      clear hCw9 hrew9 HOWD HL1 HL2 HY
      have c0 := FB.out.1.cell (i := 0) rfl
      have c1 := FB.out.1.cell (i := 1) rfl
      go_wp2_with (first | (go_at_call 12; go_loud (refine (HC2.out _ FB.out.2 HI2.out).mono ?_; rintro e w8 ⟨rfl, hb⟩; clear HC2 c0 c1; replace FB := Lib.hid (FB.out.below hb); clear hb)))
      go_ret
      exact ⟨rfl, FB.out.2⟩
    · clear HU HV HC2
      have HI1 := Lib.hid hi1
      replace HC1 := Lib.hid (fun W => HC1.out W l1 r1 k1 hl1 hp1)
      clear hi1 hp1
      generalize hM1 : l1.length = L1 at *
      clear hM1
      have HOWD : Hid (∀ w1, (clOld w5.drew).C w1 → Below w5.heap.size w5 w1) := fun w1 hC => old_end (Below.refl _ _) hC (Nat.le_refl _)
      replace HL1 : Hid (∀ W, Below w.heap.size w W → Calls Tryz.prog 16 #[.agg #[.int .i64 k, .slice a m cap], .int .i64 p, .int .i64 z, .int .i64 0] W fun e w' => e = .returned (.int .i64 (L1 : Int)) ∧ Below W.heap.size W w') := Lib.hid (fun W hb => (HL1.out W hb).mono fun e w' ⟨⟨r, h1, h2⟩, h3⟩ => ⟨by rw [h1, hm1 r h2], h3⟩)
      replace HL2 : Hid (∀ W, Below w.heap.size w W → Calls Tryz.prog 16 #[.agg #[.int .i64 k, .slice a m cap], .int .i64 p, .int .i64 z, .int .i64 1] W fun e w' => e = .returned (.int .i64 (-1)) ∧ Below W.heap.size W w') := Lib.hid (fun W hb => (HL2.out W hb).mono fun e w' ⟨⟨r, h1, h2⟩, h3⟩ => ⟨by rw [h1, hm2 r h2], h3⟩)
      clear hm1 hm2
      refine wp_region_old 10 169 (by kernel_rfl) (by kernel_rfl) (by rfl) ?_
      simp only [List.take_succ_cons, List.take_zero, List.drop_succ_cons, List.drop_zero, List.drop_nil]
      refine chain_load (.agg #[.int .i64 k, .slice a m cap]) _ _ _ (fun _ _ => Below.refl _ _) rfl rfl (by kernel_rfl) (by kernel_rfl) rfl (fun w1 hC => load_g ((FB.out.1.below (HOWD.out w1 hC)).cell rfl) ((FB.out.1.below (HOWD.out w1 hC)).cell rfl)) ?_
      refine chain_move (.int .i64 p) _ (fun _ _ => Below.refl _ _) rfl rfl (by kernel_rfl) (by kernel_rfl) rfl ?_
      refine chain_move (.int .i64 z) _ (fun _ _ => Below.refl _ _) rfl rfl (by kernel_rfl) (by kernel_rfl) rfl ?_
      refine chain_call (.int .i64 (L1 : Int)) 16 [.agg #[.int .i64 k, .slice a m cap], .int .i64 p, .int .i64 z, .int .i64 0] _ _ (enters_of Tryz.func16 (by kernel_rfl) rfl) rfl rfl rfl (by kernel_rfl) (by kernel_rfl) rfl rfl (fun w1 hC => HL1.out w1 (FB.out.2.trans ((HOWD.out w1 hC).mono FB.out.2.size))) ?_
      refine chain_load (.agg #[.int .i64 k, .slice a m cap]) _ _ _ (fun _ _ => Below.refl _ _) rfl rfl (by kernel_rfl) (by kernel_rfl) rfl (fun w1 hC => load_g ((FB.out.1.below (HOWD.out w1 hC)).cell rfl) ((FB.out.1.below (HOWD.out w1 hC)).cell rfl)) ?_
      refine chain_move (.int .i64 p) _ (fun _ _ => Below.refl _ _) rfl rfl (by kernel_rfl) (by kernel_rfl) rfl ?_
      refine chain_move (.int .i64 z) _ (fun _ _ => Below.refl _ _) rfl rfl (by kernel_rfl) (by kernel_rfl) rfl ?_
      refine chain_call (.int .i64 (-1)) 16 [.agg #[.int .i64 k, .slice a m cap], .int .i64 p, .int .i64 z, .int .i64 1] _ _ (enters_of Tryz.func16 (by kernel_rfl) rfl) rfl rfl rfl (by kernel_rfl) (by kernel_rfl) rfl rfl (fun w1 hC => HL2.out w1 (FB.out.2.trans ((HOWD.out w1 hC).mono FB.out.2.size))) ?_
      refine chain_assign (.int .i64 (L1 : Int)) _ (fun _ _ => Below.refl _ _) rfl rfl (by kernel_rfl) (by kernel_rfl) rfl ?_
      refine chain_assign (.int .i64 (-1)) _ (fun _ _ => Below.refl _ _) rfl rfl (by kernel_rfl) (by kernel_rfl) rfl ?_
      refine chain_end (by rfl) ?_
      intro xs w9 hCw9 hrew9
      simp only [layE, List.foldr_cons, List.foldr_nil, List.set_cons_succ, List.set_cons_zero]
      have HY := Lib.hid (HOWD.out w9 hCw9)
      replace FB := Lib.hid (FB.out.below HY.out)
      replace HI1 := Lib.hid (HI1.out.below HY.out)
      clear hCw9 hrew9 HOWD HL1 HL2 HY
      have c0 := FB.out.1.cell (i := 0) rfl
      have c1 := FB.out.1.cell (i := 1) rfl
      go_wp2_with (first | (go_at_call 10; go_loud (refine (HC1.out _ FB.out.2 HI1.out).mono ?_; rintro e w7 ⟨rfl, hb⟩; clear HC1 c0 c1; replace FB := Lib.hid (FB.out.below hb); clear hb; have c0 := FB.out.1.cell (i := 0) rfl; have c1 := FB.out.1.cell (i := 1) rfl)))
      go_ret
      exact ⟨rfl, FB.out.2⟩
    · clear HU HV
      have HI1 := Lib.hid hi1
      replace HC1 := Lib.hid (fun W => HC1.out W l1 r1 k1 hl1 hp1)
      clear hi1 hp1
      have HI2 := Lib.hid hi2
      replace HC2 := Lib.hid (fun W => HC2.out W l2 r2 k2 hl2 hp2)
      clear hi2 hp2
      generalize hM1 : l1.length = L1 at *
      clear hM1
      generalize hM2 : l2.length = L2 at *
      clear hM2
      have HOWD : Hid (∀ w1, (clOld w5.drew).C w1 → Below w5.heap.size w5 w1) := fun w1 hC => old_end (Below.refl _ _) hC (Nat.le_refl _)
      replace HL1 : Hid (∀ W, Below w.heap.size w W → Calls Tryz.prog 16 #[.agg #[.int .i64 k, .slice a m cap], .int .i64 p, .int .i64 z, .int .i64 0] W fun e w' => e = .returned (.int .i64 (L1 : Int)) ∧ Below W.heap.size W w') := Lib.hid (fun W hb => (HL1.out W hb).mono fun e w' ⟨⟨r, h1, h2⟩, h3⟩ => ⟨by rw [h1, hm1 r h2], h3⟩)
      replace HL2 : Hid (∀ W, Below w.heap.size w W → Calls Tryz.prog 16 #[.agg #[.int .i64 k, .slice a m cap], .int .i64 p, .int .i64 z, .int .i64 1] W fun e w' => e = .returned (.int .i64 (L2 : Int)) ∧ Below W.heap.size W w') := Lib.hid (fun W hb => (HL2.out W hb).mono fun e w' ⟨⟨r, h1, h2⟩, h3⟩ => ⟨by rw [h1, hm2 r h2], h3⟩)
      clear hm1 hm2
      refine wp_region_old 10 169 (by kernel_rfl) (by kernel_rfl) (by rfl) ?_
      simp only [List.take_succ_cons, List.take_zero, List.drop_succ_cons, List.drop_zero, List.drop_nil]
      refine chain_load (.agg #[.int .i64 k, .slice a m cap]) _ _ _ (fun _ _ => Below.refl _ _) rfl rfl (by kernel_rfl) (by kernel_rfl) rfl (fun w1 hC => load_g ((FB.out.1.below (HOWD.out w1 hC)).cell rfl) ((FB.out.1.below (HOWD.out w1 hC)).cell rfl)) ?_
      refine chain_move (.int .i64 p) _ (fun _ _ => Below.refl _ _) rfl rfl (by kernel_rfl) (by kernel_rfl) rfl ?_
      refine chain_move (.int .i64 z) _ (fun _ _ => Below.refl _ _) rfl rfl (by kernel_rfl) (by kernel_rfl) rfl ?_
      refine chain_call (.int .i64 (L1 : Int)) 16 [.agg #[.int .i64 k, .slice a m cap], .int .i64 p, .int .i64 z, .int .i64 0] _ _ (enters_of Tryz.func16 (by kernel_rfl) rfl) rfl rfl rfl (by kernel_rfl) (by kernel_rfl) rfl rfl (fun w1 hC => HL1.out w1 (FB.out.2.trans ((HOWD.out w1 hC).mono FB.out.2.size))) ?_
      refine chain_load (.agg #[.int .i64 k, .slice a m cap]) _ _ _ (fun _ _ => Below.refl _ _) rfl rfl (by kernel_rfl) (by kernel_rfl) rfl (fun w1 hC => load_g ((FB.out.1.below (HOWD.out w1 hC)).cell rfl) ((FB.out.1.below (HOWD.out w1 hC)).cell rfl)) ?_
      refine chain_move (.int .i64 p) _ (fun _ _ => Below.refl _ _) rfl rfl (by kernel_rfl) (by kernel_rfl) rfl ?_
      refine chain_move (.int .i64 z) _ (fun _ _ => Below.refl _ _) rfl rfl (by kernel_rfl) (by kernel_rfl) rfl ?_
      refine chain_call (.int .i64 (L2 : Int)) 16 [.agg #[.int .i64 k, .slice a m cap], .int .i64 p, .int .i64 z, .int .i64 1] _ _ (enters_of Tryz.func16 (by kernel_rfl) rfl) rfl rfl rfl (by kernel_rfl) (by kernel_rfl) rfl rfl (fun w1 hC => HL2.out w1 (FB.out.2.trans ((HOWD.out w1 hC).mono FB.out.2.size))) ?_
      refine chain_assign (.int .i64 (L1 : Int)) _ (fun _ _ => Below.refl _ _) rfl rfl (by kernel_rfl) (by kernel_rfl) rfl ?_
      refine chain_assign (.int .i64 (L2 : Int)) _ (fun _ _ => Below.refl _ _) rfl rfl (by kernel_rfl) (by kernel_rfl) rfl ?_
      refine chain_end (by rfl) ?_
      intro xs w9 hCw9 hrew9
      simp only [layE, List.foldr_cons, List.foldr_nil, List.set_cons_succ, List.set_cons_zero]
      have HY := Lib.hid (HOWD.out w9 hCw9)
      replace FB := Lib.hid (FB.out.below HY.out)
      replace HI1 := Lib.hid (HI1.out.below HY.out)
      replace HI2 := Lib.hid (HI2.out.below HY.out)
      clear hCw9 hrew9 HOWD HL1 HL2 HY
      have c0 := FB.out.1.cell (i := 0) rfl
      have c1 := FB.out.1.cell (i := 1) rfl
      go_wp2_with (first | (go_at_call 10; go_loud (refine (HC1.out _ FB.out.2 HI1.out).mono ?_; rintro e w7 ⟨rfl, hb⟩; clear HC1 c0 c1; replace FB := Lib.hid (FB.out.below hb); replace HI2 := Lib.hid (HI2.out.below hb); clear hb; have c0 := FB.out.1.cell (i := 0) rfl; have c1 := FB.out.1.cell (i := 1) rfl)) | (go_at_call 12; go_loud (refine (HC2.out _ FB.out.2 HI2.out).mono ?_; rintro e w8 ⟨rfl, hb⟩; clear HC2 c0 c1; replace FB := Lib.hid (FB.out.below hb); clear hb)))
      go_ret
      exact ⟨rfl, FB.out.2⟩
theorem len_none {ts : List TieD} {a b cuts : Nat} {r : Int} (h : LenR ts a b cuts r) (hn : ∀ l : List Int, leadF ts l ((a : Int), 0) ≠ some ((b : Int), (cuts : Int))) : r = -1 := by
  rcases h with ⟨h, _⟩ | ⟨l, h, _⟩
  · exact h
  · exact absurd h (hn l)
theorem len_some {ts : List TieD} {a b cuts : Nat} {r : Int} {l : List Int} (h : LenR ts a b cuts r) (hl : leadF ts l ((a : Int), 0) = some ((b : Int), (cuts : Int))) (hs : l.length < 64) (hm : ∀ l' : List Int, leadF ts l' ((a : Int), 0) = some ((b : Int), (cuts : Int)) → l.length ≤ l'.length) : r = l.length := by
  rcases h with ⟨_, h⟩ | ⟨l', h1, h2, h3⟩
  · have := h l hl; omega
  · have := h3 l hl; have := hm l' h1; omega
set_option maxRecDepth 100000 in
set_option maxHeartbeats 4000000 in
theorem tiesChains_any (n : Int) (a r : Option Addr) (cap cq : Nat) (ts : List TieD) (P : List Int) (x y : Int) (w : World) (hl : ts.length ≤ 9223372036854775807) (hs : TiesAt w a ts) (hr : IntsAt w r P)
    (hsane : ∀ W, Calls Tryz.prog 7 #[] W fun e w' => e = .returned (.bool true) ∧ Below W.heap.size W w') :
    Calls Tryz.prog 3 #[gV n a ts.length cap, .int .i64 x, .int .i64 y, .slice r P.length cq] w fun e w' => e = .returned (.bool true) ∧ Below w.heap.size w w' := by
  by_cases hno : fewB ts.length = false ∨ (fewB ts.length = true ∧ 100 < P.length)
  · exact tiesChains_no n x y a r cap cq ts.length P.length w (fewB ts.length) hno (Lib.hid hsane) (fun W => few_any n a ts.length cap W hl)
  have hf : fewB ts.length = true := by cases h : fewB ts.length with | true => rfl | false => exact absurd (.inl h) hno
  have hq : ¬ 100 < P.length := fun h => hno (.inr ⟨hf, h⟩)
  have HF : Hid (∀ W, Calls Tryz.prog 8 #[gV n a ts.length cap] W fun e w' => e = .returned (.bool true) ∧ Below W.heap.size W w') := fun W => by have h := few_any n a ts.length cap W hl; rw [hf] at h; exact h
  clear hno hf
  by_cases h0 : errA n ts x y = 0
  · obtain ⟨hok, hxy⟩ := errA_ok h0
    obtain ⟨k, rfl, hk1, hk2, hl5, hv⟩ := okG_parts hok
    unfold ftB at hxy
    simp only [Bool.and_eq_true, decide_eq_true_eq] at hxy
    obtain ⟨p, rfl⟩ := Int.eq_ofNat_of_zero_le hxy.1.1
    obtain ⟨z, rfl⟩ := Int.eq_ofNat_of_zero_le hxy.2.1
    have hp : p < k := by omega
    have hz : z < k := by omega
    have huni : ∀ {cuts : Nat} {u : Value} {v : Bool} {w' : World} {B : Nat}, cuts ≤ 1 → WP ts cuts p z B u v w' → CwA (LenR ts p z cuts) (fun l => chnF ts l p z cuts = 0) u v w' := fun {cuts u v w' B} hc h => by
      rcases h with ⟨rfl, rfl, h⟩ | ⟨rfl, l, rr, c, h1, h2, h3, rfl, h4⟩
      · exact .inl ⟨rfl, rfl, fun r hr => len_none hr h⟩
      · exact .inr ⟨rfl, l, rr, c, rfl, fun r hr => len_some hr h2 h3 (way_short hk2 hc hv (by simpa using hp) (by simpa using hz) h1), by omega, chn_zero.2 h2, (own_intsB h4).2⟩
    refine tiesChains_ok k p z a r cap cq ts.length P.length w (chnF ts P p z 0) (chnF ts P p z 1) (LenR ts p z 0) (LenR ts p z 1) (fun l => chnF ts l p z 0 = 0) (fun l => chnF ts l p z 1 = 0) hq (Lib.hid hsane) HF ?_ ?_ ?_ ?_ ?_ ?_ ?_ ?_ ?_ ?_ ?_
    · intro W hb; exact checkChain_any (k : Int) a cap cq ts r P p z W (by omega) h0 (hs.below hb) (hr.below hb)
    · intro W hb; exact rCheckChain_ok k a cap cq ts r P p z W (by omega) h0 (hs.below hb) (hr.below hb)
    · intro W hb; exact checkWhy_any (k : Int) a cap cq ts r P p z W (by omega) h0 (hs.below hb) (hr.below hb)
    · intro W hb; exact rCheckWhy_ok k a cap cq ts r P p z W (by omega) h0 (hs.below hb) (hr.below hb)
    · intro W hb; exact (chain_any (k : Int) a cap ts p z W h0 (hs.below hb)).mono fun e w' ⟨u, v, h1, h2, h3⟩ => ⟨u, v, h1, huni (by omega) h2, h3⟩
    · intro W hb; exact (why_any (k : Int) a cap ts p z W h0 (hs.below hb)).mono fun e w' ⟨u, v, h1, h2, h3⟩ => ⟨u, v, h1, huni (by omega) h2, h3⟩
    · intro W hb; exact (rSame_any (k : Int) a cap ts p z W hl (hs.below hb)).mono fun e w' ⟨h1, h2⟩ => ⟨⟨_, by rw [h0] at h1; exact h1⟩, h2⟩
    · intro W hb; exact rLength_any k p z 0 a cap ts W hk2 hp hz (by omega) hl5 hv (hs.below hb)
    · intro W hb; exact rLength_any k p z 1 a cap ts W hk2 hp hz (by omega) hl5 hv (hs.below hb)
    · intro W l rr c h1 h2 hb hI
      have h := rCheckChain_ok k a cap c ts rr l p z W h1 h0 (hs.below hb) hI
      rw [h2] at h; exact h
    · intro W l rr c h1 h2 hb hI
      have h := rCheckWhy_ok k a cap c ts rr l p z W h1 h0 (hs.below hb) hI
      rw [h2] at h; exact h
  · have hb1 := h0
    refine tiesChains_bad n x y a r cap cq ts.length P.length w (errA n ts x y) (errA n ts x y) (errA n ts x y) hq h0 (Lib.hid hsane) HF ?_ ?_ ?_ ?_ ?_ ?_ ?_
    · intro W hb; exact tCheckChain_bad n a cap ts _ x y W hl h0 (hs.below hb)
    · intro W hb; exact rCheckChain_bad n a cap ts _ x y W hl h0 (hs.below hb)
    · intro W hb; exact tCheckWhy_bad n a cap ts _ x y W hl h0 (hs.below hb)
    · intro W hb; exact rCheckWhy_bad n a cap ts _ x y W hl h0 (hs.below hb)
    · intro W hb; exact chain_bad n a cap ts x y W hl h0 (hs.below hb)
    · intro W hb; exact why_bad n a cap ts x y W hl h0 (hs.below hb)
    · intro W hb; exact (rSame_any n a cap ts x y W hl (hs.below hb)).mono fun e w' ⟨h1, h2⟩ => ⟨⟨_, h1⟩, h2⟩
end Go.Proofs.YtjcafjffmiknmaaGreat
