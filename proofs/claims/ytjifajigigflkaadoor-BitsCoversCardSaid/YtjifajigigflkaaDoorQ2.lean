/- Has, With, Union, Common, Minus, Compare, Within, Meets. -/
import Derived.Test.YtjifajigigflkaaDoorQ1
import Derived.Lib.Hide
/- Package bits: With, Without, Has, Union, Common, Minus. -/
namespace Go.Proofs.YtjifajigigflkaaDoor
set_option linter.unusedSimpArgs false
set_option linter.unusedVariables false
open Go Go.RowKit
attribute [local go_sem] setV

theorem isMember_no (n : Int) (w : World) (h : n < 0 ∨ 255 < n) :
    Calls Tryd.prog 67 #[.int .i64 n] w fun e w' => e = .returned (.bool false) ∧ w = w' := by
  rcases h with h | h
  · go_enter Tryd.func67, Tryd.ntmps67
    go_wp2
    go_ret
    exact ⟨rfl, rfl⟩
  · have h0 : 0 ≤ n := by omega
    go_enter Tryd.func67, Tryd.ntmps67
    go_wp2
    go_ret
    exact ⟨by simp; omega, rfl⟩

theorem has_in (N m : Nat) (w : World) (hm : m < 256) :
    Calls Tryd.prog 27 #[setV N, .int .i64 m] w fun e w' => e = .returned (.bool (N.testBit m)) ∧ Below w.heap.size w w' := by
  have hs := setL_get N (m/64) (by omega)
  have hb := has_bit N m
  go_enter Tryd.func27, Tryd.ntmps27
  simp only [setV]
  go_wp2_with (first | (go_at_call 67; refine (isMember_yes _ _ (by omega) (by omega)).mono ?_; rintro e w' ⟨rfl, rfl⟩) )
  go_ret
  exact ⟨by simp only [Array.getD_eq_getD_getElem?]; simp, (Below.refl _ _).alloc (Nat.le_refl _) _⟩
theorem has_out (N : Nat) (n : Int) (w : World) (h : n < 0 ∨ 255 < n) :
    Calls Tryd.prog 27 #[setV N, .int .i64 n] w fun e w' => e = .returned (.bool false) ∧ Below w.heap.size w w' := by
  go_enter Tryd.func27, Tryd.ntmps27
  simp only [setV]
  go_wp2_with (first | (go_at_call 67; refine (isMember_no _ _ h).mono ?_; rintro e w' ⟨rfl, rfl⟩) )
  go_ret
  exact ⟨rfl, (Below.refl _ _).alloc (Nat.le_refl _) _⟩

set_option maxRecDepth 100000 in
theorem with_in (N m : Nat) (w : World) (hm : m < 256) :
    Calls Tryd.prog 19 #[setV N, .int .i64 m] w fun e w' => e = .returned (.tuple #[setV (N ||| 2^m), .int .i64 0]) ∧ Below w.heap.size w w' := by
  have hs := setL_get N (m/64) (by omega)
  have hset := setL_with N m hm
  go_enter Tryd.func19, Tryd.ntmps19
  simp only [setV]
  go_wp2_with (first | (go_at_call 67; refine (isMember_yes _ _ (by omega) (by omega)).mono ?_; rintro e w' ⟨rfl, rfl⟩) )
  refine wp_region_same 9 20 [0, 1, 2, 3, 4, 5, 6, 7, 8] (by kernel_rfl) (by kernel_rfl) (by kernel_rfl) (by kernel_rfl) (by rfl) ?_
  (refine same_step rfl (by rfl) (by rfl) rfl (Nat.le_of_ble_eq_true rfl) ?_; apply Exists.intro; refine ⟨fun N hN => ?_, ?_⟩; (next => (go_wp2; all_goals rfl)); try simp only [Act.put, slotL_succ, slotL_zero, List.setIfInBounds_toArray, List.set_cons_zero, List.set_cons_succ])
  (refine same_step rfl (by rfl) (by rfl) rfl (Nat.le_of_ble_eq_true rfl) ?_; apply Exists.intro; refine ⟨fun N hN => ?_, ?_⟩; (next => (go_wp2; all_goals rfl)); try simp only [Act.put, slotL_succ, slotL_zero, List.setIfInBounds_toArray, List.set_cons_zero, List.set_cons_succ])
  (refine same_step rfl (by rfl) (by rfl) rfl (Nat.le_of_ble_eq_true rfl) ?_; apply Exists.intro; refine ⟨fun N hN => ?_, ?_⟩; (next => (go_wp2; all_goals rfl)); try simp only [Act.put, slotL_succ, slotL_zero, List.setIfInBounds_toArray, List.set_cons_zero, List.set_cons_succ])
  (refine same_step rfl (by rfl) (by rfl) rfl (Nat.le_of_ble_eq_true rfl) ?_; apply Exists.intro; refine ⟨fun N hN => ?_, ?_⟩; (next => (go_wp2; all_goals rfl)); try simp only [Act.put, slotL_succ, slotL_zero, List.setIfInBounds_toArray, List.set_cons_zero, List.set_cons_succ])
  (refine same_step rfl (by rfl) (by rfl) rfl (Nat.le_of_ble_eq_true rfl) ?_; apply Exists.intro; refine ⟨fun N hN => ?_, ?_⟩; (next => (go_wp2; all_goals rfl)); try simp only [Act.put, slotL_succ, slotL_zero, List.setIfInBounds_toArray, List.set_cons_zero, List.set_cons_succ])
  (refine same_step rfl (by rfl) (by rfl) rfl (Nat.le_of_ble_eq_true rfl) ?_; apply Exists.intro; refine ⟨fun N hN => ?_, ?_⟩; (next => (go_wp2; all_goals rfl)); try simp only [Act.put, slotL_succ, slotL_zero, List.setIfInBounds_toArray, List.set_cons_zero, List.set_cons_succ])
  (refine same_step rfl (by rfl) (by rfl) rfl (Nat.le_of_ble_eq_true rfl) ?_; apply Exists.intro; refine ⟨fun N hN => ?_, ?_⟩; (next => (go_wp2; all_goals rfl)); try simp only [Act.put, slotL_succ, slotL_zero, List.setIfInBounds_toArray, List.set_cons_zero, List.set_cons_succ])
  (refine same_step rfl (by rfl) (by rfl) rfl (Nat.le_of_ble_eq_true rfl) ?_; apply Exists.intro; refine ⟨fun N hN => ?_, ?_⟩; (next => (go_wp2; all_goals rfl)); try simp only [Act.put, slotL_succ, slotL_zero, List.setIfInBounds_toArray, List.set_cons_zero, List.set_cons_succ])
  (refine same_step rfl (by rfl) (by rfl) rfl (Nat.le_of_ble_eq_true rfl) ?_; apply Exists.intro; refine ⟨fun N hN => ?_, ?_⟩; (next => (go_wp2; all_goals rfl)); try simp only [Act.put, slotL_succ, slotL_zero, List.setIfInBounds_toArray, List.set_cons_zero, List.set_cons_succ])
  refine wpC_nil ?_
  simp only [List.drop_succ_cons, List.drop_zero, List.drop_nil]
  go_wp2
  refine bodyPost_ret (v := .tuple #[setV (N ||| 2^m), .int .i64 0]) (by simp [results, Tryd.results19, go_sem]) rfl ⟨rfl, ?_⟩
  exact (((Below.refl _ _).alloc (Nat.le_refl _) _).alloc (by simp) _).drew
theorem with_out (N : Nat) (n : Int) (w : World) (h : n < 0 ∨ 255 < n) :
    Calls Tryd.prog 19 #[setV N, .int .i64 n] w fun e w' => e = .returned (.tuple #[setV 0, .int .i64 1]) ∧ Below w.heap.size w w' := by
  go_enter Tryd.func19, Tryd.ntmps19
  simp only [setV]
  go_wp2_with (first | (go_at_call 67; refine (isMember_no _ _ h).mono ?_; rintro e w' ⟨rfl, rfl⟩) )
  refine bodyPost_ret (v := .tuple #[setV 0, .int .i64 1]) (by simp [results, Tryd.results19, go_sem, word_zero]) rfl ⟨rfl, ?_⟩
  exact (((Below.refl _ _).alloc (Nat.le_refl _) _).alloc (by simp) _)

set_option maxRecDepth 100000 in
theorem without_in (N m : Nat) (w : World) (hm : m < 256) :
    Calls Tryd.prog 29 #[setV N, .int .i64 m] w fun e w' => e = .returned (setV (diff N (2^m))) ∧ Below w.heap.size w w' := by
  have hs := setL_get N (m/64) (by omega)
  have hset := setL_without N m hm
  go_enter Tryd.func29, Tryd.ntmps29
  simp only [setV]
  go_wp2_with (first | (go_at_call 67; refine (isMember_yes _ _ (by omega) (by omega)).mono ?_; rintro e w' ⟨rfl, rfl⟩) )
  refine wp_region_same 9 17 [0, 1, 2, 3, 4, 5, 6, 7, 8] (by kernel_rfl) (by kernel_rfl) (by kernel_rfl) (by kernel_rfl) (by rfl) ?_
  (refine same_step rfl (by rfl) (by rfl) rfl (Nat.le_of_ble_eq_true rfl) ?_; apply Exists.intro; refine ⟨fun N hN => ?_, ?_⟩; (next => (go_wp2; all_goals rfl)); try simp only [Act.put, slotL_succ, slotL_zero, List.setIfInBounds_toArray, List.set_cons_zero, List.set_cons_succ])
  (refine same_step rfl (by rfl) (by rfl) rfl (Nat.le_of_ble_eq_true rfl) ?_; apply Exists.intro; refine ⟨fun N hN => ?_, ?_⟩; (next => (go_wp2; all_goals rfl)); try simp only [Act.put, slotL_succ, slotL_zero, List.setIfInBounds_toArray, List.set_cons_zero, List.set_cons_succ])
  (refine same_step rfl (by rfl) (by rfl) rfl (Nat.le_of_ble_eq_true rfl) ?_; apply Exists.intro; refine ⟨fun N hN => ?_, ?_⟩; (next => (go_wp2; all_goals rfl)); try simp only [Act.put, slotL_succ, slotL_zero, List.setIfInBounds_toArray, List.set_cons_zero, List.set_cons_succ])
  (refine same_step rfl (by rfl) (by rfl) rfl (Nat.le_of_ble_eq_true rfl) ?_; apply Exists.intro; refine ⟨fun N hN => ?_, ?_⟩; (next => (go_wp2; all_goals rfl)); try simp only [Act.put, slotL_succ, slotL_zero, List.setIfInBounds_toArray, List.set_cons_zero, List.set_cons_succ])
  (refine same_step rfl (by rfl) (by rfl) rfl (Nat.le_of_ble_eq_true rfl) ?_; apply Exists.intro; refine ⟨fun N hN => ?_, ?_⟩; (next => (go_wp2; all_goals rfl)); try simp only [Act.put, slotL_succ, slotL_zero, List.setIfInBounds_toArray, List.set_cons_zero, List.set_cons_succ])
  (refine same_step rfl (by rfl) (by rfl) rfl (Nat.le_of_ble_eq_true rfl) ?_; apply Exists.intro; refine ⟨fun N hN => ?_, ?_⟩; (next => (go_wp2; all_goals rfl)); try simp only [Act.put, slotL_succ, slotL_zero, List.setIfInBounds_toArray, List.set_cons_zero, List.set_cons_succ])
  (refine same_step rfl (by rfl) (by rfl) rfl (Nat.le_of_ble_eq_true rfl) ?_; apply Exists.intro; refine ⟨fun N hN => ?_, ?_⟩; (next => (go_wp2; all_goals rfl)); try simp only [Act.put, slotL_succ, slotL_zero, List.setIfInBounds_toArray, List.set_cons_zero, List.set_cons_succ])
  (refine same_step rfl (by rfl) (by rfl) rfl (Nat.le_of_ble_eq_true rfl) ?_; apply Exists.intro; refine ⟨fun N hN => ?_, ?_⟩; (next => (go_wp2; all_goals rfl)); try simp only [Act.put, slotL_succ, slotL_zero, List.setIfInBounds_toArray, List.set_cons_zero, List.set_cons_succ])
  (refine same_step rfl (by rfl) (by rfl) rfl (Nat.le_of_ble_eq_true rfl) ?_; apply Exists.intro; refine ⟨fun N hN => ?_, ?_⟩; (next => (go_wp2; all_goals rfl)); try simp only [Act.put, slotL_succ, slotL_zero, List.setIfInBounds_toArray, List.set_cons_zero, List.set_cons_succ])
  refine wpC_nil ?_
  simp only [List.drop_succ_cons, List.drop_zero, List.drop_nil]
  go_wp2
  refine bodyPost_ret (v := setV (diff N (2^m))) (by simp [results, Tryd.results29, go_sem]) rfl ⟨rfl, ?_⟩
  exact (((Below.refl _ _).alloc (Nat.le_refl _) _).alloc (by simp) _).drew
theorem without_out (N : Nat) (n : Int) (w : World) (h : n < 0 ∨ 255 < n) :
    Calls Tryd.prog 29 #[setV N, .int .i64 n] w fun e w' => e = .returned (setV N) ∧ Below w.heap.size w w' := by
  go_enter Tryd.func29, Tryd.ntmps29
  simp only [setV]
  go_wp2_with (first | (go_at_call 67; refine (isMember_no _ _ h).mono ?_; rintro e w' ⟨rfl, rfl⟩) )
  refine bodyPost_ret (v := setV N) (by simp [results, Tryd.results29, go_sem]) rfl ⟨rfl, ?_⟩
  exact (((Below.refl _ _).alloc (Nat.le_refl _) _).alloc (by simp) _)
end Go.Proofs.YtjifajigigflkaaDoor
/- Package bits: Union, Common, Minus: the loop over the four words, round by round. -/
namespace Go.Proofs.YtjifajigigflkaaDoor
set_option linter.unusedSimpArgs false
set_option linter.unusedVariables false
open Go Go.RowKit
attribute [local go_sem] setV

set_option maxRecDepth 100000 in
set_option maxHeartbeats 1000000 in
theorem union_any (N M : Nat) (w : World) :
    Calls Tryd.prog 31 #[setV N, setV M] w fun e w' => e = .returned (setV (N ||| M)) ∧ Below w.heap.size w w' := by
  have e0 : bits .or .u64 (word N 0) (word M 0) = (word (N ||| M) 0 : Int) := by rw [bits_or_u64_nat _ _ (word_lt _ _) (word_lt _ _), word_or]
  have e1 : bits .or .u64 (word N 1) (word M 1) = (word (N ||| M) 1 : Int) := by rw [bits_or_u64_nat _ _ (word_lt _ _) (word_lt _ _), word_or]
  have e2 : bits .or .u64 (word N 2) (word M 2) = (word (N ||| M) 2 : Int) := by rw [bits_or_u64_nat _ _ (word_lt _ _) (word_lt _ _), word_or]
  have e3 : bits .or .u64 (word N 3) (word M 3) = (word (N ||| M) 3 : Int) := by rw [bits_or_u64_nat _ _ (word_lt _ _) (word_lt _ _), word_or]
  go_enter Tryd.func31, Tryd.ntmps31
  simp only [setV]
  go_wp2
  refine wp_loop_rounds 5 ?_
  rw [rounds_succ]
  go_wp2
  refine wp_region_same 8 19 [0, 1, 2, 3, 4, 5, 6, 7] (by kernel_rfl) (by kernel_rfl) (by kernel_rfl) (by kernel_rfl) (by rfl) ?_
  (refine same_step rfl (by rfl) (by rfl) rfl (Nat.le_of_ble_eq_true rfl) ?_; apply Exists.intro; refine ⟨fun N hN => ?_, ?_⟩; (next => (go_wp2; all_goals rfl)); try simp only [Act.put, slotL_succ, slotL_zero, List.setIfInBounds_toArray, List.set_cons_zero, List.set_cons_succ])
  (refine same_step rfl (by rfl) (by rfl) rfl (Nat.le_of_ble_eq_true rfl) ?_; apply Exists.intro; refine ⟨fun N hN => ?_, ?_⟩; (next => (go_wp2; all_goals rfl)); try simp only [Act.put, slotL_succ, slotL_zero, List.setIfInBounds_toArray, List.set_cons_zero, List.set_cons_succ])
  (refine same_step rfl (by rfl) (by rfl) rfl (Nat.le_of_ble_eq_true rfl) ?_; apply Exists.intro; refine ⟨fun N hN => ?_, ?_⟩; (next => (go_wp2; all_goals rfl)); try simp only [Act.put, slotL_succ, slotL_zero, List.setIfInBounds_toArray, List.set_cons_zero, List.set_cons_succ])
  (refine same_step rfl (by rfl) (by rfl) rfl (Nat.le_of_ble_eq_true rfl) ?_; apply Exists.intro; refine ⟨fun N hN => ?_, ?_⟩; (next => (go_wp2; all_goals rfl)); try simp only [Act.put, slotL_succ, slotL_zero, List.setIfInBounds_toArray, List.set_cons_zero, List.set_cons_succ])
  (refine same_step rfl (by rfl) (by rfl) rfl (Nat.le_of_ble_eq_true rfl) ?_; apply Exists.intro; refine ⟨fun N hN => ?_, ?_⟩; (next => (go_wp2; all_goals rfl)); try simp only [Act.put, slotL_succ, slotL_zero, List.setIfInBounds_toArray, List.set_cons_zero, List.set_cons_succ])
  (refine same_step rfl (by rfl) (by rfl) rfl (Nat.le_of_ble_eq_true rfl) ?_; apply Exists.intro; refine ⟨fun N hN => ?_, ?_⟩; (next => (go_wp2; all_goals rfl)); try simp only [Act.put, slotL_succ, slotL_zero, List.setIfInBounds_toArray, List.set_cons_zero, List.set_cons_succ])
  (refine same_step rfl (by rfl) (by rfl) rfl (Nat.le_of_ble_eq_true rfl) ?_; apply Exists.intro; refine ⟨fun N hN => ?_, ?_⟩; (next => (go_wp2; all_goals rfl)); try simp only [Act.put, slotL_succ, slotL_zero, List.setIfInBounds_toArray, List.set_cons_zero, List.set_cons_succ])
  (refine same_step rfl (by rfl) (by rfl) rfl (Nat.le_of_ble_eq_true rfl) ?_; apply Exists.intro; refine ⟨fun N hN => ?_, ?_⟩; (next => (go_wp2; all_goals rfl)); try simp only [Act.put, slotL_succ, slotL_zero, List.setIfInBounds_toArray, List.set_cons_zero, List.set_cons_succ])
  refine wpC_nil ?_
  simp only [List.drop_succ_cons, List.drop_zero, List.drop_nil]
  go_wp2
  rw [rounds_succ]
  go_wp2
  refine wp_region_same 8 19 [0, 1, 2, 3, 4, 5, 6, 7] (by kernel_rfl) (by kernel_rfl) (by kernel_rfl) (by kernel_rfl) (by rfl) ?_
  (refine same_step rfl (by rfl) (by rfl) rfl (Nat.le_of_ble_eq_true rfl) ?_; apply Exists.intro; refine ⟨fun N hN => ?_, ?_⟩; (next => (go_wp2; all_goals rfl)); try simp only [Act.put, slotL_succ, slotL_zero, List.setIfInBounds_toArray, List.set_cons_zero, List.set_cons_succ])
  (refine same_step rfl (by rfl) (by rfl) rfl (Nat.le_of_ble_eq_true rfl) ?_; apply Exists.intro; refine ⟨fun N hN => ?_, ?_⟩; (next => (go_wp2; all_goals rfl)); try simp only [Act.put, slotL_succ, slotL_zero, List.setIfInBounds_toArray, List.set_cons_zero, List.set_cons_succ])
  (refine same_step rfl (by rfl) (by rfl) rfl (Nat.le_of_ble_eq_true rfl) ?_; apply Exists.intro; refine ⟨fun N hN => ?_, ?_⟩; (next => (go_wp2; all_goals rfl)); try simp only [Act.put, slotL_succ, slotL_zero, List.setIfInBounds_toArray, List.set_cons_zero, List.set_cons_succ])
  (refine same_step rfl (by rfl) (by rfl) rfl (Nat.le_of_ble_eq_true rfl) ?_; apply Exists.intro; refine ⟨fun N hN => ?_, ?_⟩; (next => (go_wp2; all_goals rfl)); try simp only [Act.put, slotL_succ, slotL_zero, List.setIfInBounds_toArray, List.set_cons_zero, List.set_cons_succ])
  (refine same_step rfl (by rfl) (by rfl) rfl (Nat.le_of_ble_eq_true rfl) ?_; apply Exists.intro; refine ⟨fun N hN => ?_, ?_⟩; (next => (go_wp2; all_goals rfl)); try simp only [Act.put, slotL_succ, slotL_zero, List.setIfInBounds_toArray, List.set_cons_zero, List.set_cons_succ])
  (refine same_step rfl (by rfl) (by rfl) rfl (Nat.le_of_ble_eq_true rfl) ?_; apply Exists.intro; refine ⟨fun N hN => ?_, ?_⟩; (next => (go_wp2; all_goals rfl)); try simp only [Act.put, slotL_succ, slotL_zero, List.setIfInBounds_toArray, List.set_cons_zero, List.set_cons_succ])
  (refine same_step rfl (by rfl) (by rfl) rfl (Nat.le_of_ble_eq_true rfl) ?_; apply Exists.intro; refine ⟨fun N hN => ?_, ?_⟩; (next => (go_wp2; all_goals rfl)); try simp only [Act.put, slotL_succ, slotL_zero, List.setIfInBounds_toArray, List.set_cons_zero, List.set_cons_succ])
  (refine same_step rfl (by rfl) (by rfl) rfl (Nat.le_of_ble_eq_true rfl) ?_; apply Exists.intro; refine ⟨fun N hN => ?_, ?_⟩; (next => (go_wp2; all_goals rfl)); try simp only [Act.put, slotL_succ, slotL_zero, List.setIfInBounds_toArray, List.set_cons_zero, List.set_cons_succ])
  refine wpC_nil ?_
  simp only [List.drop_succ_cons, List.drop_zero, List.drop_nil]
  go_wp2
  rw [rounds_succ]
  go_wp2
  refine wp_region_same 8 19 [0, 1, 2, 3, 4, 5, 6, 7] (by kernel_rfl) (by kernel_rfl) (by kernel_rfl) (by kernel_rfl) (by rfl) ?_
  (refine same_step rfl (by rfl) (by rfl) rfl (Nat.le_of_ble_eq_true rfl) ?_; apply Exists.intro; refine ⟨fun N hN => ?_, ?_⟩; (next => (go_wp2; all_goals rfl)); try simp only [Act.put, slotL_succ, slotL_zero, List.setIfInBounds_toArray, List.set_cons_zero, List.set_cons_succ])
  (refine same_step rfl (by rfl) (by rfl) rfl (Nat.le_of_ble_eq_true rfl) ?_; apply Exists.intro; refine ⟨fun N hN => ?_, ?_⟩; (next => (go_wp2; all_goals rfl)); try simp only [Act.put, slotL_succ, slotL_zero, List.setIfInBounds_toArray, List.set_cons_zero, List.set_cons_succ])
  (refine same_step rfl (by rfl) (by rfl) rfl (Nat.le_of_ble_eq_true rfl) ?_; apply Exists.intro; refine ⟨fun N hN => ?_, ?_⟩; (next => (go_wp2; all_goals rfl)); try simp only [Act.put, slotL_succ, slotL_zero, List.setIfInBounds_toArray, List.set_cons_zero, List.set_cons_succ])
  (refine same_step rfl (by rfl) (by rfl) rfl (Nat.le_of_ble_eq_true rfl) ?_; apply Exists.intro; refine ⟨fun N hN => ?_, ?_⟩; (next => (go_wp2; all_goals rfl)); try simp only [Act.put, slotL_succ, slotL_zero, List.setIfInBounds_toArray, List.set_cons_zero, List.set_cons_succ])
  (refine same_step rfl (by rfl) (by rfl) rfl (Nat.le_of_ble_eq_true rfl) ?_; apply Exists.intro; refine ⟨fun N hN => ?_, ?_⟩; (next => (go_wp2; all_goals rfl)); try simp only [Act.put, slotL_succ, slotL_zero, List.setIfInBounds_toArray, List.set_cons_zero, List.set_cons_succ])
  (refine same_step rfl (by rfl) (by rfl) rfl (Nat.le_of_ble_eq_true rfl) ?_; apply Exists.intro; refine ⟨fun N hN => ?_, ?_⟩; (next => (go_wp2; all_goals rfl)); try simp only [Act.put, slotL_succ, slotL_zero, List.setIfInBounds_toArray, List.set_cons_zero, List.set_cons_succ])
  (refine same_step rfl (by rfl) (by rfl) rfl (Nat.le_of_ble_eq_true rfl) ?_; apply Exists.intro; refine ⟨fun N hN => ?_, ?_⟩; (next => (go_wp2; all_goals rfl)); try simp only [Act.put, slotL_succ, slotL_zero, List.setIfInBounds_toArray, List.set_cons_zero, List.set_cons_succ])
  (refine same_step rfl (by rfl) (by rfl) rfl (Nat.le_of_ble_eq_true rfl) ?_; apply Exists.intro; refine ⟨fun N hN => ?_, ?_⟩; (next => (go_wp2; all_goals rfl)); try simp only [Act.put, slotL_succ, slotL_zero, List.setIfInBounds_toArray, List.set_cons_zero, List.set_cons_succ])
  refine wpC_nil ?_
  simp only [List.drop_succ_cons, List.drop_zero, List.drop_nil]
  go_wp2
  rw [rounds_succ]
  go_wp2
  refine wp_region_same 8 19 [0, 1, 2, 3, 4, 5, 6, 7] (by kernel_rfl) (by kernel_rfl) (by kernel_rfl) (by kernel_rfl) (by rfl) ?_
  (refine same_step rfl (by rfl) (by rfl) rfl (Nat.le_of_ble_eq_true rfl) ?_; apply Exists.intro; refine ⟨fun N hN => ?_, ?_⟩; (next => (go_wp2; all_goals rfl)); try simp only [Act.put, slotL_succ, slotL_zero, List.setIfInBounds_toArray, List.set_cons_zero, List.set_cons_succ])
  (refine same_step rfl (by rfl) (by rfl) rfl (Nat.le_of_ble_eq_true rfl) ?_; apply Exists.intro; refine ⟨fun N hN => ?_, ?_⟩; (next => (go_wp2; all_goals rfl)); try simp only [Act.put, slotL_succ, slotL_zero, List.setIfInBounds_toArray, List.set_cons_zero, List.set_cons_succ])
  (refine same_step rfl (by rfl) (by rfl) rfl (Nat.le_of_ble_eq_true rfl) ?_; apply Exists.intro; refine ⟨fun N hN => ?_, ?_⟩; (next => (go_wp2; all_goals rfl)); try simp only [Act.put, slotL_succ, slotL_zero, List.setIfInBounds_toArray, List.set_cons_zero, List.set_cons_succ])
  (refine same_step rfl (by rfl) (by rfl) rfl (Nat.le_of_ble_eq_true rfl) ?_; apply Exists.intro; refine ⟨fun N hN => ?_, ?_⟩; (next => (go_wp2; all_goals rfl)); try simp only [Act.put, slotL_succ, slotL_zero, List.setIfInBounds_toArray, List.set_cons_zero, List.set_cons_succ])
  (refine same_step rfl (by rfl) (by rfl) rfl (Nat.le_of_ble_eq_true rfl) ?_; apply Exists.intro; refine ⟨fun N hN => ?_, ?_⟩; (next => (go_wp2; all_goals rfl)); try simp only [Act.put, slotL_succ, slotL_zero, List.setIfInBounds_toArray, List.set_cons_zero, List.set_cons_succ])
  (refine same_step rfl (by rfl) (by rfl) rfl (Nat.le_of_ble_eq_true rfl) ?_; apply Exists.intro; refine ⟨fun N hN => ?_, ?_⟩; (next => (go_wp2; all_goals rfl)); try simp only [Act.put, slotL_succ, slotL_zero, List.setIfInBounds_toArray, List.set_cons_zero, List.set_cons_succ])
  (refine same_step rfl (by rfl) (by rfl) rfl (Nat.le_of_ble_eq_true rfl) ?_; apply Exists.intro; refine ⟨fun N hN => ?_, ?_⟩; (next => (go_wp2; all_goals rfl)); try simp only [Act.put, slotL_succ, slotL_zero, List.setIfInBounds_toArray, List.set_cons_zero, List.set_cons_succ])
  (refine same_step rfl (by rfl) (by rfl) rfl (Nat.le_of_ble_eq_true rfl) ?_; apply Exists.intro; refine ⟨fun N hN => ?_, ?_⟩; (next => (go_wp2; all_goals rfl)); try simp only [Act.put, slotL_succ, slotL_zero, List.setIfInBounds_toArray, List.set_cons_zero, List.set_cons_succ])
  refine wpC_nil ?_
  simp only [List.drop_succ_cons, List.drop_zero, List.drop_nil]
  go_wp2
  rw [rounds_succ]
  go_wp2
  refine bodyPost_ret (v := setV (N ||| M)) (by simp [results, Tryd.results31, go_sem]) rfl ⟨rfl, ?_⟩
  exact ((((Below.refl _ _).alloc (Nat.le_refl _) _).alloc (by simp) _).alloc (by simp; omega) _).drew.drew.drew.drew

set_option maxRecDepth 100000 in
set_option maxHeartbeats 1000000 in
theorem common_any (N M : Nat) (w : World) :
    Calls Tryd.prog 33 #[setV N, setV M] w fun e w' => e = .returned (setV (N &&& M)) ∧ Below w.heap.size w w' := by
  have e0 : bits .and .u64 (word N 0) (word M 0) = (word (N &&& M) 0 : Int) := by rw [bits_and_u64_nat _ _ (word_lt _ _) (word_lt _ _), word_and]
  have e1 : bits .and .u64 (word N 1) (word M 1) = (word (N &&& M) 1 : Int) := by rw [bits_and_u64_nat _ _ (word_lt _ _) (word_lt _ _), word_and]
  have e2 : bits .and .u64 (word N 2) (word M 2) = (word (N &&& M) 2 : Int) := by rw [bits_and_u64_nat _ _ (word_lt _ _) (word_lt _ _), word_and]
  have e3 : bits .and .u64 (word N 3) (word M 3) = (word (N &&& M) 3 : Int) := by rw [bits_and_u64_nat _ _ (word_lt _ _) (word_lt _ _), word_and]
  go_enter Tryd.func33, Tryd.ntmps33
  simp only [setV]
  go_wp2
  refine wp_loop_rounds 5 ?_
  rw [rounds_succ]
  go_wp2
  refine wp_region_same 8 19 [0, 1, 2, 3, 4, 5, 6, 7] (by kernel_rfl) (by kernel_rfl) (by kernel_rfl) (by kernel_rfl) (by rfl) ?_
  (refine same_step rfl (by rfl) (by rfl) rfl (Nat.le_of_ble_eq_true rfl) ?_; apply Exists.intro; refine ⟨fun N hN => ?_, ?_⟩; (next => (go_wp2; all_goals rfl)); try simp only [Act.put, slotL_succ, slotL_zero, List.setIfInBounds_toArray, List.set_cons_zero, List.set_cons_succ])
  (refine same_step rfl (by rfl) (by rfl) rfl (Nat.le_of_ble_eq_true rfl) ?_; apply Exists.intro; refine ⟨fun N hN => ?_, ?_⟩; (next => (go_wp2; all_goals rfl)); try simp only [Act.put, slotL_succ, slotL_zero, List.setIfInBounds_toArray, List.set_cons_zero, List.set_cons_succ])
  (refine same_step rfl (by rfl) (by rfl) rfl (Nat.le_of_ble_eq_true rfl) ?_; apply Exists.intro; refine ⟨fun N hN => ?_, ?_⟩; (next => (go_wp2; all_goals rfl)); try simp only [Act.put, slotL_succ, slotL_zero, List.setIfInBounds_toArray, List.set_cons_zero, List.set_cons_succ])
  (refine same_step rfl (by rfl) (by rfl) rfl (Nat.le_of_ble_eq_true rfl) ?_; apply Exists.intro; refine ⟨fun N hN => ?_, ?_⟩; (next => (go_wp2; all_goals rfl)); try simp only [Act.put, slotL_succ, slotL_zero, List.setIfInBounds_toArray, List.set_cons_zero, List.set_cons_succ])
  (refine same_step rfl (by rfl) (by rfl) rfl (Nat.le_of_ble_eq_true rfl) ?_; apply Exists.intro; refine ⟨fun N hN => ?_, ?_⟩; (next => (go_wp2; all_goals rfl)); try simp only [Act.put, slotL_succ, slotL_zero, List.setIfInBounds_toArray, List.set_cons_zero, List.set_cons_succ])
  (refine same_step rfl (by rfl) (by rfl) rfl (Nat.le_of_ble_eq_true rfl) ?_; apply Exists.intro; refine ⟨fun N hN => ?_, ?_⟩; (next => (go_wp2; all_goals rfl)); try simp only [Act.put, slotL_succ, slotL_zero, List.setIfInBounds_toArray, List.set_cons_zero, List.set_cons_succ])
  (refine same_step rfl (by rfl) (by rfl) rfl (Nat.le_of_ble_eq_true rfl) ?_; apply Exists.intro; refine ⟨fun N hN => ?_, ?_⟩; (next => (go_wp2; all_goals rfl)); try simp only [Act.put, slotL_succ, slotL_zero, List.setIfInBounds_toArray, List.set_cons_zero, List.set_cons_succ])
  (refine same_step rfl (by rfl) (by rfl) rfl (Nat.le_of_ble_eq_true rfl) ?_; apply Exists.intro; refine ⟨fun N hN => ?_, ?_⟩; (next => (go_wp2; all_goals rfl)); try simp only [Act.put, slotL_succ, slotL_zero, List.setIfInBounds_toArray, List.set_cons_zero, List.set_cons_succ])
  refine wpC_nil ?_
  simp only [List.drop_succ_cons, List.drop_zero, List.drop_nil]
  go_wp2
  rw [rounds_succ]
  go_wp2
  refine wp_region_same 8 19 [0, 1, 2, 3, 4, 5, 6, 7] (by kernel_rfl) (by kernel_rfl) (by kernel_rfl) (by kernel_rfl) (by rfl) ?_
  (refine same_step rfl (by rfl) (by rfl) rfl (Nat.le_of_ble_eq_true rfl) ?_; apply Exists.intro; refine ⟨fun N hN => ?_, ?_⟩; (next => (go_wp2; all_goals rfl)); try simp only [Act.put, slotL_succ, slotL_zero, List.setIfInBounds_toArray, List.set_cons_zero, List.set_cons_succ])
  (refine same_step rfl (by rfl) (by rfl) rfl (Nat.le_of_ble_eq_true rfl) ?_; apply Exists.intro; refine ⟨fun N hN => ?_, ?_⟩; (next => (go_wp2; all_goals rfl)); try simp only [Act.put, slotL_succ, slotL_zero, List.setIfInBounds_toArray, List.set_cons_zero, List.set_cons_succ])
  (refine same_step rfl (by rfl) (by rfl) rfl (Nat.le_of_ble_eq_true rfl) ?_; apply Exists.intro; refine ⟨fun N hN => ?_, ?_⟩; (next => (go_wp2; all_goals rfl)); try simp only [Act.put, slotL_succ, slotL_zero, List.setIfInBounds_toArray, List.set_cons_zero, List.set_cons_succ])
  (refine same_step rfl (by rfl) (by rfl) rfl (Nat.le_of_ble_eq_true rfl) ?_; apply Exists.intro; refine ⟨fun N hN => ?_, ?_⟩; (next => (go_wp2; all_goals rfl)); try simp only [Act.put, slotL_succ, slotL_zero, List.setIfInBounds_toArray, List.set_cons_zero, List.set_cons_succ])
  (refine same_step rfl (by rfl) (by rfl) rfl (Nat.le_of_ble_eq_true rfl) ?_; apply Exists.intro; refine ⟨fun N hN => ?_, ?_⟩; (next => (go_wp2; all_goals rfl)); try simp only [Act.put, slotL_succ, slotL_zero, List.setIfInBounds_toArray, List.set_cons_zero, List.set_cons_succ])
  (refine same_step rfl (by rfl) (by rfl) rfl (Nat.le_of_ble_eq_true rfl) ?_; apply Exists.intro; refine ⟨fun N hN => ?_, ?_⟩; (next => (go_wp2; all_goals rfl)); try simp only [Act.put, slotL_succ, slotL_zero, List.setIfInBounds_toArray, List.set_cons_zero, List.set_cons_succ])
  (refine same_step rfl (by rfl) (by rfl) rfl (Nat.le_of_ble_eq_true rfl) ?_; apply Exists.intro; refine ⟨fun N hN => ?_, ?_⟩; (next => (go_wp2; all_goals rfl)); try simp only [Act.put, slotL_succ, slotL_zero, List.setIfInBounds_toArray, List.set_cons_zero, List.set_cons_succ])
  (refine same_step rfl (by rfl) (by rfl) rfl (Nat.le_of_ble_eq_true rfl) ?_; apply Exists.intro; refine ⟨fun N hN => ?_, ?_⟩; (next => (go_wp2; all_goals rfl)); try simp only [Act.put, slotL_succ, slotL_zero, List.setIfInBounds_toArray, List.set_cons_zero, List.set_cons_succ])
  refine wpC_nil ?_
  simp only [List.drop_succ_cons, List.drop_zero, List.drop_nil]
  go_wp2
  rw [rounds_succ]
  go_wp2
  refine wp_region_same 8 19 [0, 1, 2, 3, 4, 5, 6, 7] (by kernel_rfl) (by kernel_rfl) (by kernel_rfl) (by kernel_rfl) (by rfl) ?_
  (refine same_step rfl (by rfl) (by rfl) rfl (Nat.le_of_ble_eq_true rfl) ?_; apply Exists.intro; refine ⟨fun N hN => ?_, ?_⟩; (next => (go_wp2; all_goals rfl)); try simp only [Act.put, slotL_succ, slotL_zero, List.setIfInBounds_toArray, List.set_cons_zero, List.set_cons_succ])
  (refine same_step rfl (by rfl) (by rfl) rfl (Nat.le_of_ble_eq_true rfl) ?_; apply Exists.intro; refine ⟨fun N hN => ?_, ?_⟩; (next => (go_wp2; all_goals rfl)); try simp only [Act.put, slotL_succ, slotL_zero, List.setIfInBounds_toArray, List.set_cons_zero, List.set_cons_succ])
  (refine same_step rfl (by rfl) (by rfl) rfl (Nat.le_of_ble_eq_true rfl) ?_; apply Exists.intro; refine ⟨fun N hN => ?_, ?_⟩; (next => (go_wp2; all_goals rfl)); try simp only [Act.put, slotL_succ, slotL_zero, List.setIfInBounds_toArray, List.set_cons_zero, List.set_cons_succ])
  (refine same_step rfl (by rfl) (by rfl) rfl (Nat.le_of_ble_eq_true rfl) ?_; apply Exists.intro; refine ⟨fun N hN => ?_, ?_⟩; (next => (go_wp2; all_goals rfl)); try simp only [Act.put, slotL_succ, slotL_zero, List.setIfInBounds_toArray, List.set_cons_zero, List.set_cons_succ])
  (refine same_step rfl (by rfl) (by rfl) rfl (Nat.le_of_ble_eq_true rfl) ?_; apply Exists.intro; refine ⟨fun N hN => ?_, ?_⟩; (next => (go_wp2; all_goals rfl)); try simp only [Act.put, slotL_succ, slotL_zero, List.setIfInBounds_toArray, List.set_cons_zero, List.set_cons_succ])
  (refine same_step rfl (by rfl) (by rfl) rfl (Nat.le_of_ble_eq_true rfl) ?_; apply Exists.intro; refine ⟨fun N hN => ?_, ?_⟩; (next => (go_wp2; all_goals rfl)); try simp only [Act.put, slotL_succ, slotL_zero, List.setIfInBounds_toArray, List.set_cons_zero, List.set_cons_succ])
  (refine same_step rfl (by rfl) (by rfl) rfl (Nat.le_of_ble_eq_true rfl) ?_; apply Exists.intro; refine ⟨fun N hN => ?_, ?_⟩; (next => (go_wp2; all_goals rfl)); try simp only [Act.put, slotL_succ, slotL_zero, List.setIfInBounds_toArray, List.set_cons_zero, List.set_cons_succ])
  (refine same_step rfl (by rfl) (by rfl) rfl (Nat.le_of_ble_eq_true rfl) ?_; apply Exists.intro; refine ⟨fun N hN => ?_, ?_⟩; (next => (go_wp2; all_goals rfl)); try simp only [Act.put, slotL_succ, slotL_zero, List.setIfInBounds_toArray, List.set_cons_zero, List.set_cons_succ])
  refine wpC_nil ?_
  simp only [List.drop_succ_cons, List.drop_zero, List.drop_nil]
  go_wp2
  rw [rounds_succ]
  go_wp2
  refine wp_region_same 8 19 [0, 1, 2, 3, 4, 5, 6, 7] (by kernel_rfl) (by kernel_rfl) (by kernel_rfl) (by kernel_rfl) (by rfl) ?_
  (refine same_step rfl (by rfl) (by rfl) rfl (Nat.le_of_ble_eq_true rfl) ?_; apply Exists.intro; refine ⟨fun N hN => ?_, ?_⟩; (next => (go_wp2; all_goals rfl)); try simp only [Act.put, slotL_succ, slotL_zero, List.setIfInBounds_toArray, List.set_cons_zero, List.set_cons_succ])
  (refine same_step rfl (by rfl) (by rfl) rfl (Nat.le_of_ble_eq_true rfl) ?_; apply Exists.intro; refine ⟨fun N hN => ?_, ?_⟩; (next => (go_wp2; all_goals rfl)); try simp only [Act.put, slotL_succ, slotL_zero, List.setIfInBounds_toArray, List.set_cons_zero, List.set_cons_succ])
  (refine same_step rfl (by rfl) (by rfl) rfl (Nat.le_of_ble_eq_true rfl) ?_; apply Exists.intro; refine ⟨fun N hN => ?_, ?_⟩; (next => (go_wp2; all_goals rfl)); try simp only [Act.put, slotL_succ, slotL_zero, List.setIfInBounds_toArray, List.set_cons_zero, List.set_cons_succ])
  (refine same_step rfl (by rfl) (by rfl) rfl (Nat.le_of_ble_eq_true rfl) ?_; apply Exists.intro; refine ⟨fun N hN => ?_, ?_⟩; (next => (go_wp2; all_goals rfl)); try simp only [Act.put, slotL_succ, slotL_zero, List.setIfInBounds_toArray, List.set_cons_zero, List.set_cons_succ])
  (refine same_step rfl (by rfl) (by rfl) rfl (Nat.le_of_ble_eq_true rfl) ?_; apply Exists.intro; refine ⟨fun N hN => ?_, ?_⟩; (next => (go_wp2; all_goals rfl)); try simp only [Act.put, slotL_succ, slotL_zero, List.setIfInBounds_toArray, List.set_cons_zero, List.set_cons_succ])
  (refine same_step rfl (by rfl) (by rfl) rfl (Nat.le_of_ble_eq_true rfl) ?_; apply Exists.intro; refine ⟨fun N hN => ?_, ?_⟩; (next => (go_wp2; all_goals rfl)); try simp only [Act.put, slotL_succ, slotL_zero, List.setIfInBounds_toArray, List.set_cons_zero, List.set_cons_succ])
  (refine same_step rfl (by rfl) (by rfl) rfl (Nat.le_of_ble_eq_true rfl) ?_; apply Exists.intro; refine ⟨fun N hN => ?_, ?_⟩; (next => (go_wp2; all_goals rfl)); try simp only [Act.put, slotL_succ, slotL_zero, List.setIfInBounds_toArray, List.set_cons_zero, List.set_cons_succ])
  (refine same_step rfl (by rfl) (by rfl) rfl (Nat.le_of_ble_eq_true rfl) ?_; apply Exists.intro; refine ⟨fun N hN => ?_, ?_⟩; (next => (go_wp2; all_goals rfl)); try simp only [Act.put, slotL_succ, slotL_zero, List.setIfInBounds_toArray, List.set_cons_zero, List.set_cons_succ])
  refine wpC_nil ?_
  simp only [List.drop_succ_cons, List.drop_zero, List.drop_nil]
  go_wp2
  rw [rounds_succ]
  go_wp2
  refine bodyPost_ret (v := setV (N &&& M)) (by simp [results, Tryd.results33, go_sem]) rfl ⟨rfl, ?_⟩
  exact ((((Below.refl _ _).alloc (Nat.le_refl _) _).alloc (by simp) _).alloc (by simp; omega) _).drew.drew.drew.drew

set_option maxRecDepth 100000 in
set_option maxHeartbeats 1000000 in
theorem minus_any (N M : Nat) (w : World) :
    Calls Tryd.prog 35 #[setV N, setV M] w fun e w' => e = .returned (setV (diff N M)) ∧ Below w.heap.size w w' := by
  have e0 : bits .andNot .u64 (word N 0) (word M 0) = (word (diff N M) 0 : Int) := by rw [bits_andNot_u64_nat _ _ (word_lt _ _) (word_lt _ _), word_diff]
  have e1 : bits .andNot .u64 (word N 1) (word M 1) = (word (diff N M) 1 : Int) := by rw [bits_andNot_u64_nat _ _ (word_lt _ _) (word_lt _ _), word_diff]
  have e2 : bits .andNot .u64 (word N 2) (word M 2) = (word (diff N M) 2 : Int) := by rw [bits_andNot_u64_nat _ _ (word_lt _ _) (word_lt _ _), word_diff]
  have e3 : bits .andNot .u64 (word N 3) (word M 3) = (word (diff N M) 3 : Int) := by rw [bits_andNot_u64_nat _ _ (word_lt _ _) (word_lt _ _), word_diff]
  go_enter Tryd.func35, Tryd.ntmps35
  simp only [setV]
  go_wp2
  refine wp_loop_rounds 5 ?_
  rw [rounds_succ]
  go_wp2
  refine wp_region_same 8 19 [0, 1, 2, 3, 4, 5, 6, 7] (by kernel_rfl) (by kernel_rfl) (by kernel_rfl) (by kernel_rfl) (by rfl) ?_
  (refine same_step rfl (by rfl) (by rfl) rfl (Nat.le_of_ble_eq_true rfl) ?_; apply Exists.intro; refine ⟨fun N hN => ?_, ?_⟩; (next => (go_wp2; all_goals rfl)); try simp only [Act.put, slotL_succ, slotL_zero, List.setIfInBounds_toArray, List.set_cons_zero, List.set_cons_succ])
  (refine same_step rfl (by rfl) (by rfl) rfl (Nat.le_of_ble_eq_true rfl) ?_; apply Exists.intro; refine ⟨fun N hN => ?_, ?_⟩; (next => (go_wp2; all_goals rfl)); try simp only [Act.put, slotL_succ, slotL_zero, List.setIfInBounds_toArray, List.set_cons_zero, List.set_cons_succ])
  (refine same_step rfl (by rfl) (by rfl) rfl (Nat.le_of_ble_eq_true rfl) ?_; apply Exists.intro; refine ⟨fun N hN => ?_, ?_⟩; (next => (go_wp2; all_goals rfl)); try simp only [Act.put, slotL_succ, slotL_zero, List.setIfInBounds_toArray, List.set_cons_zero, List.set_cons_succ])
  (refine same_step rfl (by rfl) (by rfl) rfl (Nat.le_of_ble_eq_true rfl) ?_; apply Exists.intro; refine ⟨fun N hN => ?_, ?_⟩; (next => (go_wp2; all_goals rfl)); try simp only [Act.put, slotL_succ, slotL_zero, List.setIfInBounds_toArray, List.set_cons_zero, List.set_cons_succ])
  (refine same_step rfl (by rfl) (by rfl) rfl (Nat.le_of_ble_eq_true rfl) ?_; apply Exists.intro; refine ⟨fun N hN => ?_, ?_⟩; (next => (go_wp2; all_goals rfl)); try simp only [Act.put, slotL_succ, slotL_zero, List.setIfInBounds_toArray, List.set_cons_zero, List.set_cons_succ])
  (refine same_step rfl (by rfl) (by rfl) rfl (Nat.le_of_ble_eq_true rfl) ?_; apply Exists.intro; refine ⟨fun N hN => ?_, ?_⟩; (next => (go_wp2; all_goals rfl)); try simp only [Act.put, slotL_succ, slotL_zero, List.setIfInBounds_toArray, List.set_cons_zero, List.set_cons_succ])
  (refine same_step rfl (by rfl) (by rfl) rfl (Nat.le_of_ble_eq_true rfl) ?_; apply Exists.intro; refine ⟨fun N hN => ?_, ?_⟩; (next => (go_wp2; all_goals rfl)); try simp only [Act.put, slotL_succ, slotL_zero, List.setIfInBounds_toArray, List.set_cons_zero, List.set_cons_succ])
  (refine same_step rfl (by rfl) (by rfl) rfl (Nat.le_of_ble_eq_true rfl) ?_; apply Exists.intro; refine ⟨fun N hN => ?_, ?_⟩; (next => (go_wp2; all_goals rfl)); try simp only [Act.put, slotL_succ, slotL_zero, List.setIfInBounds_toArray, List.set_cons_zero, List.set_cons_succ])
  refine wpC_nil ?_
  simp only [List.drop_succ_cons, List.drop_zero, List.drop_nil]
  go_wp2
  rw [rounds_succ]
  go_wp2
  refine wp_region_same 8 19 [0, 1, 2, 3, 4, 5, 6, 7] (by kernel_rfl) (by kernel_rfl) (by kernel_rfl) (by kernel_rfl) (by rfl) ?_
  (refine same_step rfl (by rfl) (by rfl) rfl (Nat.le_of_ble_eq_true rfl) ?_; apply Exists.intro; refine ⟨fun N hN => ?_, ?_⟩; (next => (go_wp2; all_goals rfl)); try simp only [Act.put, slotL_succ, slotL_zero, List.setIfInBounds_toArray, List.set_cons_zero, List.set_cons_succ])
  (refine same_step rfl (by rfl) (by rfl) rfl (Nat.le_of_ble_eq_true rfl) ?_; apply Exists.intro; refine ⟨fun N hN => ?_, ?_⟩; (next => (go_wp2; all_goals rfl)); try simp only [Act.put, slotL_succ, slotL_zero, List.setIfInBounds_toArray, List.set_cons_zero, List.set_cons_succ])
  (refine same_step rfl (by rfl) (by rfl) rfl (Nat.le_of_ble_eq_true rfl) ?_; apply Exists.intro; refine ⟨fun N hN => ?_, ?_⟩; (next => (go_wp2; all_goals rfl)); try simp only [Act.put, slotL_succ, slotL_zero, List.setIfInBounds_toArray, List.set_cons_zero, List.set_cons_succ])
  (refine same_step rfl (by rfl) (by rfl) rfl (Nat.le_of_ble_eq_true rfl) ?_; apply Exists.intro; refine ⟨fun N hN => ?_, ?_⟩; (next => (go_wp2; all_goals rfl)); try simp only [Act.put, slotL_succ, slotL_zero, List.setIfInBounds_toArray, List.set_cons_zero, List.set_cons_succ])
  (refine same_step rfl (by rfl) (by rfl) rfl (Nat.le_of_ble_eq_true rfl) ?_; apply Exists.intro; refine ⟨fun N hN => ?_, ?_⟩; (next => (go_wp2; all_goals rfl)); try simp only [Act.put, slotL_succ, slotL_zero, List.setIfInBounds_toArray, List.set_cons_zero, List.set_cons_succ])
  (refine same_step rfl (by rfl) (by rfl) rfl (Nat.le_of_ble_eq_true rfl) ?_; apply Exists.intro; refine ⟨fun N hN => ?_, ?_⟩; (next => (go_wp2; all_goals rfl)); try simp only [Act.put, slotL_succ, slotL_zero, List.setIfInBounds_toArray, List.set_cons_zero, List.set_cons_succ])
  (refine same_step rfl (by rfl) (by rfl) rfl (Nat.le_of_ble_eq_true rfl) ?_; apply Exists.intro; refine ⟨fun N hN => ?_, ?_⟩; (next => (go_wp2; all_goals rfl)); try simp only [Act.put, slotL_succ, slotL_zero, List.setIfInBounds_toArray, List.set_cons_zero, List.set_cons_succ])
  (refine same_step rfl (by rfl) (by rfl) rfl (Nat.le_of_ble_eq_true rfl) ?_; apply Exists.intro; refine ⟨fun N hN => ?_, ?_⟩; (next => (go_wp2; all_goals rfl)); try simp only [Act.put, slotL_succ, slotL_zero, List.setIfInBounds_toArray, List.set_cons_zero, List.set_cons_succ])
  refine wpC_nil ?_
  simp only [List.drop_succ_cons, List.drop_zero, List.drop_nil]
  go_wp2
  rw [rounds_succ]
  go_wp2
  refine wp_region_same 8 19 [0, 1, 2, 3, 4, 5, 6, 7] (by kernel_rfl) (by kernel_rfl) (by kernel_rfl) (by kernel_rfl) (by rfl) ?_
  (refine same_step rfl (by rfl) (by rfl) rfl (Nat.le_of_ble_eq_true rfl) ?_; apply Exists.intro; refine ⟨fun N hN => ?_, ?_⟩; (next => (go_wp2; all_goals rfl)); try simp only [Act.put, slotL_succ, slotL_zero, List.setIfInBounds_toArray, List.set_cons_zero, List.set_cons_succ])
  (refine same_step rfl (by rfl) (by rfl) rfl (Nat.le_of_ble_eq_true rfl) ?_; apply Exists.intro; refine ⟨fun N hN => ?_, ?_⟩; (next => (go_wp2; all_goals rfl)); try simp only [Act.put, slotL_succ, slotL_zero, List.setIfInBounds_toArray, List.set_cons_zero, List.set_cons_succ])
  (refine same_step rfl (by rfl) (by rfl) rfl (Nat.le_of_ble_eq_true rfl) ?_; apply Exists.intro; refine ⟨fun N hN => ?_, ?_⟩; (next => (go_wp2; all_goals rfl)); try simp only [Act.put, slotL_succ, slotL_zero, List.setIfInBounds_toArray, List.set_cons_zero, List.set_cons_succ])
  (refine same_step rfl (by rfl) (by rfl) rfl (Nat.le_of_ble_eq_true rfl) ?_; apply Exists.intro; refine ⟨fun N hN => ?_, ?_⟩; (next => (go_wp2; all_goals rfl)); try simp only [Act.put, slotL_succ, slotL_zero, List.setIfInBounds_toArray, List.set_cons_zero, List.set_cons_succ])
  (refine same_step rfl (by rfl) (by rfl) rfl (Nat.le_of_ble_eq_true rfl) ?_; apply Exists.intro; refine ⟨fun N hN => ?_, ?_⟩; (next => (go_wp2; all_goals rfl)); try simp only [Act.put, slotL_succ, slotL_zero, List.setIfInBounds_toArray, List.set_cons_zero, List.set_cons_succ])
  (refine same_step rfl (by rfl) (by rfl) rfl (Nat.le_of_ble_eq_true rfl) ?_; apply Exists.intro; refine ⟨fun N hN => ?_, ?_⟩; (next => (go_wp2; all_goals rfl)); try simp only [Act.put, slotL_succ, slotL_zero, List.setIfInBounds_toArray, List.set_cons_zero, List.set_cons_succ])
  (refine same_step rfl (by rfl) (by rfl) rfl (Nat.le_of_ble_eq_true rfl) ?_; apply Exists.intro; refine ⟨fun N hN => ?_, ?_⟩; (next => (go_wp2; all_goals rfl)); try simp only [Act.put, slotL_succ, slotL_zero, List.setIfInBounds_toArray, List.set_cons_zero, List.set_cons_succ])
  (refine same_step rfl (by rfl) (by rfl) rfl (Nat.le_of_ble_eq_true rfl) ?_; apply Exists.intro; refine ⟨fun N hN => ?_, ?_⟩; (next => (go_wp2; all_goals rfl)); try simp only [Act.put, slotL_succ, slotL_zero, List.setIfInBounds_toArray, List.set_cons_zero, List.set_cons_succ])
  refine wpC_nil ?_
  simp only [List.drop_succ_cons, List.drop_zero, List.drop_nil]
  go_wp2
  rw [rounds_succ]
  go_wp2
  refine wp_region_same 8 19 [0, 1, 2, 3, 4, 5, 6, 7] (by kernel_rfl) (by kernel_rfl) (by kernel_rfl) (by kernel_rfl) (by rfl) ?_
  (refine same_step rfl (by rfl) (by rfl) rfl (Nat.le_of_ble_eq_true rfl) ?_; apply Exists.intro; refine ⟨fun N hN => ?_, ?_⟩; (next => (go_wp2; all_goals rfl)); try simp only [Act.put, slotL_succ, slotL_zero, List.setIfInBounds_toArray, List.set_cons_zero, List.set_cons_succ])
  (refine same_step rfl (by rfl) (by rfl) rfl (Nat.le_of_ble_eq_true rfl) ?_; apply Exists.intro; refine ⟨fun N hN => ?_, ?_⟩; (next => (go_wp2; all_goals rfl)); try simp only [Act.put, slotL_succ, slotL_zero, List.setIfInBounds_toArray, List.set_cons_zero, List.set_cons_succ])
  (refine same_step rfl (by rfl) (by rfl) rfl (Nat.le_of_ble_eq_true rfl) ?_; apply Exists.intro; refine ⟨fun N hN => ?_, ?_⟩; (next => (go_wp2; all_goals rfl)); try simp only [Act.put, slotL_succ, slotL_zero, List.setIfInBounds_toArray, List.set_cons_zero, List.set_cons_succ])
  (refine same_step rfl (by rfl) (by rfl) rfl (Nat.le_of_ble_eq_true rfl) ?_; apply Exists.intro; refine ⟨fun N hN => ?_, ?_⟩; (next => (go_wp2; all_goals rfl)); try simp only [Act.put, slotL_succ, slotL_zero, List.setIfInBounds_toArray, List.set_cons_zero, List.set_cons_succ])
  (refine same_step rfl (by rfl) (by rfl) rfl (Nat.le_of_ble_eq_true rfl) ?_; apply Exists.intro; refine ⟨fun N hN => ?_, ?_⟩; (next => (go_wp2; all_goals rfl)); try simp only [Act.put, slotL_succ, slotL_zero, List.setIfInBounds_toArray, List.set_cons_zero, List.set_cons_succ])
  (refine same_step rfl (by rfl) (by rfl) rfl (Nat.le_of_ble_eq_true rfl) ?_; apply Exists.intro; refine ⟨fun N hN => ?_, ?_⟩; (next => (go_wp2; all_goals rfl)); try simp only [Act.put, slotL_succ, slotL_zero, List.setIfInBounds_toArray, List.set_cons_zero, List.set_cons_succ])
  (refine same_step rfl (by rfl) (by rfl) rfl (Nat.le_of_ble_eq_true rfl) ?_; apply Exists.intro; refine ⟨fun N hN => ?_, ?_⟩; (next => (go_wp2; all_goals rfl)); try simp only [Act.put, slotL_succ, slotL_zero, List.setIfInBounds_toArray, List.set_cons_zero, List.set_cons_succ])
  (refine same_step rfl (by rfl) (by rfl) rfl (Nat.le_of_ble_eq_true rfl) ?_; apply Exists.intro; refine ⟨fun N hN => ?_, ?_⟩; (next => (go_wp2; all_goals rfl)); try simp only [Act.put, slotL_succ, slotL_zero, List.setIfInBounds_toArray, List.set_cons_zero, List.set_cons_succ])
  refine wpC_nil ?_
  simp only [List.drop_succ_cons, List.drop_zero, List.drop_nil]
  go_wp2
  rw [rounds_succ]
  go_wp2
  refine bodyPost_ret (v := setV (diff N M)) (by simp [results, Tryd.results35, go_sem]) rfl ⟨rfl, ?_⟩
  exact ((((Below.refl _ _).alloc (Nat.le_refl _) _).alloc (by simp) _).alloc (by simp; omega) _).drew.drew.drew.drew
end Go.Proofs.YtjifajigigflkaaDoor
/- Package bits: Compare, Within, Meets, Size. -/
namespace Go.Proofs.YtjifajigigflkaaDoor
set_option linter.unusedSimpArgs false
set_option linter.unusedVariables false
open Go Go.RowKit
attribute [local go_sem] setV
/-- -1, 0 or 1, as N is below M, the same, or above. -/
def cmpS (N M : Nat) : Int := if N < M then -1 else if M < N then 1 else 0


theorem cmp_lt (N M j : Nat) (hM : M < 2 ^ 256) (h : ∀ i, j < i → i < 4 → word N i = word M i) (hj : j < 4) (hlt : word N j < word M j) (hN : N < 2 ^ 256) : N < M := by
  unfold word at *
  match j, hj with
  | 0, _ =>
    have h1 := h 1 (by decide) (by decide); have h2 := h 2 (by decide) (by decide); have h3 := h 3 (by decide) (by decide)
    simp only [Nat.reduceMul, Nat.reducePow, Nat.pow_zero, Nat.mul_zero, Nat.mul_one] at *; omega
  | 1, _ =>
    have h2 := h 2 (by decide) (by decide); have h3 := h 3 (by decide) (by decide)
    simp only [Nat.reduceMul, Nat.reducePow, Nat.pow_zero, Nat.mul_zero, Nat.mul_one] at *; omega
  | 2, _ =>
    have h3 := h 3 (by decide) (by decide)
    simp only [Nat.reduceMul, Nat.reducePow, Nat.pow_zero, Nat.mul_zero, Nat.mul_one] at *; omega
  | 3, _ => simp only [Nat.reduceMul, Nat.reducePow, Nat.pow_zero, Nat.mul_zero, Nat.mul_one] at *; omega
theorem cmp_of_lt {N M : Nat} (h : N < M) : cmpS N M = -1 := by unfold cmpS; rw [if_pos h]
theorem cmp_of_gt {N M : Nat} (h : M < N) : cmpS N M = 1 := by unfold cmpS; rw [if_neg (by omega), if_pos h]
theorem cmp_self (N : Nat) : cmpS N N = 0 := by unfold cmpS; simp
set_option maxRecDepth 100000 in
set_option maxHeartbeats 1000000 in
theorem compare_any (N M : Nat) (w : World) (hN : N < 2 ^ 256) (hM : M < 2 ^ 256) :
    Calls Tryd.prog 43 #[setV N, setV M] w fun e w' => e = .returned (.int .i64 (cmpS N M)) ∧ Below w.heap.size w w' := by
  go_enter Tryd.func43, Tryd.ntmps43
  simp only [setV]
  go_wp2
  obtain ⟨W, hW⟩ : ∃ W, W = (w.alloc (.cells #[.int .u64 ↑(word N 0), .int .u64 ↑(word N 1), .int .u64 ↑(word N 2), .int .u64 ↑(word N 3)] 25)).alloc (.cells #[.int .u64 ↑(word M 0), .int .u64 ↑(word M 1), .int .u64 ↑(word M 2), .int .u64 ↑(word M 3)] 25) := ⟨_, rfl⟩
  rw [← hW]
  have hb : ∀ n, Below w.heap.size w (W.drewN n) := fun n => by
    rw [hW]; exact below_drewN (((Below.refl _ w).alloc (Nat.le_refl _) _).alloc (by simp) _) n
  have hcN : ∀ j, j < 4 → W.cell? ⟨w.heap.size, j, none⟩ = some (.int .u64 (word N j)) := fun j hj => by
    have := setL_get N j hj
    rw [hW]; simp [go_sem, this]
  have hcM : ∀ j, j < 4 → W.cell? ⟨w.heap.size + 1, j, none⟩ = some (.int .u64 (word M j)) := fun j hj => by
    have := setL_get M j hj
    rw [hW]; simp [go_sem, this]
  have HN := Lib.hid hcN
  have HM := Lib.hid hcM
  have HB := Lib.hid hb
  clear hW hcN hcM hb
  go_loopw [5] (fun i wr => ∃ (q : Int) (n : Nat), -1 ≤ q ∧ q ≤ 3 ∧ i = .int .i64 q ∧ wr = W.drewN n ∧ (∀ j : Nat, q < j → j < 4 → word N j = word M j)) (fun i _ => (intOf i + 1).toNat)
  case atStart => exact ⟨3, 0, by omega, by omega, rfl, rfl, fun j h1 h2 => by omega⟩
  case round =>
    obtain ⟨q, n, hq0, hq1, rfl, rfl, hall⟩ := hrel
    by_cases hq : q < 0
    · obtain rfl : q = -1 := by omega
      have e : N = M := eq_of_words hN hM fun i hi => hall i (by omega) hi
      have Hall := Lib.hid hall
      clear hall
      go_wp2
      go_ret
      exact ⟨by rw [e, cmp_self]; rfl, HB.out n⟩
    · obtain ⟨j, rfl⟩ := Int.eq_ofNat_of_zero_le (show 0 ≤ q by omega)
      have hN1 := HN.out j (by omega)
      have hM1 := HM.out j (by omega)
      have hall' : ∀ i, j < i → i < 4 → word N i = word M i := fun i h1 h2 => hall i (by omega) h2
      have Hall := Lib.hid hall'
      clear hall hall'
      have hj3 : (j : Int) < 4 := by omega
      rcases Nat.lt_trichotomy (word N j) (word M j) with hlt | heq | hgt
      · have hd : decide (word N j < word M j) = true := by simp; exact hlt
        have HR := Lib.hid (cmp_of_lt (cmp_lt N M j hM Hall.out (by omega) hlt hN))
        go_wp2
        refine wp_region_same 7 24 [0, 1, 2, 3, 4, 5, 6] (by kernel_rfl) (by kernel_rfl) (by kernel_rfl) (by kernel_rfl) (by rfl) ?_
        (refine same_step rfl (by rfl) (by rfl) rfl (Nat.le_of_ble_eq_true rfl) ?_; apply Exists.intro; refine ⟨fun N hN => ?_, ?_⟩; (next => (go_wp2; all_goals rfl)); try simp only [Act.put, slotL_succ, slotL_zero, List.setIfInBounds_toArray, List.set_cons_zero, List.set_cons_succ])
        (refine same_step rfl (by rfl) (by rfl) rfl (Nat.le_of_ble_eq_true rfl) ?_; apply Exists.intro; refine ⟨fun N hN => ?_, ?_⟩; (next => (go_wp2; all_goals rfl)); try simp only [Act.put, slotL_succ, slotL_zero, List.setIfInBounds_toArray, List.set_cons_zero, List.set_cons_succ])
        (refine same_step rfl (by rfl) (by rfl) rfl (Nat.le_of_ble_eq_true rfl) ?_; apply Exists.intro; refine ⟨fun N hN => ?_, ?_⟩; (next => (go_wp2; all_goals rfl)); try simp only [Act.put, slotL_succ, slotL_zero, List.setIfInBounds_toArray, List.set_cons_zero, List.set_cons_succ])
        (refine same_step rfl (by rfl) (by rfl) rfl (Nat.le_of_ble_eq_true rfl) ?_; apply Exists.intro; refine ⟨fun N hN => ?_, ?_⟩; (next => (go_wp2; all_goals rfl)); try simp only [Act.put, slotL_succ, slotL_zero, List.setIfInBounds_toArray, List.set_cons_zero, List.set_cons_succ])
        (refine same_step rfl (by rfl) (by rfl) rfl (Nat.le_of_ble_eq_true rfl) ?_; apply Exists.intro; refine ⟨fun N hN => ?_, ?_⟩; (next => (go_wp2; all_goals rfl)); try simp only [Act.put, slotL_succ, slotL_zero, List.setIfInBounds_toArray, List.set_cons_zero, List.set_cons_succ])
        (refine same_step rfl (by rfl) (by rfl) rfl (Nat.le_of_ble_eq_true rfl) ?_; apply Exists.intro; refine ⟨fun N hN => ?_, ?_⟩; (next => (go_wp2; all_goals rfl)); try simp only [Act.put, slotL_succ, slotL_zero, List.setIfInBounds_toArray, List.set_cons_zero, List.set_cons_succ])
        (refine same_step rfl (by rfl) (by rfl) rfl (Nat.le_of_ble_eq_true rfl) ?_; apply Exists.intro; refine ⟨fun N hN => ?_, ?_⟩; (next => (go_wp2; all_goals rfl)); try simp only [Act.put, slotL_succ, slotL_zero, List.setIfInBounds_toArray, List.set_cons_zero, List.set_cons_succ])
        refine wpC_nil ?_
        simp only [List.drop_succ_cons, List.drop_zero, List.drop_nil]
        go_wp2
        go_ret
        exact ⟨by rw [HR.out]; rfl, (HB.out _).drew⟩
      · have hd : decide (word N j < word M j) = false := by simp; omega
        have hd2 : decide (word M j < word N j) = false := by simp; omega
        have Heq := Lib.hid heq
        clear heq
        go_wp2
        refine wp_region_same 7 24 [0, 1, 2, 3, 4, 5, 6] (by kernel_rfl) (by kernel_rfl) (by kernel_rfl) (by kernel_rfl) (by rfl) ?_
        (refine same_step rfl (by rfl) (by rfl) rfl (Nat.le_of_ble_eq_true rfl) ?_; apply Exists.intro; refine ⟨fun N hN => ?_, ?_⟩; (next => (go_wp2; all_goals rfl)); try simp only [Act.put, slotL_succ, slotL_zero, List.setIfInBounds_toArray, List.set_cons_zero, List.set_cons_succ])
        (refine same_step rfl (by rfl) (by rfl) rfl (Nat.le_of_ble_eq_true rfl) ?_; apply Exists.intro; refine ⟨fun N hN => ?_, ?_⟩; (next => (go_wp2; all_goals rfl)); try simp only [Act.put, slotL_succ, slotL_zero, List.setIfInBounds_toArray, List.set_cons_zero, List.set_cons_succ])
        (refine same_step rfl (by rfl) (by rfl) rfl (Nat.le_of_ble_eq_true rfl) ?_; apply Exists.intro; refine ⟨fun N hN => ?_, ?_⟩; (next => (go_wp2; all_goals rfl)); try simp only [Act.put, slotL_succ, slotL_zero, List.setIfInBounds_toArray, List.set_cons_zero, List.set_cons_succ])
        (refine same_step rfl (by rfl) (by rfl) rfl (Nat.le_of_ble_eq_true rfl) ?_; apply Exists.intro; refine ⟨fun N hN => ?_, ?_⟩; (next => (go_wp2; all_goals rfl)); try simp only [Act.put, slotL_succ, slotL_zero, List.setIfInBounds_toArray, List.set_cons_zero, List.set_cons_succ])
        (refine same_step rfl (by rfl) (by rfl) rfl (Nat.le_of_ble_eq_true rfl) ?_; apply Exists.intro; refine ⟨fun N hN => ?_, ?_⟩; (next => (go_wp2; all_goals rfl)); try simp only [Act.put, slotL_succ, slotL_zero, List.setIfInBounds_toArray, List.set_cons_zero, List.set_cons_succ])
        (refine same_step rfl (by rfl) (by rfl) rfl (Nat.le_of_ble_eq_true rfl) ?_; apply Exists.intro; refine ⟨fun N hN => ?_, ?_⟩; (next => (go_wp2; all_goals rfl)); try simp only [Act.put, slotL_succ, slotL_zero, List.setIfInBounds_toArray, List.set_cons_zero, List.set_cons_succ])
        (refine same_step rfl (by rfl) (by rfl) rfl (Nat.le_of_ble_eq_true rfl) ?_; apply Exists.intro; refine ⟨fun N hN => ?_, ?_⟩; (next => (go_wp2; all_goals rfl)); try simp only [Act.put, slotL_succ, slotL_zero, List.setIfInBounds_toArray, List.set_cons_zero, List.set_cons_succ])
        refine wpC_nil ?_
        simp only [List.drop_succ_cons, List.drop_zero, List.drop_nil]
        go_wp2
        refine wp_region_same 7 24 [0, 1, 2, 3, 4, 5, 6] (by kernel_rfl) (by kernel_rfl) (by kernel_rfl) (by kernel_rfl) (by rfl) ?_
        (refine same_step rfl (by rfl) (by rfl) rfl (Nat.le_of_ble_eq_true rfl) ?_; apply Exists.intro; refine ⟨fun N hN => ?_, ?_⟩; (next => (go_wp2; all_goals rfl)); try simp only [Act.put, slotL_succ, slotL_zero, List.setIfInBounds_toArray, List.set_cons_zero, List.set_cons_succ])
        (refine same_step rfl (by rfl) (by rfl) rfl (Nat.le_of_ble_eq_true rfl) ?_; apply Exists.intro; refine ⟨fun N hN => ?_, ?_⟩; (next => (go_wp2; all_goals rfl)); try simp only [Act.put, slotL_succ, slotL_zero, List.setIfInBounds_toArray, List.set_cons_zero, List.set_cons_succ])
        (refine same_step rfl (by rfl) (by rfl) rfl (Nat.le_of_ble_eq_true rfl) ?_; apply Exists.intro; refine ⟨fun N hN => ?_, ?_⟩; (next => (go_wp2; all_goals rfl)); try simp only [Act.put, slotL_succ, slotL_zero, List.setIfInBounds_toArray, List.set_cons_zero, List.set_cons_succ])
        (refine same_step rfl (by rfl) (by rfl) rfl (Nat.le_of_ble_eq_true rfl) ?_; apply Exists.intro; refine ⟨fun N hN => ?_, ?_⟩; (next => (go_wp2; all_goals rfl)); try simp only [Act.put, slotL_succ, slotL_zero, List.setIfInBounds_toArray, List.set_cons_zero, List.set_cons_succ])
        (refine same_step rfl (by rfl) (by rfl) rfl (Nat.le_of_ble_eq_true rfl) ?_; apply Exists.intro; refine ⟨fun N hN => ?_, ?_⟩; (next => (go_wp2; all_goals rfl)); try simp only [Act.put, slotL_succ, slotL_zero, List.setIfInBounds_toArray, List.set_cons_zero, List.set_cons_succ])
        (refine same_step rfl (by rfl) (by rfl) rfl (Nat.le_of_ble_eq_true rfl) ?_; apply Exists.intro; refine ⟨fun N hN => ?_, ?_⟩; (next => (go_wp2; all_goals rfl)); try simp only [Act.put, slotL_succ, slotL_zero, List.setIfInBounds_toArray, List.set_cons_zero, List.set_cons_succ])
        (refine same_step rfl (by rfl) (by rfl) rfl (Nat.le_of_ble_eq_true rfl) ?_; apply Exists.intro; refine ⟨fun N hN => ?_, ?_⟩; (next => (go_wp2; all_goals rfl)); try simp only [Act.put, slotL_succ, slotL_zero, List.setIfInBounds_toArray, List.set_cons_zero, List.set_cons_succ])
        refine wpC_nil ?_
        simp only [List.drop_succ_cons, List.drop_zero, List.drop_nil]
        go_wp2
        refine ⟨⟨(j : Int) - 1, n + 1 + 1, by omega, by omega, rfl, rfl, fun i h1 h2 => ?_⟩, by simp [intOf]⟩
        by_cases hij : i = j
        · rw [hij]; exact Heq.out
        · exact Hall.out i (by omega) h2
      · have hd : decide (word N j < word M j) = false := by simp; omega
        have hd2 : decide (word M j < word N j) = true := by simp; exact hgt
        have HR := Lib.hid (cmp_of_gt (cmp_lt M N j hN (fun i h1 h2 => (Hall.out i h1 h2).symm) (by omega) hgt hM))
        go_wp2
        refine wp_region_same 7 24 [0, 1, 2, 3, 4, 5, 6] (by kernel_rfl) (by kernel_rfl) (by kernel_rfl) (by kernel_rfl) (by rfl) ?_
        (refine same_step rfl (by rfl) (by rfl) rfl (Nat.le_of_ble_eq_true rfl) ?_; apply Exists.intro; refine ⟨fun N hN => ?_, ?_⟩; (next => (go_wp2; all_goals rfl)); try simp only [Act.put, slotL_succ, slotL_zero, List.setIfInBounds_toArray, List.set_cons_zero, List.set_cons_succ])
        (refine same_step rfl (by rfl) (by rfl) rfl (Nat.le_of_ble_eq_true rfl) ?_; apply Exists.intro; refine ⟨fun N hN => ?_, ?_⟩; (next => (go_wp2; all_goals rfl)); try simp only [Act.put, slotL_succ, slotL_zero, List.setIfInBounds_toArray, List.set_cons_zero, List.set_cons_succ])
        (refine same_step rfl (by rfl) (by rfl) rfl (Nat.le_of_ble_eq_true rfl) ?_; apply Exists.intro; refine ⟨fun N hN => ?_, ?_⟩; (next => (go_wp2; all_goals rfl)); try simp only [Act.put, slotL_succ, slotL_zero, List.setIfInBounds_toArray, List.set_cons_zero, List.set_cons_succ])
        (refine same_step rfl (by rfl) (by rfl) rfl (Nat.le_of_ble_eq_true rfl) ?_; apply Exists.intro; refine ⟨fun N hN => ?_, ?_⟩; (next => (go_wp2; all_goals rfl)); try simp only [Act.put, slotL_succ, slotL_zero, List.setIfInBounds_toArray, List.set_cons_zero, List.set_cons_succ])
        (refine same_step rfl (by rfl) (by rfl) rfl (Nat.le_of_ble_eq_true rfl) ?_; apply Exists.intro; refine ⟨fun N hN => ?_, ?_⟩; (next => (go_wp2; all_goals rfl)); try simp only [Act.put, slotL_succ, slotL_zero, List.setIfInBounds_toArray, List.set_cons_zero, List.set_cons_succ])
        (refine same_step rfl (by rfl) (by rfl) rfl (Nat.le_of_ble_eq_true rfl) ?_; apply Exists.intro; refine ⟨fun N hN => ?_, ?_⟩; (next => (go_wp2; all_goals rfl)); try simp only [Act.put, slotL_succ, slotL_zero, List.setIfInBounds_toArray, List.set_cons_zero, List.set_cons_succ])
        (refine same_step rfl (by rfl) (by rfl) rfl (Nat.le_of_ble_eq_true rfl) ?_; apply Exists.intro; refine ⟨fun N hN => ?_, ?_⟩; (next => (go_wp2; all_goals rfl)); try simp only [Act.put, slotL_succ, slotL_zero, List.setIfInBounds_toArray, List.set_cons_zero, List.set_cons_succ])
        refine wpC_nil ?_
        simp only [List.drop_succ_cons, List.drop_zero, List.drop_nil]
        go_wp2
        refine wp_region_same 7 24 [0, 1, 2, 3, 4, 5, 6] (by kernel_rfl) (by kernel_rfl) (by kernel_rfl) (by kernel_rfl) (by rfl) ?_
        (refine same_step rfl (by rfl) (by rfl) rfl (Nat.le_of_ble_eq_true rfl) ?_; apply Exists.intro; refine ⟨fun N hN => ?_, ?_⟩; (next => (go_wp2; all_goals rfl)); try simp only [Act.put, slotL_succ, slotL_zero, List.setIfInBounds_toArray, List.set_cons_zero, List.set_cons_succ])
        (refine same_step rfl (by rfl) (by rfl) rfl (Nat.le_of_ble_eq_true rfl) ?_; apply Exists.intro; refine ⟨fun N hN => ?_, ?_⟩; (next => (go_wp2; all_goals rfl)); try simp only [Act.put, slotL_succ, slotL_zero, List.setIfInBounds_toArray, List.set_cons_zero, List.set_cons_succ])
        (refine same_step rfl (by rfl) (by rfl) rfl (Nat.le_of_ble_eq_true rfl) ?_; apply Exists.intro; refine ⟨fun N hN => ?_, ?_⟩; (next => (go_wp2; all_goals rfl)); try simp only [Act.put, slotL_succ, slotL_zero, List.setIfInBounds_toArray, List.set_cons_zero, List.set_cons_succ])
        (refine same_step rfl (by rfl) (by rfl) rfl (Nat.le_of_ble_eq_true rfl) ?_; apply Exists.intro; refine ⟨fun N hN => ?_, ?_⟩; (next => (go_wp2; all_goals rfl)); try simp only [Act.put, slotL_succ, slotL_zero, List.setIfInBounds_toArray, List.set_cons_zero, List.set_cons_succ])
        (refine same_step rfl (by rfl) (by rfl) rfl (Nat.le_of_ble_eq_true rfl) ?_; apply Exists.intro; refine ⟨fun N hN => ?_, ?_⟩; (next => (go_wp2; all_goals rfl)); try simp only [Act.put, slotL_succ, slotL_zero, List.setIfInBounds_toArray, List.set_cons_zero, List.set_cons_succ])
        (refine same_step rfl (by rfl) (by rfl) rfl (Nat.le_of_ble_eq_true rfl) ?_; apply Exists.intro; refine ⟨fun N hN => ?_, ?_⟩; (next => (go_wp2; all_goals rfl)); try simp only [Act.put, slotL_succ, slotL_zero, List.setIfInBounds_toArray, List.set_cons_zero, List.set_cons_succ])
        (refine same_step rfl (by rfl) (by rfl) rfl (Nat.le_of_ble_eq_true rfl) ?_; apply Exists.intro; refine ⟨fun N hN => ?_, ?_⟩; (next => (go_wp2; all_goals rfl)); try simp only [Act.put, slotL_succ, slotL_zero, List.setIfInBounds_toArray, List.set_cons_zero, List.set_cons_succ])
        refine wpC_nil ?_
        simp only [List.drop_succ_cons, List.drop_zero, List.drop_nil]
        go_wp2
        go_ret
        exact ⟨by rw [HR.out]; rfl, (HB.out _).drew.drew⟩
end Go.Proofs.YtjifajigigflkaaDoor
/- Package bits: Within, Meets. -/
namespace Go.Proofs.YtjifajigigflkaaDoor
set_option linter.unusedSimpArgs false
set_option linter.unusedVariables false
open Go Go.RowKit
attribute [local go_sem] setV equalIn_words equalIn_zero
theorem and_lt {N M : Nat} {n : Nat} (h : N < 2 ^ n) : N &&& M < 2 ^ n := Nat.lt_of_le_of_lt Nat.and_le_left h

set_option maxRecDepth 100000 in
theorem within_any (N M : Nat) (w : World) :
    Calls Tryd.prog 39 #[setV N, setV M] w fun e w' => e = .returned (.bool (eqS (diff N M) 0)) ∧ Below w.heap.size w w' := by
  go_enter Tryd.func39, Tryd.ntmps39
  simp only [setV]
  go_wp2_with (first | (go_at_call 35; refine (minus_any N M _).mono ?_; rintro e w' ⟨rfl, hb⟩))
  go_ret
  exact ⟨rfl, (((Below.refl _ _).alloc (Nat.le_refl _) _).alloc (by simp) _).trans (hb.mono (by simp; omega))⟩

set_option maxRecDepth 100000 in
theorem meets_any (N M : Nat) (w : World) :
    Calls Tryd.prog 41 #[setV N, setV M] w fun e w' => e = .returned (.bool (!eqS (N &&& M) 0)) ∧ Below w.heap.size w w' := by
  go_enter Tryd.func41, Tryd.ntmps41
  simp only [setV]
  go_wp2_with (first | (go_at_call 33; refine (common_any N M _).mono ?_; rintro e w' ⟨rfl, hb⟩))
  go_ret
  exact ⟨rfl, (((Below.refl _ _).alloc (Nat.le_refl _) _).alloc (by simp) _).trans (hb.mono (by simp; omega))⟩
end Go.Proofs.YtjifajigigflkaaDoor
