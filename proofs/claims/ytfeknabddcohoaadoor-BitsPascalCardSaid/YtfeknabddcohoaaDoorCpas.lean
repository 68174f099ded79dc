/- For all integers, the laws of Pascal's triangle hold: the law BitsPascal returns true. Conditions: the listed variables of Go's library hold what their text lays. -/
import Derived.Test.YtfeknabddcohoaaDoorQd
import Derived.Test.YtfeknabddcohoaaDoorQe
namespace Go.Proofs.YtfeknabddcohoaaDoor
set_option linter.unusedSimpArgs false
set_option linter.unusedVariables false
open Go Go.RowKit

/-- The sum of the first i numbers of row n. -/
def smP (n : Nat) : Nat → Nat
  | 0 => 0
  | i + 1 => smP n i + ch n i
theorem pas_symm : ∀ n, n < 63 → ∀ i, i < n + 1 → ch n (n - i) = ch n i := by decide +kernel
theorem pas_pos : ∀ n, n < 63 → ∀ i, i < n + 1 → 1 ≤ ch n i := by decide +kernel
theorem pas_sum : ∀ n, n < 63 → smP n (n + 1) = 2 ^ n := by decide +kernel
theorem pas_fit : ∀ n, n < 63 → ∀ i, i < n + 1 → smP n i + ch n i ≤ 4611686018427387904 := by decide +kernel
theorem pas_step : ∀ n, n < 62 → ∀ k, k < n + 1 → ch (n + 1) (k + 1) = ch n k + ch n (k + 1) := by decide +kernel

set_option maxRecDepth 100000 in
set_option maxHeartbeats 1000000 in
theorem pascal_lo (hsane : SaneOk) (n k : Int) (h : n < 0) (w : World) (hg : Gl w) :
    Calls Tryd.prog 11 #[.int .i64 n, .int .i64 k] w fun e w' => e = .returned (.bool true) ∧ Below w.heap.size w w' := by
  have HS : Hid SaneOk := hsane
  have HG := Lib.hid hg
  clear hg hsane
  have h0 : decide (n < 0) = true := decide_eq_true h
  have HC := fun w => Choose_out n k w (by omega)
  replace HC := Lib.hid HC
  clear h
  go_enter Tryd.func11, Tryd.ntmps11
  go_wp2_with (first | (go_at_call 16; refine (HS.out _ HG.out).mono ?_; rintro e w2 ⟨rfl, hb⟩; have HB := Lib.hid hb; clear hb HS HG) | (go_at_call 45; refine (HC.out _).mono ?_; rintro e w' ⟨rfl, rfl⟩))
  go_ret
  exact ⟨by simp, HB.out⟩
set_option maxRecDepth 100000 in
set_option maxHeartbeats 1000000 in
theorem pascal_hi (hsane : SaneOk) (n k : Int) (h : 62 < n) (w : World) (hg : Gl w) :
    Calls Tryd.prog 11 #[.int .i64 n, .int .i64 k] w fun e w' => e = .returned (.bool true) ∧ Below w.heap.size w w' := by
  have HS : Hid SaneOk := hsane
  have HG := Lib.hid hg
  clear hg hsane
  have h0 : decide (n < 0) = false := decide_eq_false (by omega)
  have h1 : decide (62 < n) = true := decide_eq_true h
  have HC := fun w => Choose_out n k w (by omega)
  replace HC := Lib.hid HC
  clear h
  go_enter Tryd.func11, Tryd.ntmps11
  go_wp2_with (first | (go_at_call 16; refine (HS.out _ HG.out).mono ?_; rintro e w2 ⟨rfl, hb⟩; have HB := Lib.hid hb; clear hb HS HG) | (go_at_call 45; refine (HC.out _).mono ?_; rintro e w' ⟨rfl, rfl⟩))
  go_ret
  exact ⟨by simp, HB.out⟩
set_option maxRecDepth 100000 in
set_option maxHeartbeats 1000000 in
theorem pascal_neg (hsane : SaneOk) (m : Nat) (n k : Int) (hn : n = m) (hm : m ≤ 62) (hk : k < 0) (w : World) (hg : Gl w) :
    Calls Tryd.prog 11 #[.int .i64 n, .int .i64 k] w fun e w' => e = .returned (.bool true) ∧ Below w.heap.size w w' := by
  have HS : Hid SaneOk := hsane
  have HG := Lib.hid hg
  clear hg hsane
  have n0 : decide ((m : Int) < 0) = false := decide_eq_false (by omega)
  have n1 : decide ((62 : Int) < (m : Int)) = false := decide_eq_false (by omega)
  obtain ⟨A, hA⟩ : ∃ A, A = chI m k := ⟨_, rfl⟩
  have HC : Hid (∀ w, Calls Tryd.prog 45 #[.int .i64 (m : Int), .int .i64 k] w fun e w' => e = .returned (.tuple #[.int .i64 A, .int .i64 0]) ∧ w = w') := fun w => by rw [hA]; exact Choose_in m k w hm
  have HM : Hid (m ≤ 62) := hm
  have HAL : Hid (A < 9223372036854775808) := by rw [hA]; exact chI_lt hm
  have k0 : decide (0 ≤ k) = false := decide_eq_false (by omega)
  have k1 : decide (k < 0) = true := decide_eq_true hk
  have a0 : A = 0 := by rw [hA]; unfold chI; rw [if_pos hk]
  have HA := Lib.hid hA
  clear hA
  subst hn
  go_enter Tryd.func11, Tryd.ntmps11
  go_upto_region 9 with (first | (go_at_call 16; refine (HS.out _ HG.out).mono ?_; rintro e w2 ⟨rfl, hb⟩; have HB := Lib.hid hb; clear hb HS HG) | (go_at_call 45; refine (HC.out _).mono ?_; rintro e w' ⟨rfl, rfl⟩; simp only [Int.natCast_zero, show ((0 : Nat) : Int) = 0 from rfl]))
  go_wp2_with fail
  go_loop [7, 8] (fun s i => ∃ j : Nat, j ≤ m + 1 ∧ s = .int .i64 (smP m j : Nat) ∧ i = .int .i64 j) (fun _ i => (m + 1) - (intOf i).toNat)
  case atStart => exact ⟨0, by omega, rfl, rfl⟩
  case round =>
    obtain ⟨j, hj, rfl, rfl⟩ := hrel
    by_cases hlt : j < m + 1
    · have t0 : decide (j ≤ m) = true := decide_eq_true (by omega)
      have HM2 := HM.out
      obtain ⟨B, hB⟩ : ∃ B, B = ch m j := ⟨_, rfl⟩
      have e1 : chI m (j : Int) = B := by rw [chI_nat, hB]
      have e2 : chI m ((m : Int) - (j : Int)) = B := by rw [show ((m : Int) - j) = ((m - j : Nat) : Int) by omega, chI_nat, hB, pas_symm m (by omega) j hlt]
      have p1 : 1 ≤ B := by rw [hB]; exact pas_pos m (by omega) j hlt
      have p2 : smP m j + B ≤ 4611686018427387904 := by rw [hB]; exact pas_fit m (by omega) j hlt
      have e3 : smP m (j + 1) = smP m j + B := by rw [hB]; rfl
      obtain ⟨s, hs⟩ : ∃ s, s = smP m j := ⟨_, rfl⟩
      rw [← hs] at p2 e3 ⊢
      have HCg : Hid (∀ k w, Calls Tryd.prog 45 #[.int .i64 (m : Int), .int .i64 k] w fun e w' => e = .returned (.tuple #[.int .i64 (chI m k), .int .i64 0]) ∧ w = w') := fun k w => Choose_in m k w HM.out
      have E3 := Lib.hid e3
      clear e3 hB hs HC HA HB
      have q1 : decide ((B : Int) < 1) = false := decide_eq_false (by omega)
      have q2 : decide ((4611686018427387904 - (B : Int)) < (s : Int)) = false := decide_eq_false (by omega)
      have q3 : wrap64 (4611686018427387904 - (B : Int)) = 4611686018427387904 - (B : Int) := IntWalk.wrap64_in _ (by omega)
      have q4 : wrap64 ((s : Int) + (B : Int)) = ((s + B : Nat) : Int) := by rw [IntWalk.wrap64_in _ (by omega)]; omega
      go_wp2_with (first | (go_at_call 45; refine (HCg.out _ _).mono ?_; rintro e w' ⟨rfl, rfl⟩; simp only [e1, e2]))
      exact ⟨⟨j + 1, by omega, by rw [E3.out]; simp, by simp⟩, by simp [intOf]; omega⟩
    · obtain rfl : j = m + 1 := by omega
      have HS2 : Hid (smP m (m + 1) = 2 ^ m) := pas_sum m (by omega)
      have t0 : decide (m + 1 ≤ m) = false := decide_eq_false (by omega)
      obtain ⟨s, hs⟩ : ∃ s, s = smP m (m + 1) := ⟨_, rfl⟩
      rw [← hs] at HS2 ⊢
      have HM2 := HM.out
      have hq : ((s : Int) != wrap64 (2 ^ m)) = false := by
        obtain ⟨p, hp⟩ : ∃ p : Nat, p = 2 ^ m := ⟨_, rfl⟩
        have h1 : p ≤ 4611686018427387904 := by rw [hp]; exact Nat.le_trans (Nat.pow_le_pow_right (by decide) HM2) (by decide)
        have h2 : ((2 : Int) ^ m) = (p : Int) := by rw [hp]; simp
        rw [h2, IntWalk.wrap64_in _ (by omega), HS2.out, ← hp]; simp
      clear hs
      go_wp2_with fail
      all_goals (go_ret; exact ⟨by simp, HB.out⟩)
set_option maxRecDepth 100000 in
set_option maxHeartbeats 1000000 in
theorem pascal_above (hsane : SaneOk) (m : Nat) (n k : Int) (hn : n = m) (hm : m ≤ 62) (hk : (m : Int) < k) (w : World) (hg : Gl w) :
    Calls Tryd.prog 11 #[.int .i64 n, .int .i64 k] w fun e w' => e = .returned (.bool true) ∧ Below w.heap.size w w' := by
  have HS : Hid SaneOk := hsane
  have HG := Lib.hid hg
  clear hg hsane
  have n0 : decide ((m : Int) < 0) = false := decide_eq_false (by omega)
  have n1 : decide ((62 : Int) < (m : Int)) = false := decide_eq_false (by omega)
  obtain ⟨A, hA⟩ : ∃ A, A = chI m k := ⟨_, rfl⟩
  have HC : Hid (∀ w, Calls Tryd.prog 45 #[.int .i64 (m : Int), .int .i64 k] w fun e w' => e = .returned (.tuple #[.int .i64 A, .int .i64 0]) ∧ w = w') := fun w => by rw [hA]; exact Choose_in m k w hm
  have HM : Hid (m ≤ 62) := hm
  have HAL : Hid (A < 9223372036854775808) := by rw [hA]; exact chI_lt hm
  have k0 : decide (0 ≤ k) = true := decide_eq_true (by omega)
  have k1 : decide (k < 0) = false := decide_eq_false (by omega)
  have k2 : decide (k ≤ (m : Int)) = false := decide_eq_false (by omega)
  have k3 : decide ((m : Int) < k) = true := decide_eq_true hk
  have a0 : A = 0 := by rw [hA]; unfold chI; rw [if_neg (by omega)]; exact ch_above _ (by omega)
  have HA := Lib.hid hA
  clear hA
  subst hn
  go_enter Tryd.func11, Tryd.ntmps11
  go_upto_region 9 with (first | (go_at_call 16; refine (HS.out _ HG.out).mono ?_; rintro e w2 ⟨rfl, hb⟩; have HB := Lib.hid hb; clear hb HS HG) | (go_at_call 45; refine (HC.out _).mono ?_; rintro e w' ⟨rfl, rfl⟩; simp only [Int.natCast_zero, show ((0 : Nat) : Int) = 0 from rfl]))
  go_wp2_with fail
  go_loop [7, 8] (fun s i => ∃ j : Nat, j ≤ m + 1 ∧ s = .int .i64 (smP m j : Nat) ∧ i = .int .i64 j) (fun _ i => (m + 1) - (intOf i).toNat)
  case atStart => exact ⟨0, by omega, rfl, rfl⟩
  case round =>
    obtain ⟨j, hj, rfl, rfl⟩ := hrel
    by_cases hlt : j < m + 1
    · have t0 : decide (j ≤ m) = true := decide_eq_true (by omega)
      have HM2 := HM.out
      obtain ⟨B, hB⟩ : ∃ B, B = ch m j := ⟨_, rfl⟩
      have e1 : chI m (j : Int) = B := by rw [chI_nat, hB]
      have e2 : chI m ((m : Int) - (j : Int)) = B := by rw [show ((m : Int) - j) = ((m - j : Nat) : Int) by omega, chI_nat, hB, pas_symm m (by omega) j hlt]
      have p1 : 1 ≤ B := by rw [hB]; exact pas_pos m (by omega) j hlt
      have p2 : smP m j + B ≤ 4611686018427387904 := by rw [hB]; exact pas_fit m (by omega) j hlt
      have e3 : smP m (j + 1) = smP m j + B := by rw [hB]; rfl
      obtain ⟨s, hs⟩ : ∃ s, s = smP m j := ⟨_, rfl⟩
      rw [← hs] at p2 e3 ⊢
      have HCg : Hid (∀ k w, Calls Tryd.prog 45 #[.int .i64 (m : Int), .int .i64 k] w fun e w' => e = .returned (.tuple #[.int .i64 (chI m k), .int .i64 0]) ∧ w = w') := fun k w => Choose_in m k w HM.out
      have E3 := Lib.hid e3
      clear e3 hB hs HC HA HB
      have q1 : decide ((B : Int) < 1) = false := decide_eq_false (by omega)
      have q2 : decide ((4611686018427387904 - (B : Int)) < (s : Int)) = false := decide_eq_false (by omega)
      have q3 : wrap64 (4611686018427387904 - (B : Int)) = 4611686018427387904 - (B : Int) := IntWalk.wrap64_in _ (by omega)
      have q4 : wrap64 ((s : Int) + (B : Int)) = ((s + B : Nat) : Int) := by rw [IntWalk.wrap64_in _ (by omega)]; omega
      go_wp2_with (first | (go_at_call 45; refine (HCg.out _ _).mono ?_; rintro e w' ⟨rfl, rfl⟩; simp only [e1, e2]))
      exact ⟨⟨j + 1, by omega, by rw [E3.out]; simp, by simp⟩, by simp [intOf]; omega⟩
    · obtain rfl : j = m + 1 := by omega
      have HS2 : Hid (smP m (m + 1) = 2 ^ m) := pas_sum m (by omega)
      have t0 : decide (m + 1 ≤ m) = false := decide_eq_false (by omega)
      obtain ⟨s, hs⟩ : ∃ s, s = smP m (m + 1) := ⟨_, rfl⟩
      rw [← hs] at HS2 ⊢
      have HM2 := HM.out
      have hq : ((s : Int) != wrap64 (2 ^ m)) = false := by
        obtain ⟨p, hp⟩ : ∃ p : Nat, p = 2 ^ m := ⟨_, rfl⟩
        have h1 : p ≤ 4611686018427387904 := by rw [hp]; exact Nat.le_trans (Nat.pow_le_pow_right (by decide) HM2) (by decide)
        have h2 : ((2 : Int) ^ m) = (p : Int) := by rw [hp]; simp
        rw [h2, IntWalk.wrap64_in _ (by omega), HS2.out, ← hp]; simp
      clear hs
      go_wp2_with fail
      all_goals (go_ret; exact ⟨by simp, HB.out⟩)
set_option maxRecDepth 100000 in
set_option maxHeartbeats 1000000 in
theorem pascal_zero (hsane : SaneOk) (m : Nat) (n k : Int) (hn : n = m) (hm : m ≤ 62) (h0 : m = 0) (hk : k = 0) (w : World) (hg : Gl w) :
    Calls Tryd.prog 11 #[.int .i64 n, .int .i64 k] w fun e w' => e = .returned (.bool true) ∧ Below w.heap.size w w' := by
  have HS : Hid SaneOk := hsane
  have HG := Lib.hid hg
  clear hg hsane
  have n0 : decide ((m : Int) < 0) = false := decide_eq_false (by omega)
  have n1 : decide ((62 : Int) < (m : Int)) = false := decide_eq_false (by omega)
  obtain ⟨A, hA⟩ : ∃ A, A = chI m k := ⟨_, rfl⟩
  have HC : Hid (∀ w, Calls Tryd.prog 45 #[.int .i64 (m : Int), .int .i64 k] w fun e w' => e = .returned (.tuple #[.int .i64 A, .int .i64 0]) ∧ w = w') := fun w => by rw [hA]; exact Choose_in m k w hm
  have HM : Hid (m ≤ 62) := hm
  have HAL : Hid (A < 9223372036854775808) := by rw [hA]; exact chI_lt hm
  have k0 : decide (0 ≤ k) = true := decide_eq_true (by omega)
  have k2 : decide (k ≤ (m : Int)) = true := decide_eq_true (by omega)
  have a1 : 1 ≤ A := by rw [hA, hk, h0]; decide
  have k4 : decide (0 < A) = true := decide_eq_true (by omega)
  have k6 : 0 < A := by omega
  have m0 : ((m : Int) == 0) = true := by simp [h0]
  clear h0 hk a1
  have HA := Lib.hid hA
  clear hA
  subst hn
  go_enter Tryd.func11, Tryd.ntmps11
  go_upto_region 9 with (first | (go_at_call 16; refine (HS.out _ HG.out).mono ?_; rintro e w2 ⟨rfl, hb⟩; have HB := Lib.hid hb; clear hb HS HG) | (go_at_call 45; refine (HC.out _).mono ?_; rintro e w' ⟨rfl, rfl⟩; simp only [Int.natCast_zero, show ((0 : Nat) : Int) = 0 from rfl]))
  go_wp2_with fail
  go_loop [7, 8] (fun s i => ∃ j : Nat, j ≤ m + 1 ∧ s = .int .i64 (smP m j : Nat) ∧ i = .int .i64 j) (fun _ i => (m + 1) - (intOf i).toNat)
  case atStart => exact ⟨0, by omega, rfl, rfl⟩
  case round =>
    obtain ⟨j, hj, rfl, rfl⟩ := hrel
    by_cases hlt : j < m + 1
    · have t0 : decide (j ≤ m) = true := decide_eq_true (by omega)
      have HM2 := HM.out
      obtain ⟨B, hB⟩ : ∃ B, B = ch m j := ⟨_, rfl⟩
      have e1 : chI m (j : Int) = B := by rw [chI_nat, hB]
      have e2 : chI m ((m : Int) - (j : Int)) = B := by rw [show ((m : Int) - j) = ((m - j : Nat) : Int) by omega, chI_nat, hB, pas_symm m (by omega) j hlt]
      have p1 : 1 ≤ B := by rw [hB]; exact pas_pos m (by omega) j hlt
      have p2 : smP m j + B ≤ 4611686018427387904 := by rw [hB]; exact pas_fit m (by omega) j hlt
      have e3 : smP m (j + 1) = smP m j + B := by rw [hB]; rfl
      obtain ⟨s, hs⟩ : ∃ s, s = smP m j := ⟨_, rfl⟩
      rw [← hs] at p2 e3 ⊢
      have HCg : Hid (∀ k w, Calls Tryd.prog 45 #[.int .i64 (m : Int), .int .i64 k] w fun e w' => e = .returned (.tuple #[.int .i64 (chI m k), .int .i64 0]) ∧ w = w') := fun k w => Choose_in m k w HM.out
      have E3 := Lib.hid e3
      clear e3 hB hs HC HA HB
      have q1 : decide ((B : Int) < 1) = false := decide_eq_false (by omega)
      have q2 : decide ((4611686018427387904 - (B : Int)) < (s : Int)) = false := decide_eq_false (by omega)
      have q3 : wrap64 (4611686018427387904 - (B : Int)) = 4611686018427387904 - (B : Int) := IntWalk.wrap64_in _ (by omega)
      have q4 : wrap64 ((s : Int) + (B : Int)) = ((s + B : Nat) : Int) := by rw [IntWalk.wrap64_in _ (by omega)]; omega
      go_wp2_with (first | (go_at_call 45; refine (HCg.out _ _).mono ?_; rintro e w' ⟨rfl, rfl⟩; simp only [e1, e2]))
      exact ⟨⟨j + 1, by omega, by rw [E3.out]; simp, by simp⟩, by simp [intOf]; omega⟩
    · obtain rfl : j = m + 1 := by omega
      have HS2 : Hid (smP m (m + 1) = 2 ^ m) := pas_sum m (by omega)
      have t0 : decide (m + 1 ≤ m) = false := decide_eq_false (by omega)
      obtain ⟨s, hs⟩ : ∃ s, s = smP m (m + 1) := ⟨_, rfl⟩
      rw [← hs] at HS2 ⊢
      have HM2 := HM.out
      have hq : ((s : Int) != wrap64 (2 ^ m)) = false := by
        obtain ⟨p, hp⟩ : ∃ p : Nat, p = 2 ^ m := ⟨_, rfl⟩
        have h1 : p ≤ 4611686018427387904 := by rw [hp]; exact Nat.le_trans (Nat.pow_le_pow_right (by decide) HM2) (by decide)
        have h2 : ((2 : Int) ^ m) = (p : Int) := by rw [hp]; simp
        rw [h2, IntWalk.wrap64_in _ (by omega), HS2.out, ← hp]; simp
      clear hs
      go_wp2_with fail
      all_goals (go_ret; exact ⟨by simp, HB.out⟩)
set_option maxRecDepth 100000 in
set_option maxHeartbeats 1000000 in
theorem pascal_in (hsane : SaneOk) (m : Nat) (n k : Int) (hn : n = m) (hm : m ≤ 62) (q j0 : Nat) (hq1 : m = q + 1) (hk : k = j0) (hj0 : j0 ≤ m) (w : World) (hg : Gl w) :
    Calls Tryd.prog 11 #[.int .i64 n, .int .i64 k] w fun e w' => e = .returned (.bool true) ∧ Below w.heap.size w w' := by
  have HS : Hid SaneOk := hsane
  have HG := Lib.hid hg
  clear hg hsane
  have n0 : decide ((m : Int) < 0) = false := decide_eq_false (by omega)
  have n1 : decide ((62 : Int) < (m : Int)) = false := decide_eq_false (by omega)
  obtain ⟨A, hA⟩ : ∃ A, A = chI m k := ⟨_, rfl⟩
  have HC : Hid (∀ w, Calls Tryd.prog 45 #[.int .i64 (m : Int), .int .i64 k] w fun e w' => e = .returned (.tuple #[.int .i64 A, .int .i64 0]) ∧ w = w') := fun w => by rw [hA]; exact Choose_in m k w hm
  have HM : Hid (m ≤ 62) := hm
  have HAL : Hid (A < 9223372036854775808) := by rw [hA]; exact chI_lt hm
  have a1 : 1 ≤ A := by rw [hA, hk, chI_nat]; exact ch_pos hm hj0
  have k0 : decide (0 ≤ k) = true := decide_eq_true (by omega)
  have k1 : decide (k < 0) = false := decide_eq_false (by omega)
  have k2 : decide (k ≤ (m : Int)) = true := decide_eq_true (by omega)
  have k3 : decide ((m : Int) < k) = false := decide_eq_false (by omega)
  have k4 : decide (0 < A) = true := decide_eq_true (by omega)
  have k6 : 0 < A := by omega
  have m0 : ((m : Int) == 0) = false := by simp; omega
  obtain ⟨B1, hB1⟩ : ∃ b, b = chI q (k - 1) := ⟨_, rfl⟩
  obtain ⟨B2, hB2⟩ : ∃ b, b = chI q k := ⟨_, rfl⟩
  have HAB : Hid (A = B1 + B2) := by
    rw [Hid, hA, hB1, hB2, hk, hq1, chI_nat, chI_nat]
    cases j0 with
    | zero => rfl
    | succ j => rw [show (((j + 1 : Nat) : Int) - 1) = (j : Int) by omega, chI_nat]; exact ch_pascal (by omega)
  have hqm : (m : Int) - 1 = (q : Int) := by omega
  have HCq : Hid (∀ k w, Calls Tryd.prog 45 #[.int .i64 ((m : Int) - 1), .int .i64 k] w fun e w' => e = .returned (.tuple #[.int .i64 (chI q k), .int .i64 0]) ∧ w = w') := fun k w => by rw [hqm]; exact Choose_in q k w (by omega)
  have HE1 : Hid (chI q (wrap64 (k - 1)) = B1) := by rw [Hid, IntWalk.wrap64_in _ (by omega)]; exact hB1.symm
  have HE2 : Hid (chI q k = B2) := hB2.symm
  clear hB1 hB2 hqm hq1 hk hj0 a1
  have HA := Lib.hid hA
  clear hA
  subst hn
  go_enter Tryd.func11, Tryd.ntmps11
  go_upto_region 9 with (first | (go_at_call 16; refine (HS.out _ HG.out).mono ?_; rintro e w2 ⟨rfl, hb⟩; have HB := Lib.hid hb; clear hb HS HG) | (go_at_call 45; refine (HC.out _).mono ?_; rintro e w' ⟨rfl, rfl⟩; simp only [Int.natCast_zero, show ((0 : Nat) : Int) = 0 from rfl]))
  go_wp2_with fail
  go_loop [7, 8] (fun s i => ∃ j : Nat, j ≤ m + 1 ∧ s = .int .i64 (smP m j : Nat) ∧ i = .int .i64 j) (fun _ i => (m + 1) - (intOf i).toNat)
  case atStart => exact ⟨0, by omega, rfl, rfl⟩
  case round =>
    obtain ⟨j, hj, rfl, rfl⟩ := hrel
    by_cases hlt : j < m + 1
    · have t0 : decide (j ≤ m) = true := decide_eq_true (by omega)
      have HM2 := HM.out
      obtain ⟨B, hB⟩ : ∃ B, B = ch m j := ⟨_, rfl⟩
      have e1 : chI m (j : Int) = B := by rw [chI_nat, hB]
      have e2 : chI m ((m : Int) - (j : Int)) = B := by rw [show ((m : Int) - j) = ((m - j : Nat) : Int) by omega, chI_nat, hB, pas_symm m (by omega) j hlt]
      have p1 : 1 ≤ B := by rw [hB]; exact pas_pos m (by omega) j hlt
      have p2 : smP m j + B ≤ 4611686018427387904 := by rw [hB]; exact pas_fit m (by omega) j hlt
      have e3 : smP m (j + 1) = smP m j + B := by rw [hB]; rfl
      obtain ⟨s, hs⟩ : ∃ s, s = smP m j := ⟨_, rfl⟩
      rw [← hs] at p2 e3 ⊢
      have HCg : Hid (∀ k w, Calls Tryd.prog 45 #[.int .i64 (m : Int), .int .i64 k] w fun e w' => e = .returned (.tuple #[.int .i64 (chI m k), .int .i64 0]) ∧ w = w') := fun k w => Choose_in m k w HM.out
      have E3 := Lib.hid e3
      clear e3 hB hs HC HA HB
      have q1 : decide ((B : Int) < 1) = false := decide_eq_false (by omega)
      have q2 : decide ((4611686018427387904 - (B : Int)) < (s : Int)) = false := decide_eq_false (by omega)
      have q3 : wrap64 (4611686018427387904 - (B : Int)) = 4611686018427387904 - (B : Int) := IntWalk.wrap64_in _ (by omega)
      have q4 : wrap64 ((s : Int) + (B : Int)) = ((s + B : Nat) : Int) := by rw [IntWalk.wrap64_in _ (by omega)]; omega
      go_wp2_with (first | (go_at_call 45; refine (HCg.out _ _).mono ?_; rintro e w' ⟨rfl, rfl⟩; simp only [e1, e2]))
      exact ⟨⟨j + 1, by omega, by rw [E3.out]; simp, by simp⟩, by simp [intOf]; omega⟩
    · obtain rfl : j = m + 1 := by omega
      have HS2 : Hid (smP m (m + 1) = 2 ^ m) := pas_sum m (by omega)
      have t0 : decide (m + 1 ≤ m) = false := decide_eq_false (by omega)
      obtain ⟨s, hs⟩ : ∃ s, s = smP m (m + 1) := ⟨_, rfl⟩
      rw [← hs] at HS2 ⊢
      have HM2 := HM.out
      have hq : ((s : Int) != wrap64 (2 ^ m)) = false := by
        obtain ⟨p, hp⟩ : ∃ p : Nat, p = 2 ^ m := ⟨_, rfl⟩
        have h1 : p ≤ 4611686018427387904 := by rw [hp]; exact Nat.le_trans (Nat.pow_le_pow_right (by decide) HM2) (by decide)
        have h2 : ((2 : Int) ^ m) = (p : Int) := by rw [hp]; simp
        rw [h2, IntWalk.wrap64_in _ (by omega), HS2.out, ← hp]; simp
      clear hs
      have hAB := HAB.out
      have hAL := HAL.out
      have q5 : wrap64 ((B1 : Int) + (B2 : Int)) = (A : Int) := by rw [IntWalk.wrap64_in _ (by omega)]; omega
      have x1 := HE1.out
      have x2 := HE2.out
      clear hAB
      go_wp2_with (first | (go_at_call 45; refine (HCq.out _ _).mono ?_; rintro e w' ⟨rfl, rfl⟩; simp only [x1, x2]))
      all_goals (go_ret; exact ⟨by simp, HB.out⟩)
theorem bitsPascal_any (hsane : SaneOk) (n k : Int) (w : World) (hg : Gl w) :
    Calls Tryd.prog 11 #[.int .i64 n, .int .i64 k] w fun e w' => e = .returned (.bool true) ∧ Below w.heap.size w w' := by
  by_cases h1 : n < 0
  · exact pascal_lo hsane n k h1 w hg
  by_cases h2 : 62 < n
  · exact pascal_hi hsane n k h2 w hg
  obtain ⟨m, rfl⟩ := Int.eq_ofNat_of_zero_le (show 0 ≤ n by omega)
  by_cases h3 : k < 0
  · exact pascal_neg hsane m m k rfl (by omega) h3 w hg
  by_cases h4 : (m : Int) < k
  · exact pascal_above hsane m m k rfl (by omega) h4 w hg
  obtain ⟨j, rfl⟩ := Int.eq_ofNat_of_zero_le (show 0 ≤ k by omega)
  cases m with
  | zero => exact pascal_zero hsane 0 0 j rfl (by omega) rfl (by omega) w hg
  | succ q => exact pascal_in hsane (q + 1) _ j rfl (by omega) q j rfl rfl (by omega) w hg
end Go.Proofs.YtfeknabddcohoaaDoor
namespace Go.Proofs.YtfeknabddcohoaaDoor
set_option linter.unusedSimpArgs false
set_option linter.unusedVariables false
open Go Go.RowKit Go.ChangeShapes Go.WideShapes Go.ChangeAt

set_option maxRecDepth 100000 in
theorem bitsPascal_lifted (os : Os) (started : os.Started) (H : Type) (enc : TypeId × Value → H) :
    ReturnsInHanded {} Tryd.checked os 11 .any (fun w args => (Rows.bitsPascalSpec.pre enc Tryd.prog Tryd.f11 [] false w args ∧ laidMetH Tryd.prog laidS w) ∧ sizedMet enc Tryd.prog Tryd.f11 (OpenSpec.ofChange Rows.bitsPascalSpec) false w args)
      (Rows.bitsPascalSpec.post enc Tryd.prog Tryd.f11 false true false false) := by
  refine lifted_of started (by kernel_rfl) Tryd.func11
    (ChangeSpec.witness_shaped (enc := enc) (C := Tryd.checked) (os := os) (X := fun w _ => laidMetH Tryd.prog laidS w) false (World.laidAll Tryd.prog os laidS) #[.int .i64 0, .int .i64 0] 8 (World.laidAll_os _ _ _)
      (World.shaped_of_ZipB (by kernel_rfl) (by kernel_rfl)) (by kernel_rfl) (by kernel_rfl) (by kernel_rfl) (laid_met os _)) ?_
  intro W base args ds gs before hg hval0 hW _
  have hval : ∀ (j : Nat) t v, Tryd.f11.params[j]? = some t → args[j]? = some v → Value.okWide Tryd.prog W .any base t v := hval0
  have hW' := hW
  obtain ⟨p, q, hA0, hV, rfl, _, _⟩ := hW
  have hA : DataW.TrodAll enc Tryd.prog W 0 (fun _ => true) true Tryd.f11.params.toList args.toList ds p := hA0
  rw [Tryd.params11] at hA hval
  obtain ⟨v0, v1, d0, d1, p0, p1, rfl, rfl, rfl, h0, h1⟩ := trodAll_two hA
  obtain ⟨rfl, rfl⟩ := trodVars_none hV
  obtain ⟨x0, rfl, rfl, rfl, w0⟩ := open_int Tryd.underlying3 (hval 0 _ v0 rfl rfl) h0
  have b0 : -9223372036854775808 ≤ x0 ∧ x0 ≤ 9223372036854775807 := by simpa [Lit.wf, IntKind.min, IntKind.max, IntKind.signed, IntKind.bits] using w0
  obtain ⟨x1, rfl, rfl, rfl, w1⟩ := open_int Tryd.underlying3 (hval 1 _ v1 rfl rfl) h1
  have b1 : -9223372036854775808 ≤ x1 ∧ x1 ≤ 9223372036854775807 := by simpa [Lit.wf, IntKind.min, IntKind.max, IntKind.signed, IntKind.bits] using w1
  simp only [List.append_nil] at hW'
  refine (bitsPascal_any sane_any x0 x1 W hg).mono fun e W' ⟨he, hb⟩ => ?_
  subst he
  exact ⟨_, rfl, _, _, _, [], [], [], hW', trodAll_mk1 (shut_bool Tryd.underlying4 _), trodAll_mk2 (shut_int Tryd.underlying3 w0) (shut_int Tryd.underlying3 w1), rfl, hb.frame _, fun h => by cases h⟩
theorem bitsPascal_holds : Rows.BitsPascalSaid :=
  OpenClaim.holds_of_wide 11 Tryd.f11 rfl rfl rfl rfl rfl rfl rfl ⟨rfl, rfl, rfl, rfl, rfl⟩ rfl rfl rfl rfl rfl (by kernel_rfl) Tryd.func11 (by kernel_rfl)
    (of_decide_eq_true (by kernel_rfl)) (by unfold Func.isWrapper; first | (rw [if_pos (by decide +kernel)]; kernel_rfl) | (rw [if_neg (by decide +kernel)]; exact ⟨rfl, rfl⟩))
    (fun os started H enc _ => bitsPascal_lifted os started H enc)
theorem bitsPascal_card : Rows.BitsPascalCardSaid :=
  Claim7.holds_tied_plain_at .later [] [.data, .data, .data, .sentinel, .sentinel] true Rows.bitsPascalCard.stood.harness true bitsPascal_holds (fun _ h => by cases h) (by kernel_rfl) (fun _ h => by cases h) bitsPascal_row_tie rfl ⟨rfl, rfl⟩ (by kernel_rfl) rfl
    (fun f fn hf hfn => by
      obtain rfl : f = 11 := Option.some.inj ((show Tryd.prog.funcNamed "bonehouse/bonehouselaw01.BitsPascal" = some 11 by kernel_rfl).symm.trans hf) |>.symm
      obtain rfl : fn = Tryd.f11 := (Option.some.inj (Tryd.func11.symm.trans hfn)).symm
      exact ⟨by kernel_rfl, fun j t ht => by
        rw [Tryd.params11] at ht
        have hm : t ∈ [3, 3] := by simpa using Array.mem_of_getElem? ht
        have hall : ([3, 3].all fun u => !Tryd.prog.wantsStandIn u) = true := by kernel_rfl
        exact (show Tryd.prog.wantsStandIn t = false by simpa using List.all_eq_true.1 hall t hm)⟩)
    (by kernel_rfl)
#print axioms bitsPascal_card
end Go.Proofs.YtfeknabddcohoaaDoor
