/- The specification's own functions on sets. -/
import Derived.Test.YtjifajigigflkaaDoorQ9
import Derived.WalkMore
import Derived.Deep.LoopGhost
/- The specification's own functions: member, Has, with, With. -/
namespace Go.Proofs.YtjifajigigflkaaDoor
set_option linter.unusedSimpArgs false
set_option linter.unusedVariables false
open Go Go.RowKit

theorem rmember_yes (n : Int) (w : World) (h : 0 ≤ n) (h1 : n ≤ 255) :
    Calls Tryd.prog 65 #[.int .i64 n] w fun e w' => e = .returned (.bool true) ∧ w = w' := by
  go_enter Tryd.func65, Tryd.ntmps65
  go_wp2
  go_ret
  exact ⟨by simp, rfl⟩
theorem rmember_no (n : Int) (w : World) (h : n < 0 ∨ 255 < n) :
    Calls Tryd.prog 65 #[.int .i64 n] w fun e w' => e = .returned (.bool false) ∧ w = w' := by
  rcases h with h | h
  · go_enter Tryd.func65, Tryd.ntmps65
    go_wp2
    go_ret
    exact ⟨rfl, rfl⟩
  · have h0 : 0 ≤ n := by omega
    go_enter Tryd.func65, Tryd.ntmps65
    go_wp2
    go_ret
    exact ⟨by simp; omega, rfl⟩
theorem rhas_in (N m : Nat) (w : World) (hm : m < 256) :
    Calls Tryd.prog 28 #[setV N, .int .i64 m] w fun e w' => e = .returned (.bool (N.testBit m)) ∧ Below w.heap.size w w' := by
  have hs := setL_get N (m/64) (by omega)
  have hb := has_bit N m
  go_enter Tryd.func28, Tryd.ntmps28
  simp only [setV]
  go_wp2_with (first | (go_at_call 65; refine (rmember_yes _ _ (by omega) (by omega)).mono ?_; rintro e w' ⟨rfl, rfl⟩) )
  go_ret
  exact ⟨by simp only [Array.getD_eq_getD_getElem?]; simp, (Below.refl _ _).alloc (Nat.le_refl _) _⟩
theorem rhas_out (N : Nat) (n : Int) (w : World) (h : n < 0 ∨ 255 < n) :
    Calls Tryd.prog 28 #[setV N, .int .i64 n] w fun e w' => e = .returned (.bool false) ∧ Below w.heap.size w w' := by
  go_enter Tryd.func28, Tryd.ntmps28
  simp only [setV]
  go_wp2_with (first | (go_at_call 65; refine (rmember_no _ _ h).mono ?_; rintro e w' ⟨rfl, rfl⟩) )
  go_ret
  exact ⟨rfl, (Below.refl _ _).alloc (Nat.le_refl _) _⟩
theorem rhas_any (N : Nat) (n : Int) (w : World) :
    Calls Tryd.prog 28 #[setV N, .int .i64 n] w fun e w' => e = .returned (.bool (hasB N n)) ∧ Below w.heap.size w w' := by
  by_cases h : 0 ≤ n ∧ n ≤ 255
  · obtain ⟨m, rfl⟩ := Int.eq_ofNat_of_zero_le h.1
    have := rhas_in N m w (by omega)
    rwa [show hasB N (m : Int) = N.testBit m from ?_]
    unfold hasB; simp; omega
  · have := rhas_out N n w (by omega)
    rwa [show hasB N n = false from ?_]
    unfold hasB; simp; omega
set_option maxRecDepth 100000 in
theorem rwith_in (N m : Nat) (w : World) (hm : m < 256) :
    Calls Tryd.prog 66 #[setV N, .int .i64 m] w fun e w' => e = .returned (setV (N ||| 2^m)) ∧ Below w.heap.size w w' := by
  have hs := setL_get N (m/64) (by omega)
  have hset := setL_with N m hm
  go_enter Tryd.func66, Tryd.ntmps66
  simp only [setV]
  go_wp2
  refine wp_region_same 11 17 [0, 1, 2, 3, 4, 5, 6, 7, 8, 9, 10] (by kernel_rfl) (by kernel_rfl) (by kernel_rfl) (by kernel_rfl) (by rfl) ?_
  (refine same_step rfl (by rfl) (by rfl) rfl (Nat.le_of_ble_eq_true rfl) ?_; apply Exists.intro; refine ⟨fun N hN => ?_, ?_⟩; (next => (go_wp2; all_goals rfl)); try simp only [Act.put, slotL_succ, slotL_zero, List.setIfInBounds_toArray, List.set_cons_zero, List.set_cons_succ])
  (refine same_step rfl (by rfl) (by rfl) rfl (Nat.le_of_ble_eq_true rfl) ?_; apply Exists.intro; refine ⟨fun N hN => ?_, ?_⟩; (next => (go_wp2; all_goals rfl)); try simp only [Act.put, slotL_succ, slotL_zero, List.setIfInBounds_toArray, List.set_cons_zero, List.set_cons_succ])
  (refine same_step rfl (by rfl) (by rfl) rfl (Nat.le_of_ble_eq_true rfl) ?_; apply Exists.intro; refine ⟨fun N hN => ?_, ?_⟩; (next => (go_wp2; all_goals rfl)); try simp only [Act.put, slotL_succ, slotL_zero, List.setIfInBounds_toArray, List.set_cons_zero, List.set_cons_succ])
  (refine same_step rfl (by rfl) (by rfl) rfl (Nat.le_of_ble_eq_true rfl) ?_; apply Exists.intro; refine ⟨fun N hN => ?_, ?_⟩; (next => (go_wp2; all_goals rfl)); try simp only [Act.put, slotL_succ, slotL_zero, List.setIfInBounds_toArray, List.set_cons_zero, List.set_cons_succ])
  (refine same_step rfl (by rfl) (by rfl) rfl (Nat.le_of_ble_eq_true rfl) ?_; apply Exists.intro; refine ⟨fun N hN => ?_, ?_⟩; (next => (go_wp2; all_goals rfl)); try simp only [Act.put, slotL_succ, slotL_zero, List.setIfInBounds_toArray, List.set_cons_zero, List.set_cons_succ])
  (refine same_step rfl (by rfl) (by rfl) rfl (Nat.le_of_ble_eq_true rfl) ?_; apply Exists.intro; refine ⟨fun N hN => ?_, ?_⟩; (next => (go_wp2; all_goals rfl)); try simp only [Act.put, slotL_succ, slotL_zero, List.setIfInBounds_toArray, List.set_cons_zero, List.set_cons_succ])
  (refine same_step rfl (by rfl) (by rfl) rfl (Nat.le_of_ble_eq_true rfl) ?_; apply Exists.intro; refine ⟨fun N hN => ?_, ?_⟩; (next => (go_wp2; all_goals rfl)); try simp only [Act.put, slotL_succ, slotL_zero, List.setIfInBounds_toArray, List.set_cons_zero, List.set_cons_succ])
  (refine same_step rfl (by rfl) (by rfl) rfl (Nat.le_of_ble_eq_true rfl) ?_; apply Exists.intro; refine ⟨fun N hN => ?_, ?_⟩; (next => (go_wp2; all_goals rfl)); try simp only [Act.put, slotL_succ, slotL_zero, List.setIfInBounds_toArray, List.set_cons_zero, List.set_cons_succ])
  (refine same_step rfl (by rfl) (by rfl) rfl (Nat.le_of_ble_eq_true rfl) ?_; apply Exists.intro; refine ⟨fun N hN => ?_, ?_⟩; (next => (go_wp2; all_goals rfl)); try simp only [Act.put, slotL_succ, slotL_zero, List.setIfInBounds_toArray, List.set_cons_zero, List.set_cons_succ])
  (refine same_step rfl (by rfl) (by rfl) rfl (Nat.le_of_ble_eq_true rfl) ?_; apply Exists.intro; refine ⟨fun N hN => ?_, ?_⟩; (next => (go_wp2; all_goals rfl)); try simp only [Act.put, slotL_succ, slotL_zero, List.setIfInBounds_toArray, List.set_cons_zero, List.set_cons_succ])
  (refine same_step rfl (by rfl) (by rfl) rfl (Nat.le_of_ble_eq_true rfl) ?_; apply Exists.intro; refine ⟨fun N hN => ?_, ?_⟩; (next => (go_wp2; all_goals rfl)); try simp only [Act.put, slotL_succ, slotL_zero, List.setIfInBounds_toArray, List.set_cons_zero, List.set_cons_succ])
  refine wpC_nil ?_
  simp only [List.drop_succ_cons, List.drop_zero, List.drop_nil]
  go_wp2
  refine bodyPost_ret (v := setV (N ||| 2^m)) (by simp [results, Tryd.results66, go_sem, setV]) rfl ⟨rfl, ?_⟩
  exact (((Below.refl _ _).alloc (Nat.le_refl _) _).alloc (by simp) _).drew
set_option maxRecDepth 100000 in
theorem rWith_in (N m : Nat) (w : World) (hm : m < 256) :
    Calls Tryd.prog 20 #[setV N, .int .i64 m] w fun e w' => e = .returned (.tuple #[setV (N ||| 2^m), .int .i64 0]) ∧ Below w.heap.size w w' := by
  have HC : Hid (∀ w, Calls Tryd.prog 66 #[setV N, .int .i64 m] w fun e w' => e = .returned (setV (N ||| 2^m)) ∧ Below w.heap.size w w') := fun w => rwith_in N m w hm
  go_enter Tryd.func20, Tryd.ntmps20
  simp only [setV]
  go_wp2_with (first | (go_at_call 65; refine (rmember_yes _ _ (by omega) (by omega)).mono ?_; rintro e w' ⟨rfl, rfl⟩) | (go_at_call 66; refine (HC.out _).mono ?_; rintro e w2 ⟨rfl, hb⟩; simp only [setV]; have hB := Lib.hid ((Blk.newS1 w (.cells #[.int .u64 ↑(word N 0), .int .u64 ↑(word N 1), .int .u64 ↑(word N 2), .int .u64 ↑(word N 3)] 25) 25).below hb (by simp)); have HW := Lib.hid ((below_new2 w _ _).trans (hb.mono (by simp; omega))); clear hb; obtain ⟨d0, d1, d2, d3, g0⟩ := hB.out.set4))
  refine named (fun W => Blk W (w.heap.size + 1) (setA (N ||| 2 ^ m)) 25 ∧ Below w.heap.size w W) ⟨hB.out.put4 (by rfl) _ _ _ _, below_put4 HW.out (by omega) _ _ _ _⟩ ?_
  rintro W ⟨hB', hbW⟩
  obtain ⟨q0, q1, q2, q3, _⟩ := hB'.set4
  exact bodyPost_ret (v := .tuple #[setV (N ||| 2^m), .int .i64 0]) (by simp [results, Tryd.results20, go_sem, q0, q1, q2, q3, setV]) rfl ⟨rfl, hbW⟩
theorem rWith_out (N : Nat) (n : Int) (w : World) (h : n < 0 ∨ 255 < n) :
    Calls Tryd.prog 20 #[setV N, .int .i64 n] w fun e w' => e = .returned (.tuple #[setV 0, .int .i64 1]) ∧ Below w.heap.size w w' := by
  go_enter Tryd.func20, Tryd.ntmps20
  simp only [setV]
  go_wp2_with (first | (go_at_call 65; refine (rmember_no _ _ h).mono ?_; rintro e w' ⟨rfl, rfl⟩) )
  refine bodyPost_ret (v := .tuple #[setV 0, .int .i64 1]) (by simp [results, Tryd.results20, go_sem, word_zero, setV]) rfl ⟨rfl, ?_⟩
  exact (((Below.refl _ _).alloc (Nat.le_refl _) _).alloc (by simp) _)
end Go.Proofs.YtjifajigigflkaaDoor
/- The specification's own functions: Union, Common, Minus. -/
namespace Go.Proofs.YtjifajigigflkaaDoor
set_option linter.unusedSimpArgs false
set_option linter.unusedVariables false
open Go Go.RowKit

/-- The numbers below k of a test, as a set. -/
def lowB (f : Nat → Bool) : Nat → Nat
  | 0 => 0
  | k + 1 => if f k then lowB f k ||| 2 ^ k else lowB f k
theorem lowB_yes {f : Nat → Bool} {k : Nat} (h : f k = true) : lowB f (k + 1) = lowB f k ||| 2 ^ k := by simp only [lowB]; rw [if_pos h]
theorem lowB_no {f : Nat → Bool} {k : Nat} (h : f k = false) : lowB f (k + 1) = lowB f k := by simp only [lowB]; rw [if_neg (by simp [h])]
theorem lowB_bit (f : Nat → Bool) (i : Nat) : ∀ k, (lowB f k).testBit i = (decide (i < k) && f i)
  | 0 => by simp [lowB]
  | k + 1 => by
    cases h : f k with
    | true =>
      rw [lowB_yes h, Nat.testBit_or, lowB_bit f i k, Nat.testBit_two_pow]
      by_cases e : k = i
      · subst e; simp [h]
      · have : decide (i < k + 1) = decide (i < k) := by congr 1; apply propext; omega
        rw [this]; simp [e]
    | false =>
      rw [lowB_no h, lowB_bit f i k]
      by_cases e : k = i
      · subst e; simp [h]
      · have : decide (i < k + 1) = decide (i < k) := by congr 1; apply propext; omega
        rw [this]
theorem lowB_eq {f : Nat → Bool} {R : Nat} (hR : R < 2 ^ 256) (h : ∀ i, i < 256 → f i = R.testBit i) : lowB f 256 = R := by
  apply Nat.eq_of_testBit_eq
  intro i
  rw [lowB_bit]
  by_cases hi : i < 256
  · simp [hi, h i hi]
  · rw [testBit_big hR (by omega)]; simp [hi]
/-- The blocks of a loop over two sets. -/
def RS (N M B R : Nat) (w wr : World) : Prop := Blk wr B (setA N) 25 ∧ Blk wr (B + 1) (setA M) 25 ∧ Blk wr (B + 2) (setA 0) 25 ∧ Blk wr (B + 3) (setA R) 25 ∧ Below B w wr
theorem RS.start (N M : Nat) (w : World) : RS N M w.heap.size 0 w ((((w.alloc (.cells #[.int .u64 ↑(word N 0), .int .u64 ↑(word N 1), .int .u64 ↑(word N 2), .int .u64 ↑(word N 3)] 25)).alloc (.cells #[.int .u64 ↑(word M 0), .int .u64 ↑(word M 1), .int .u64 ↑(word M 2), .int .u64 ↑(word M 3)] 25)).alloc (.cells #[.int .u64 0, .int .u64 0, .int .u64 0, .int .u64 0] 25)).alloc (.cells #[.int .u64 0, .int .u64 0, .int .u64 0, .int .u64 0] 25)) :=
  ⟨(((Blk.newW _ _ _).alloc _).alloc _).alloc _, ((Blk.newAt' (by simp) (setA M) _).alloc _).alloc _, by rw [setA_zero]; exact (Blk.newAt' (by simp) _ _).alloc _, by rw [setA_zero]; exact Blk.newAt' (by simp) _ _, ((below_new2 w _ _).alloc (by simp; omega) _).alloc (by simp; omega) _⟩
theorem RS.below {N M B R : Nat} {w wr w' : World} (h : RS N M B R w wr) (hB : B = w.heap.size) (hb : Below wr.heap.size wr w') : RS N M B R w w' :=
  ⟨h.1.below hb h.1.lt, h.2.1.below hb h.2.1.lt, h.2.2.1.below hb h.2.2.1.lt, h.2.2.2.1.below hb h.2.2.2.1.lt, h.2.2.2.2.trans (hb.mono (by have := h.1.lt; omega))⟩
theorem RS.put {N M B R : Nat} {w wr : World} (h : RS N M B R w wr) (R' : Nat) : RS N M B R' w ((((wr.setCell ⟨B + 3, 0, none⟩ (.int .u64 ↑(word R' 0))).setCell ⟨B + 3, 1, none⟩ (.int .u64 ↑(word R' 1))).setCell ⟨B + 3, 2, none⟩ (.int .u64 ↑(word R' 2))).setCell ⟨B + 3, 3, none⟩ (.int .u64 ↑(word R' 3))) :=
  ⟨h.1.other4 (by omega) _ _ _ _, h.2.1.other4 (by omega) _ _ _ _, h.2.2.1.other4 (by omega) _ _ _ _, h.2.2.2.1.putS R', below_put4 h.2.2.2.2 (by omega) _ _ _ _⟩
set_option maxRecDepth 100000 in
set_option maxHeartbeats 1000000 in
theorem rUnion_any (N M : Nat) (w : World) (hN : N < 2 ^ 256) (hM : M < 2 ^ 256) :
    Calls Tryd.prog 32 #[setV N, setV M] w fun e w' => e = .returned (setV (N ||| M)) ∧ Below w.heap.size w w' := by
  have HE : Hid (lowB (fun i => N.testBit i || M.testBit i) 256 = N ||| M) := lowB_eq (Nat.or_lt_two_pow hN hM) fun i _ => by simp [Nat.testBit_or]
  go_enter Tryd.func32, Tryd.ntmps32
  simp only [setV]
  go_wp2_with fail
  go_loopw [6] (fun sv wr => ∃ k : Nat, k ≤ 256 ∧ sv = .int .i64 k ∧ RS N M w.heap.size (lowB (fun i => N.testBit i || M.testBit i) k) w wr) (fun sv _ => 256 - (intOf sv).toNat)
  case atStart => exact ⟨0, by omega, rfl, RS.start N M w⟩
  case round =>
    obtain ⟨k, hk, rfl, hG⟩ := hrel
    have G := Lib.hid hG
    clear hG
    by_cases hlt : k < 256
    · obtain ⟨a0, a1, a2, a3, af⟩ := G.out.1.set4
      obtain ⟨b0, b1, b2, b3, bf⟩ := G.out.2.1.set4
      obtain ⟨d0, d1, d2, d3, df⟩ := G.out.2.2.2.1.set4
      have HC : Hid (∀ R w, Calls Tryd.prog 66 #[setV R, .int .i64 k] w fun e w' => e = .returned (setV (R ||| 2^k)) ∧ Below w.heap.size w w') := fun R w => rwith_in R k w hlt
      cases ha : N.testBit k with
      | true =>
        have HA : Hid (∀ w, Calls Tryd.prog 28 #[setV N, .int .i64 k] w fun e w' => e = .returned (.bool true) ∧ Below w.heap.size w w') := fun w => by have := rhas_in N k w hlt; rwa [ha] at this
        cases hb : M.testBit k with
        | true =>
          have HB : Hid (∀ w, Calls Tryd.prog 28 #[setV M, .int .i64 k] w fun e w' => e = .returned (.bool true) ∧ Below w.heap.size w w') := fun w => by have := rhas_in M k w hlt; rwa [hb] at this
          have HR : Hid (lowB (fun i => N.testBit i || M.testBit i) (k + 1) = lowB (fun i => N.testBit i || M.testBit i) k ||| 2 ^ k) := lowB_yes (by simp [ha, hb])
          obtain ⟨R, hR⟩ : ∃ R, R = lowB (fun i => N.testBit i || M.testBit i) k := ⟨_, rfl⟩
          have HRR := Lib.hid hR
          rw [← hR] at HR G d0 d1 d2 d3
          clear ha hb hR
          go_wp2_with (first | (go_at_call 28; refine (HA.out _).mono ?_; rintro e wn ⟨rfl, hb⟩; have G := Lib.hid (G.out.below rfl hb); clear hb HA; obtain ⟨b0, b1, b2, b3, bf⟩ := G.out.2.1.set4; obtain ⟨d0, d1, d2, d3, df⟩ := G.out.2.2.2.1.set4) | (go_at_call 28; refine (HB.out _).mono ?_; rintro e wn ⟨rfl, hb⟩; have G := Lib.hid (G.out.below rfl hb); clear hb; obtain ⟨d0, d1, d2, d3, df⟩ := G.out.2.2.2.1.set4) | (go_at_call 66; refine (HC.out R _).mono ?_; rintro e wn ⟨rfl, hb⟩; have G := Lib.hid (G.out.below rfl hb); clear hb; simp only [setV]; obtain ⟨d0, d1, d2, d3, df⟩ := G.out.2.2.2.1.set4))
          exact ⟨⟨k + 1, by omega, rfl, by rw [HR.out]; exact G.out.put _⟩, by simp [intOf]; omega⟩
        | false =>
          have HB : Hid (∀ w, Calls Tryd.prog 28 #[setV M, .int .i64 k] w fun e w' => e = .returned (.bool false) ∧ Below w.heap.size w w') := fun w => by have := rhas_in M k w hlt; rwa [hb] at this
          have HR : Hid (lowB (fun i => N.testBit i || M.testBit i) (k + 1) = lowB (fun i => N.testBit i || M.testBit i) k ||| 2 ^ k) := lowB_yes (by simp [ha, hb])
          obtain ⟨R, hR⟩ : ∃ R, R = lowB (fun i => N.testBit i || M.testBit i) k := ⟨_, rfl⟩
          have HRR := Lib.hid hR
          rw [← hR] at HR G d0 d1 d2 d3
          clear ha hb hR
          go_wp2_with (first | (go_at_call 28; refine (HA.out _).mono ?_; rintro e wn ⟨rfl, hb⟩; have G := Lib.hid (G.out.below rfl hb); clear hb HA; obtain ⟨b0, b1, b2, b3, bf⟩ := G.out.2.1.set4; obtain ⟨d0, d1, d2, d3, df⟩ := G.out.2.2.2.1.set4) | (go_at_call 28; refine (HB.out _).mono ?_; rintro e wn ⟨rfl, hb⟩; have G := Lib.hid (G.out.below rfl hb); clear hb; obtain ⟨d0, d1, d2, d3, df⟩ := G.out.2.2.2.1.set4) | (go_at_call 66; refine (HC.out R _).mono ?_; rintro e wn ⟨rfl, hb⟩; have G := Lib.hid (G.out.below rfl hb); clear hb; simp only [setV]; obtain ⟨d0, d1, d2, d3, df⟩ := G.out.2.2.2.1.set4))
          exact ⟨⟨k + 1, by omega, rfl, by rw [HR.out]; exact G.out.put _⟩, by simp [intOf]; omega⟩
      | false =>
        have HA : Hid (∀ w, Calls Tryd.prog 28 #[setV N, .int .i64 k] w fun e w' => e = .returned (.bool false) ∧ Below w.heap.size w w') := fun w => by have := rhas_in N k w hlt; rwa [ha] at this
        cases hb : M.testBit k with
        | true =>
          have HB : Hid (∀ w, Calls Tryd.prog 28 #[setV M, .int .i64 k] w fun e w' => e = .returned (.bool true) ∧ Below w.heap.size w w') := fun w => by have := rhas_in M k w hlt; rwa [hb] at this
          have HR : Hid (lowB (fun i => N.testBit i || M.testBit i) (k + 1) = lowB (fun i => N.testBit i || M.testBit i) k ||| 2 ^ k) := lowB_yes (by simp [ha, hb])
          obtain ⟨R, hR⟩ : ∃ R, R = lowB (fun i => N.testBit i || M.testBit i) k := ⟨_, rfl⟩
          have HRR := Lib.hid hR
          rw [← hR] at HR G d0 d1 d2 d3
          clear ha hb hR
          go_wp2_with (first | (go_at_call 28; refine (HA.out _).mono ?_; rintro e wn ⟨rfl, hb⟩; have G := Lib.hid (G.out.below rfl hb); clear hb HA; obtain ⟨b0, b1, b2, b3, bf⟩ := G.out.2.1.set4; obtain ⟨d0, d1, d2, d3, df⟩ := G.out.2.2.2.1.set4) | (go_at_call 28; refine (HB.out _).mono ?_; rintro e wn ⟨rfl, hb⟩; have G := Lib.hid (G.out.below rfl hb); clear hb; obtain ⟨d0, d1, d2, d3, df⟩ := G.out.2.2.2.1.set4) | (go_at_call 66; refine (HC.out R _).mono ?_; rintro e wn ⟨rfl, hb⟩; have G := Lib.hid (G.out.below rfl hb); clear hb; simp only [setV]; obtain ⟨d0, d1, d2, d3, df⟩ := G.out.2.2.2.1.set4))
          exact ⟨⟨k + 1, by omega, rfl, by rw [HR.out]; exact G.out.put _⟩, by simp [intOf]; omega⟩
        | false =>
          have HB : Hid (∀ w, Calls Tryd.prog 28 #[setV M, .int .i64 k] w fun e w' => e = .returned (.bool false) ∧ Below w.heap.size w w') := fun w => by have := rhas_in M k w hlt; rwa [hb] at this
          have HR : Hid (lowB (fun i => N.testBit i || M.testBit i) (k + 1) = lowB (fun i => N.testBit i || M.testBit i) k) := lowB_no (by simp [ha, hb])
          obtain ⟨R, hR⟩ : ∃ R, R = lowB (fun i => N.testBit i || M.testBit i) k := ⟨_, rfl⟩
          have HRR := Lib.hid hR
          rw [← hR] at HR G d0 d1 d2 d3
          clear ha hb hR
          go_wp2_with (first | (go_at_call 28; refine (HA.out _).mono ?_; rintro e wn ⟨rfl, hb⟩; have G := Lib.hid (G.out.below rfl hb); clear hb HA; obtain ⟨b0, b1, b2, b3, bf⟩ := G.out.2.1.set4; obtain ⟨d0, d1, d2, d3, df⟩ := G.out.2.2.2.1.set4) | (go_at_call 28; refine (HB.out _).mono ?_; rintro e wn ⟨rfl, hb⟩; have G := Lib.hid (G.out.below rfl hb); clear hb; obtain ⟨d0, d1, d2, d3, df⟩ := G.out.2.2.2.1.set4) | (go_at_call 66; refine (HC.out R _).mono ?_; rintro e wn ⟨rfl, hb⟩; have G := Lib.hid (G.out.below rfl hb); clear hb; simp only [setV]; obtain ⟨d0, d1, d2, d3, df⟩ := G.out.2.2.2.1.set4))
          exact ⟨⟨k + 1, by omega, rfl, by rw [HR.out]; exact G.out⟩, by simp [intOf]; omega⟩
    · have e : k = 256 := by omega
      subst e
      rw [HE.out] at G
      obtain ⟨c0, c1, c2, c3, cf⟩ := G.out.2.2.1.set4
      obtain ⟨d0, d1, d2, d3, df⟩ := G.out.2.2.2.1.set4
      go_wp2_with fail
      refine named (fun W => Blk W (w.heap.size + 2) (setA (N ||| M)) 25 ∧ Below w.heap.size w W) ⟨G.out.2.2.1.put4 (by rfl) _ _ _ _, below_put4 G.out.2.2.2.2 (by omega) _ _ _ _⟩ ?_
      rintro W ⟨hB, hbW⟩
      obtain ⟨q0, q1, q2, q3, _⟩ := hB.set4
      exact bodyPost_ret (v := setV (N ||| M)) (by simp [results, Tryd.results32, go_sem, q0, q1, q2, q3, setV]) rfl ⟨rfl, hbW⟩
set_option maxRecDepth 100000 in
set_option maxHeartbeats 1000000 in
theorem rCommon_any (N M : Nat) (w : World) (hN : N < 2 ^ 256) (hM : M < 2 ^ 256) :
    Calls Tryd.prog 34 #[setV N, setV M] w fun e w' => e = .returned (setV (N &&& M)) ∧ Below w.heap.size w w' := by
  have HE : Hid (lowB (fun i => N.testBit i && M.testBit i) 256 = N &&& M) := lowB_eq (Nat.lt_of_le_of_lt Nat.and_le_left hN) fun i _ => by simp [Nat.testBit_and]
  go_enter Tryd.func34, Tryd.ntmps34
  simp only [setV]
  go_wp2_with fail
  go_loopw [6] (fun sv wr => ∃ k : Nat, k ≤ 256 ∧ sv = .int .i64 k ∧ RS N M w.heap.size (lowB (fun i => N.testBit i && M.testBit i) k) w wr) (fun sv _ => 256 - (intOf sv).toNat)
  case atStart => exact ⟨0, by omega, rfl, RS.start N M w⟩
  case round =>
    obtain ⟨k, hk, rfl, hG⟩ := hrel
    have G := Lib.hid hG
    clear hG
    by_cases hlt : k < 256
    · obtain ⟨a0, a1, a2, a3, af⟩ := G.out.1.set4
      obtain ⟨b0, b1, b2, b3, bf⟩ := G.out.2.1.set4
      obtain ⟨d0, d1, d2, d3, df⟩ := G.out.2.2.2.1.set4
      have HC : Hid (∀ R w, Calls Tryd.prog 66 #[setV R, .int .i64 k] w fun e w' => e = .returned (setV (R ||| 2^k)) ∧ Below w.heap.size w w') := fun R w => rwith_in R k w hlt
      cases ha : N.testBit k with
      | true =>
        have HA : Hid (∀ w, Calls Tryd.prog 28 #[setV N, .int .i64 k] w fun e w' => e = .returned (.bool true) ∧ Below w.heap.size w w') := fun w => by have := rhas_in N k w hlt; rwa [ha] at this
        cases hb : M.testBit k with
        | true =>
          have HB : Hid (∀ w, Calls Tryd.prog 28 #[setV M, .int .i64 k] w fun e w' => e = .returned (.bool true) ∧ Below w.heap.size w w') := fun w => by have := rhas_in M k w hlt; rwa [hb] at this
          have HR : Hid (lowB (fun i => N.testBit i && M.testBit i) (k + 1) = lowB (fun i => N.testBit i && M.testBit i) k ||| 2 ^ k) := lowB_yes (by simp [ha, hb])
          obtain ⟨R, hR⟩ : ∃ R, R = lowB (fun i => N.testBit i && M.testBit i) k := ⟨_, rfl⟩
          have HRR := Lib.hid hR
          rw [← hR] at HR G d0 d1 d2 d3
          clear ha hb hR
          go_wp2_with (first | (go_at_call 28; refine (HA.out _).mono ?_; rintro e wn ⟨rfl, hb⟩; have G := Lib.hid (G.out.below rfl hb); clear hb HA; obtain ⟨b0, b1, b2, b3, bf⟩ := G.out.2.1.set4; obtain ⟨d0, d1, d2, d3, df⟩ := G.out.2.2.2.1.set4) | (go_at_call 28; refine (HB.out _).mono ?_; rintro e wn ⟨rfl, hb⟩; have G := Lib.hid (G.out.below rfl hb); clear hb; obtain ⟨d0, d1, d2, d3, df⟩ := G.out.2.2.2.1.set4) | (go_at_call 66; refine (HC.out R _).mono ?_; rintro e wn ⟨rfl, hb⟩; have G := Lib.hid (G.out.below rfl hb); clear hb; simp only [setV]; obtain ⟨d0, d1, d2, d3, df⟩ := G.out.2.2.2.1.set4))
          exact ⟨⟨k + 1, by omega, rfl, by rw [HR.out]; exact G.out.put _⟩, by simp [intOf]; omega⟩
        | false =>
          have HB : Hid (∀ w, Calls Tryd.prog 28 #[setV M, .int .i64 k] w fun e w' => e = .returned (.bool false) ∧ Below w.heap.size w w') := fun w => by have := rhas_in M k w hlt; rwa [hb] at this
          have HR : Hid (lowB (fun i => N.testBit i && M.testBit i) (k + 1) = lowB (fun i => N.testBit i && M.testBit i) k) := lowB_no (by simp [ha, hb])
          obtain ⟨R, hR⟩ : ∃ R, R = lowB (fun i => N.testBit i && M.testBit i) k := ⟨_, rfl⟩
          have HRR := Lib.hid hR
          rw [← hR] at HR G d0 d1 d2 d3
          clear ha hb hR
          go_wp2_with (first | (go_at_call 28; refine (HA.out _).mono ?_; rintro e wn ⟨rfl, hb⟩; have G := Lib.hid (G.out.below rfl hb); clear hb HA; obtain ⟨b0, b1, b2, b3, bf⟩ := G.out.2.1.set4; obtain ⟨d0, d1, d2, d3, df⟩ := G.out.2.2.2.1.set4) | (go_at_call 28; refine (HB.out _).mono ?_; rintro e wn ⟨rfl, hb⟩; have G := Lib.hid (G.out.below rfl hb); clear hb; obtain ⟨d0, d1, d2, d3, df⟩ := G.out.2.2.2.1.set4) | (go_at_call 66; refine (HC.out R _).mono ?_; rintro e wn ⟨rfl, hb⟩; have G := Lib.hid (G.out.below rfl hb); clear hb; simp only [setV]; obtain ⟨d0, d1, d2, d3, df⟩ := G.out.2.2.2.1.set4))
          exact ⟨⟨k + 1, by omega, rfl, by rw [HR.out]; exact G.out⟩, by simp [intOf]; omega⟩
      | false =>
        have HA : Hid (∀ w, Calls Tryd.prog 28 #[setV N, .int .i64 k] w fun e w' => e = .returned (.bool false) ∧ Below w.heap.size w w') := fun w => by have := rhas_in N k w hlt; rwa [ha] at this
        cases hb : M.testBit k with
        | true =>
          have HB : Hid (∀ w, Calls Tryd.prog 28 #[setV M, .int .i64 k] w fun e w' => e = .returned (.bool true) ∧ Below w.heap.size w w') := fun w => by have := rhas_in M k w hlt; rwa [hb] at this
          have HR : Hid (lowB (fun i => N.testBit i && M.testBit i) (k + 1) = lowB (fun i => N.testBit i && M.testBit i) k) := lowB_no (by simp [ha, hb])
          obtain ⟨R, hR⟩ : ∃ R, R = lowB (fun i => N.testBit i && M.testBit i) k := ⟨_, rfl⟩
          have HRR := Lib.hid hR
          rw [← hR] at HR G d0 d1 d2 d3
          clear ha hb hR
          go_wp2_with (first | (go_at_call 28; refine (HA.out _).mono ?_; rintro e wn ⟨rfl, hb⟩; have G := Lib.hid (G.out.below rfl hb); clear hb HA; obtain ⟨b0, b1, b2, b3, bf⟩ := G.out.2.1.set4; obtain ⟨d0, d1, d2, d3, df⟩ := G.out.2.2.2.1.set4) | (go_at_call 28; refine (HB.out _).mono ?_; rintro e wn ⟨rfl, hb⟩; have G := Lib.hid (G.out.below rfl hb); clear hb; obtain ⟨d0, d1, d2, d3, df⟩ := G.out.2.2.2.1.set4) | (go_at_call 66; refine (HC.out R _).mono ?_; rintro e wn ⟨rfl, hb⟩; have G := Lib.hid (G.out.below rfl hb); clear hb; simp only [setV]; obtain ⟨d0, d1, d2, d3, df⟩ := G.out.2.2.2.1.set4))
          exact ⟨⟨k + 1, by omega, rfl, by rw [HR.out]; exact G.out⟩, by simp [intOf]; omega⟩
        | false =>
          have HB : Hid (∀ w, Calls Tryd.prog 28 #[setV M, .int .i64 k] w fun e w' => e = .returned (.bool false) ∧ Below w.heap.size w w') := fun w => by have := rhas_in M k w hlt; rwa [hb] at this
          have HR : Hid (lowB (fun i => N.testBit i && M.testBit i) (k + 1) = lowB (fun i => N.testBit i && M.testBit i) k) := lowB_no (by simp [ha, hb])
          obtain ⟨R, hR⟩ : ∃ R, R = lowB (fun i => N.testBit i && M.testBit i) k := ⟨_, rfl⟩
          have HRR := Lib.hid hR
          rw [← hR] at HR G d0 d1 d2 d3
          clear ha hb hR
          go_wp2_with (first | (go_at_call 28; refine (HA.out _).mono ?_; rintro e wn ⟨rfl, hb⟩; have G := Lib.hid (G.out.below rfl hb); clear hb HA; obtain ⟨b0, b1, b2, b3, bf⟩ := G.out.2.1.set4; obtain ⟨d0, d1, d2, d3, df⟩ := G.out.2.2.2.1.set4) | (go_at_call 28; refine (HB.out _).mono ?_; rintro e wn ⟨rfl, hb⟩; have G := Lib.hid (G.out.below rfl hb); clear hb; obtain ⟨d0, d1, d2, d3, df⟩ := G.out.2.2.2.1.set4) | (go_at_call 66; refine (HC.out R _).mono ?_; rintro e wn ⟨rfl, hb⟩; have G := Lib.hid (G.out.below rfl hb); clear hb; simp only [setV]; obtain ⟨d0, d1, d2, d3, df⟩ := G.out.2.2.2.1.set4))
          exact ⟨⟨k + 1, by omega, rfl, by rw [HR.out]; exact G.out⟩, by simp [intOf]; omega⟩
    · have e : k = 256 := by omega
      subst e
      rw [HE.out] at G
      obtain ⟨c0, c1, c2, c3, cf⟩ := G.out.2.2.1.set4
      obtain ⟨d0, d1, d2, d3, df⟩ := G.out.2.2.2.1.set4
      go_wp2_with fail
      refine named (fun W => Blk W (w.heap.size + 2) (setA (N &&& M)) 25 ∧ Below w.heap.size w W) ⟨G.out.2.2.1.put4 (by rfl) _ _ _ _, below_put4 G.out.2.2.2.2 (by omega) _ _ _ _⟩ ?_
      rintro W ⟨hB, hbW⟩
      obtain ⟨q0, q1, q2, q3, _⟩ := hB.set4
      exact bodyPost_ret (v := setV (N &&& M)) (by simp [results, Tryd.results34, go_sem, q0, q1, q2, q3, setV]) rfl ⟨rfl, hbW⟩
set_option maxRecDepth 100000 in
set_option maxHeartbeats 1000000 in
theorem rMinus_any (N M : Nat) (w : World) (hN : N < 2 ^ 256) (hM : M < 2 ^ 256) :
    Calls Tryd.prog 36 #[setV N, setV M] w fun e w' => e = .returned (setV (diff N M)) ∧ Below w.heap.size w w' := by
  have HE : Hid (lowB (fun i => N.testBit i && !M.testBit i) 256 = diff N M) := lowB_eq (diff_lt hN) fun i _ => by simp [testBit_diff]
  go_enter Tryd.func36, Tryd.ntmps36
  simp only [setV]
  go_wp2_with fail
  go_loopw [6] (fun sv wr => ∃ k : Nat, k ≤ 256 ∧ sv = .int .i64 k ∧ RS N M w.heap.size (lowB (fun i => N.testBit i && !M.testBit i) k) w wr) (fun sv _ => 256 - (intOf sv).toNat)
  case atStart => exact ⟨0, by omega, rfl, RS.start N M w⟩
  case round =>
    obtain ⟨k, hk, rfl, hG⟩ := hrel
    have G := Lib.hid hG
    clear hG
    by_cases hlt : k < 256
    · obtain ⟨a0, a1, a2, a3, af⟩ := G.out.1.set4
      obtain ⟨b0, b1, b2, b3, bf⟩ := G.out.2.1.set4
      obtain ⟨d0, d1, d2, d3, df⟩ := G.out.2.2.2.1.set4
      have HC : Hid (∀ R w, Calls Tryd.prog 66 #[setV R, .int .i64 k] w fun e w' => e = .returned (setV (R ||| 2^k)) ∧ Below w.heap.size w w') := fun R w => rwith_in R k w hlt
      cases ha : N.testBit k with
      | true =>
        have HA : Hid (∀ w, Calls Tryd.prog 28 #[setV N, .int .i64 k] w fun e w' => e = .returned (.bool true) ∧ Below w.heap.size w w') := fun w => by have := rhas_in N k w hlt; rwa [ha] at this
        cases hb : M.testBit k with
        | true =>
          have HB : Hid (∀ w, Calls Tryd.prog 28 #[setV M, .int .i64 k] w fun e w' => e = .returned (.bool true) ∧ Below w.heap.size w w') := fun w => by have := rhas_in M k w hlt; rwa [hb] at this
          have HR : Hid (lowB (fun i => N.testBit i && !M.testBit i) (k + 1) = lowB (fun i => N.testBit i && !M.testBit i) k) := lowB_no (by simp [ha, hb])
          obtain ⟨R, hR⟩ : ∃ R, R = lowB (fun i => N.testBit i && !M.testBit i) k := ⟨_, rfl⟩
          have HRR := Lib.hid hR
          rw [← hR] at HR G d0 d1 d2 d3
          clear ha hb hR
          go_wp2_with (first | (go_at_call 28; refine (HA.out _).mono ?_; rintro e wn ⟨rfl, hb⟩; have G := Lib.hid (G.out.below rfl hb); clear hb HA; obtain ⟨b0, b1, b2, b3, bf⟩ := G.out.2.1.set4; obtain ⟨d0, d1, d2, d3, df⟩ := G.out.2.2.2.1.set4) | (go_at_call 28; refine (HB.out _).mono ?_; rintro e wn ⟨rfl, hb⟩; have G := Lib.hid (G.out.below rfl hb); clear hb; obtain ⟨d0, d1, d2, d3, df⟩ := G.out.2.2.2.1.set4) | (go_at_call 66; refine (HC.out R _).mono ?_; rintro e wn ⟨rfl, hb⟩; have G := Lib.hid (G.out.below rfl hb); clear hb; simp only [setV]; obtain ⟨d0, d1, d2, d3, df⟩ := G.out.2.2.2.1.set4))
          exact ⟨⟨k + 1, by omega, rfl, by rw [HR.out]; exact G.out⟩, by simp [intOf]; omega⟩
        | false =>
          have HB : Hid (∀ w, Calls Tryd.prog 28 #[setV M, .int .i64 k] w fun e w' => e = .returned (.bool false) ∧ Below w.heap.size w w') := fun w => by have := rhas_in M k w hlt; rwa [hb] at this
          have HR : Hid (lowB (fun i => N.testBit i && !M.testBit i) (k + 1) = lowB (fun i => N.testBit i && !M.testBit i) k ||| 2 ^ k) := lowB_yes (by simp [ha, hb])
          obtain ⟨R, hR⟩ : ∃ R, R = lowB (fun i => N.testBit i && !M.testBit i) k := ⟨_, rfl⟩
          have HRR := Lib.hid hR
          rw [← hR] at HR G d0 d1 d2 d3
          clear ha hb hR
          go_wp2_with (first | (go_at_call 28; refine (HA.out _).mono ?_; rintro e wn ⟨rfl, hb⟩; have G := Lib.hid (G.out.below rfl hb); clear hb HA; obtain ⟨b0, b1, b2, b3, bf⟩ := G.out.2.1.set4; obtain ⟨d0, d1, d2, d3, df⟩ := G.out.2.2.2.1.set4) | (go_at_call 28; refine (HB.out _).mono ?_; rintro e wn ⟨rfl, hb⟩; have G := Lib.hid (G.out.below rfl hb); clear hb; obtain ⟨d0, d1, d2, d3, df⟩ := G.out.2.2.2.1.set4) | (go_at_call 66; refine (HC.out R _).mono ?_; rintro e wn ⟨rfl, hb⟩; have G := Lib.hid (G.out.below rfl hb); clear hb; simp only [setV]; obtain ⟨d0, d1, d2, d3, df⟩ := G.out.2.2.2.1.set4))
          exact ⟨⟨k + 1, by omega, rfl, by rw [HR.out]; exact G.out.put _⟩, by simp [intOf]; omega⟩
      | false =>
        have HA : Hid (∀ w, Calls Tryd.prog 28 #[setV N, .int .i64 k] w fun e w' => e = .returned (.bool false) ∧ Below w.heap.size w w') := fun w => by have := rhas_in N k w hlt; rwa [ha] at this
        cases hb : M.testBit k with
        | true =>
          have HB : Hid (∀ w, Calls Tryd.prog 28 #[setV M, .int .i64 k] w fun e w' => e = .returned (.bool true) ∧ Below w.heap.size w w') := fun w => by have := rhas_in M k w hlt; rwa [hb] at this
          have HR : Hid (lowB (fun i => N.testBit i && !M.testBit i) (k + 1) = lowB (fun i => N.testBit i && !M.testBit i) k) := lowB_no (by simp [ha, hb])
          obtain ⟨R, hR⟩ : ∃ R, R = lowB (fun i => N.testBit i && !M.testBit i) k := ⟨_, rfl⟩
          have HRR := Lib.hid hR
          rw [← hR] at HR G d0 d1 d2 d3
          clear ha hb hR
          go_wp2_with (first | (go_at_call 28; refine (HA.out _).mono ?_; rintro e wn ⟨rfl, hb⟩; have G := Lib.hid (G.out.below rfl hb); clear hb HA; obtain ⟨b0, b1, b2, b3, bf⟩ := G.out.2.1.set4; obtain ⟨d0, d1, d2, d3, df⟩ := G.out.2.2.2.1.set4) | (go_at_call 28; refine (HB.out _).mono ?_; rintro e wn ⟨rfl, hb⟩; have G := Lib.hid (G.out.below rfl hb); clear hb; obtain ⟨d0, d1, d2, d3, df⟩ := G.out.2.2.2.1.set4) | (go_at_call 66; refine (HC.out R _).mono ?_; rintro e wn ⟨rfl, hb⟩; have G := Lib.hid (G.out.below rfl hb); clear hb; simp only [setV]; obtain ⟨d0, d1, d2, d3, df⟩ := G.out.2.2.2.1.set4))
          exact ⟨⟨k + 1, by omega, rfl, by rw [HR.out]; exact G.out⟩, by simp [intOf]; omega⟩
        | false =>
          have HB : Hid (∀ w, Calls Tryd.prog 28 #[setV M, .int .i64 k] w fun e w' => e = .returned (.bool false) ∧ Below w.heap.size w w') := fun w => by have := rhas_in M k w hlt; rwa [hb] at this
          have HR : Hid (lowB (fun i => N.testBit i && !M.testBit i) (k + 1) = lowB (fun i => N.testBit i && !M.testBit i) k) := lowB_no (by simp [ha, hb])
          obtain ⟨R, hR⟩ : ∃ R, R = lowB (fun i => N.testBit i && !M.testBit i) k := ⟨_, rfl⟩
          have HRR := Lib.hid hR
          rw [← hR] at HR G d0 d1 d2 d3
          clear ha hb hR
          go_wp2_with (first | (go_at_call 28; refine (HA.out _).mono ?_; rintro e wn ⟨rfl, hb⟩; have G := Lib.hid (G.out.below rfl hb); clear hb HA; obtain ⟨b0, b1, b2, b3, bf⟩ := G.out.2.1.set4; obtain ⟨d0, d1, d2, d3, df⟩ := G.out.2.2.2.1.set4) | (go_at_call 28; refine (HB.out _).mono ?_; rintro e wn ⟨rfl, hb⟩; have G := Lib.hid (G.out.below rfl hb); clear hb; obtain ⟨d0, d1, d2, d3, df⟩ := G.out.2.2.2.1.set4) | (go_at_call 66; refine (HC.out R _).mono ?_; rintro e wn ⟨rfl, hb⟩; have G := Lib.hid (G.out.below rfl hb); clear hb; simp only [setV]; obtain ⟨d0, d1, d2, d3, df⟩ := G.out.2.2.2.1.set4))
          exact ⟨⟨k + 1, by omega, rfl, by rw [HR.out]; exact G.out⟩, by simp [intOf]; omega⟩
    · have e : k = 256 := by omega
      subst e
      rw [HE.out] at G
      obtain ⟨c0, c1, c2, c3, cf⟩ := G.out.2.2.1.set4
      obtain ⟨d0, d1, d2, d3, df⟩ := G.out.2.2.2.1.set4
      go_wp2_with fail
      refine named (fun W => Blk W (w.heap.size + 2) (setA (diff N M)) 25 ∧ Below w.heap.size w W) ⟨G.out.2.2.1.put4 (by rfl) _ _ _ _, below_put4 G.out.2.2.2.2 (by omega) _ _ _ _⟩ ?_
      rintro W ⟨hB, hbW⟩
      obtain ⟨q0, q1, q2, q3, _⟩ := hB.set4
      exact bodyPost_ret (v := setV (diff N M)) (by simp [results, Tryd.results36, go_sem, q0, q1, q2, q3, setV]) rfl ⟨rfl, hbW⟩
end Go.Proofs.YtjifajigigflkaaDoor
/- The specification's own functions: Within, Meets, Next, Without. -/
namespace Go.Proofs.YtjifajigigflkaaDoor
set_option linter.unusedSimpArgs false
set_option linter.unusedVariables false
open Go Go.RowKit
section
attribute [local go_sem] setV equalIn_words equalIn_zero
theorem rWithin_any (N M : Nat) (w : World) (hN : N < 2 ^ 256) (hM : M < 2 ^ 256) :
    Calls Tryd.prog 40 #[setV N, setV M] w fun e w' => e = .returned (.bool (eqS (diff N M) 0)) ∧ Below w.heap.size w w' := by
  have HC : Hid (∀ w, Calls Tryd.prog 36 #[setV N, setV M] w fun e w' => e = .returned (setV (diff N M)) ∧ Below w.heap.size w w') := fun w => rMinus_any N M w hN hM
  go_enter Tryd.func40, Tryd.ntmps40
  simp only [setV]
  go_wp2_with (first | (go_at_call 36; refine (HC.out _).mono ?_; rintro e w' ⟨rfl, hb⟩))
  go_ret
  exact ⟨rfl, (below_new2 w _ _).trans (hb.mono (by simp; omega))⟩
theorem rMeets_any (N M : Nat) (w : World) (hN : N < 2 ^ 256) (hM : M < 2 ^ 256) :
    Calls Tryd.prog 42 #[setV N, setV M] w fun e w' => e = .returned (.bool (!eqS (N &&& M) 0)) ∧ Below w.heap.size w w' := by
  have HC : Hid (∀ w, Calls Tryd.prog 34 #[setV N, setV M] w fun e w' => e = .returned (setV (N &&& M)) ∧ Below w.heap.size w w') := fun w => rCommon_any N M w hN hM
  go_enter Tryd.func42, Tryd.ntmps42
  simp only [setV]
  go_wp2_with (first | (go_at_call 34; refine (HC.out _).mono ?_; rintro e w' ⟨rfl, hb⟩))
  go_ret
  exact ⟨rfl, (below_new2 w _ _).trans (hb.mono (by simp; omega))⟩
end
def nextV : Option Nat → Value
  | some j => .tuple #[.int .i64 (j : Int), .bool true]
  | none => .tuple #[.int .i64 0, .bool false]
theorem nextV_eq (o : Option Nat) : nextV o = .tuple #[.int .i64 ((o.getD 0 : Nat) : Int), .bool o.isSome] := by cases o <;> rfl
set_option maxRecDepth 100000 in
set_option maxHeartbeats 1000000 in
theorem rNext_any (N : Nat) (n : Int) (w : World) :
    Calls Tryd.prog 22 #[setV N, .int .i64 n] w fun e w' => e = .returned (nextV (nextO N n)) ∧ Below w.heap.size w w' := by
  go_enter Tryd.func22, Tryd.ntmps22
  simp only [setV]
  go_wp2_with fail
  go_loopw [6] (fun sv wr => ∃ k : Nat, k ≤ 256 ∧ sv = .int .i64 k ∧ Hid (∀ i : Nat, n < i → i < k → N.testBit i = false) ∧ Blk wr w.heap.size (setA N) 25 ∧ Below w.heap.size w wr) (fun sv _ => 256 - (intOf sv).toNat)
  case atStart => exact ⟨0, by omega, rfl, fun i _ h => by omega, Blk.newW _ _ _, below_new1 _ _⟩
  case round =>
    obtain ⟨k, hk, rfl, HH, hB, hW⟩ := hrel
    have HB := Lib.hid hB
    have HW := Lib.hid hW
    clear hB hW
    by_cases hlt : k < 256
    · obtain ⟨a0, a1, a2, a3, af⟩ := HB.out.set4
      by_cases hn : n < k
      · cases ht : N.testBit k with
        | true =>
          have HA : Hid (∀ w, Calls Tryd.prog 28 #[setV N, .int .i64 k] w fun e w' => e = .returned (.bool true) ∧ Below w.heap.size w w') := fun w => by have := rhas_in N k w hlt; rwa [ht] at this
          have HR : Hid (nextO N n = some k) := next_eq_some hn hlt ht HH.out
          clear ht
          go_wp2_with (go_at_call 28; refine (HA.out _).mono ?_; rintro e wn ⟨rfl, hb⟩)
          refine bodyPost_ret (v := nextV (some k)) (by simp [results, Tryd.results22, go_sem, nextV]) rfl ⟨by rw [HR.out], HW.out.trans (hb.mono HW.out.size)⟩
        | false =>
          have HA : Hid (∀ w, Calls Tryd.prog 28 #[setV N, .int .i64 k] w fun e w' => e = .returned (.bool false) ∧ Below w.heap.size w w') := fun w => by have := rhas_in N k w hlt; rwa [ht] at this
          have HR : Hid (∀ i : Nat, n < i → i < k + 1 → N.testBit i = false) := fun i h1 h2 => by
            by_cases e : i = k
            · rw [e]; exact ht
            · exact HH.out i h1 (by omega)
          clear ht
          go_wp2_with (go_at_call 28; refine (HA.out _).mono ?_; rintro e wn ⟨rfl, hb⟩)
          exact ⟨⟨k + 1, by omega, rfl, HR, HB.out.below hb HB.out.lt, HW.out.trans (hb.mono HW.out.size)⟩, by simp [intOf]; omega⟩
      · have HR : Hid (∀ i : Nat, n < i → i < k + 1 → N.testBit i = false) := fun i h1 h2 => by omega
        go_wp2_with fail
        exact ⟨⟨k + 1, by omega, rfl, HR, HB.out, HW.out⟩, by simp [intOf]; omega⟩
    · have e : k = 256 := by omega
      subst e
      have HR : Hid (nextO N n = none) := next_eq_none HH.out
      go_wp2_with fail
      refine bodyPost_ret (v := nextV none) (by simp [results, Tryd.results22, go_sem, nextV]) rfl ⟨by rw [HR.out], HW.out⟩
/-- N without a number. -/
def woN (N : Nat) (n : Int) : Nat := if 0 ≤ n ∧ n ≤ 255 then diff N (2 ^ n.toNat) else N
theorem woN_lt {N : Nat} {n : Int} (h : N < 2 ^ 256) : woN N n < 2 ^ 256 := by
  unfold woN; split
  · exact diff_lt h
  · exact h
theorem woN_bit {N : Nat} {n : Int} {i : Nat} (hi : i < 256) : (decide ((i : Int) ≠ n) && N.testBit i) = (woN N n).testBit i := by
  unfold woN
  split
  · rename_i h
    rw [testBit_diff, Nat.testBit_two_pow]
    by_cases e : (i : Int) = n
    · have : n.toNat = i := by omega
      simp [e, this]
    · have : ¬ n.toNat = i := by omega
      simp [e, this]
  · have : ¬ (i : Int) = n := by omega
    simp [this]
theorem without_any (N : Nat) (n : Int) (w : World) :
    Calls Tryd.prog 29 #[setV N, .int .i64 n] w fun e w' => e = .returned (setV (woN N n)) ∧ Below w.heap.size w w' := by
  unfold woN
  by_cases h : 0 ≤ n ∧ n ≤ 255
  · rw [if_pos h]
    obtain ⟨m, rfl⟩ := Int.eq_ofNat_of_zero_le h.1
    rw [Int.toNat_natCast]
    exact without_in N m w (by omega)
  · rw [if_neg h]
    exact without_out N n w (by omega)
/-- The blocks of a loop over one set. -/
def RT (N B R : Nat) (w wr : World) : Prop := Blk wr B (setA N) 25 ∧ Blk wr (B + 1) (setA 0) 25 ∧ Blk wr (B + 2) (setA R) 25 ∧ Below B w wr
theorem RT.start (N : Nat) (w : World) : RT N w.heap.size 0 w (((w.alloc (.cells #[.int .u64 ↑(word N 0), .int .u64 ↑(word N 1), .int .u64 ↑(word N 2), .int .u64 ↑(word N 3)] 25)).alloc (.cells #[.int .u64 0, .int .u64 0, .int .u64 0, .int .u64 0] 25)).alloc (.cells #[.int .u64 0, .int .u64 0, .int .u64 0, .int .u64 0] 25)) :=
  ⟨((Blk.newW _ _ _).alloc _).alloc _, by rw [setA_zero]; exact (Blk.newAt' (by simp) _ _).alloc _, by rw [setA_zero]; exact Blk.newAt' (by simp) _ _, (below_new2 w _ _).alloc (by simp; omega) _⟩
theorem RT.below {N B R : Nat} {w wr w' : World} (h : RT N B R w wr) (hB : B = w.heap.size) (hb : Below wr.heap.size wr w') : RT N B R w w' :=
  ⟨h.1.below hb h.1.lt, h.2.1.below hb h.2.1.lt, h.2.2.1.below hb h.2.2.1.lt, h.2.2.2.trans (hb.mono (by have := h.1.lt; omega))⟩
theorem RT.put {N B R : Nat} {w wr : World} (h : RT N B R w wr) (R' : Nat) : RT N B R' w ((((wr.setCell ⟨B + 2, 0, none⟩ (.int .u64 ↑(word R' 0))).setCell ⟨B + 2, 1, none⟩ (.int .u64 ↑(word R' 1))).setCell ⟨B + 2, 2, none⟩ (.int .u64 ↑(word R' 2))).setCell ⟨B + 2, 3, none⟩ (.int .u64 ↑(word R' 3))) :=
  ⟨h.1.other4 (by omega) _ _ _ _, h.2.1.other4 (by omega) _ _ _ _, h.2.2.1.putS R', below_put4 h.2.2.2 (by omega) _ _ _ _⟩
set_option maxRecDepth 100000 in
set_option maxHeartbeats 1000000 in
theorem rWithout_any (N : Nat) (n : Int) (w : World) (hN : N < 2 ^ 256) :
    Calls Tryd.prog 30 #[setV N, .int .i64 n] w fun e w' => e = .returned (setV (woN N n)) ∧ Below w.heap.size w w' := by
  have HE : Hid (lowB (fun i => decide ((i : Int) ≠ n) && N.testBit i) 256 = woN N n) := lowB_eq (woN_lt hN) fun i hi => woN_bit hi
  go_enter Tryd.func30, Tryd.ntmps30
  simp only [setV]
  go_wp2_with fail
  go_loopw [6] (fun sv wr => ∃ k : Nat, k ≤ 256 ∧ sv = .int .i64 k ∧ RT N w.heap.size (lowB (fun i => decide ((i : Int) ≠ n) && N.testBit i) k) w wr) (fun sv _ => 256 - (intOf sv).toNat)
  case atStart => exact ⟨0, by omega, rfl, RT.start N w⟩
  case round =>
    obtain ⟨k, hk, rfl, hG⟩ := hrel
    have G := Lib.hid hG
    clear hG
    by_cases hlt : k < 256
    · obtain ⟨a0, a1, a2, a3, af⟩ := G.out.1.set4
      obtain ⟨d0, d1, d2, d3, df⟩ := G.out.2.2.1.set4
      have HC : Hid (∀ R w, Calls Tryd.prog 66 #[setV R, .int .i64 k] w fun e w' => e = .returned (setV (R ||| 2^k)) ∧ Below w.heap.size w w') := fun R w => rwith_in R k w hlt
      obtain ⟨R, hR⟩ : ∃ R, R = lowB (fun i => decide ((i : Int) ≠ n) && N.testBit i) k := ⟨_, rfl⟩
      by_cases hn : (k : Int) = n
      · have HR : Hid (lowB (fun i => decide ((i : Int) ≠ n) && N.testBit i) (k + 1) = lowB (fun i => decide ((i : Int) ≠ n) && N.testBit i) k) := lowB_no (by simp [hn])
        rw [← hR] at HR G d0 d1 d2 d3
        have ht : ((k : Int) != n) = false := by simp [hn]
        clear hR hn
        go_wp2_with fail
        exact ⟨⟨k + 1, by omega, rfl, by rw [HR.out]; exact G.out⟩, by simp [intOf]; omega⟩
      · have ht : ((k : Int) != n) = true := by simp [hn]
        cases ha : N.testBit k with
        | true =>
          have HA : Hid (∀ w, Calls Tryd.prog 28 #[setV N, .int .i64 k] w fun e w' => e = .returned (.bool true) ∧ Below w.heap.size w w') := fun w => by have := rhas_in N k w hlt; rwa [ha] at this
          have HR : Hid (lowB (fun i => decide ((i : Int) ≠ n) && N.testBit i) (k + 1) = lowB (fun i => decide ((i : Int) ≠ n) && N.testBit i) k ||| 2 ^ k) := lowB_yes (by simp [ha, hn])
          rw [← hR] at HR G d0 d1 d2 d3
          clear ha hR hn
          go_wp2_with (first | (go_at_call 28; refine (HA.out _).mono ?_; rintro e wn ⟨rfl, hb⟩; have G := Lib.hid (G.out.below rfl hb); clear hb HA; obtain ⟨d0, d1, d2, d3, df⟩ := G.out.2.2.1.set4) | (go_at_call 66; refine (HC.out R _).mono ?_; rintro e wn ⟨rfl, hb⟩; have G := Lib.hid (G.out.below rfl hb); clear hb; simp only [setV]; obtain ⟨d0, d1, d2, d3, df⟩ := G.out.2.2.1.set4))
          exact ⟨⟨k + 1, by omega, rfl, by rw [HR.out]; exact G.out.put _⟩, by simp [intOf]; omega⟩
        | false =>
          have HA : Hid (∀ w, Calls Tryd.prog 28 #[setV N, .int .i64 k] w fun e w' => e = .returned (.bool false) ∧ Below w.heap.size w w') := fun w => by have := rhas_in N k w hlt; rwa [ha] at this
          have HR : Hid (lowB (fun i => decide ((i : Int) ≠ n) && N.testBit i) (k + 1) = lowB (fun i => decide ((i : Int) ≠ n) && N.testBit i) k) := lowB_no (by simp [ha])
          rw [← hR] at HR G d0 d1 d2 d3
          clear ha hR hn
          go_wp2_with (go_at_call 28; refine (HA.out _).mono ?_; rintro e wn ⟨rfl, hb⟩; have G := Lib.hid (G.out.below rfl hb); clear hb HA)
          exact ⟨⟨k + 1, by omega, rfl, by rw [HR.out]; exact G.out⟩, by simp [intOf]; omega⟩
    · have e : k = 256 := by omega
      subst e
      rw [HE.out] at G
      obtain ⟨c0, c1, c2, c3, cf⟩ := G.out.2.1.set4
      obtain ⟨d0, d1, d2, d3, df⟩ := G.out.2.2.1.set4
      go_wp2_with fail
      refine named (fun W => Blk W (w.heap.size + 1) (setA (woN N n)) 25 ∧ Below w.heap.size w W) ⟨G.out.2.1.put4 (by rfl) _ _ _ _, below_put4 G.out.2.2.2 (by omega) _ _ _ _⟩ ?_
      rintro W ⟨hB, hbW⟩
      obtain ⟨q0, q1, q2, q3, _⟩ := hB.set4
      exact bodyPost_ret (v := setV (woN N n)) (by simp [results, Tryd.results30, go_sem, q0, q1, q2, q3, setV]) rfl ⟨rfl, hbW⟩
end Go.Proofs.YtjifajigigflkaaDoor
/- The specification's own functions: Members, Size, Of. -/
namespace Go.Proofs.YtjifajigigflkaaDoor
set_option linter.unusedSimpArgs false
set_option linter.unusedVariables false
open Go Go.RowKit

/-- The numbers of N below k, in increasing order. -/
def lowL (N : Nat) : Nat → List Nat
  | 0 => []
  | k + 1 => if N.testBit k then lowL N k ++ [k] else lowL N k
theorem lowL_memF (N : Nat) : ∀ f n, lowL N (n + f) = lowL N n ++ memF N f n
  | 0, n => by simp [memF]
  | f + 1, n => by
    rw [show n + (f + 1) = n + 1 + f by omega, lowL_memF N f (n + 1)]
    simp only [lowL, memF]
    split
    · simp
    · rfl
theorem lowL_mem (N : Nat) : lowL N 256 = mem N := by
  have := lowL_memF N 256 0
  rw [Nat.zero_add] at this
  rw [this]
  rfl
theorem lowL_length (N : Nat) : ∀ k, (lowL N k).length = cnt N k
  | 0 => rfl
  | k + 1 => by
    simp only [lowL, cnt]
    split
    · rename_i h; rw [List.length_append, lowL_length N k, h]; rfl
    · rename_i h; rw [lowL_length N k]; simp at h; rw [h]; rfl
theorem lowL_len (N k : Nat) : (lowL N k).length ≤ k := by rw [lowL_length]; exact cnt_le N k
theorem mem_card (N : Nat) : (mem N).length = card N := by rw [← lowL_mem, lowL_length]; rfl
set_option maxRecDepth 100000 in
set_option maxHeartbeats 1000000 in
theorem rMembers_any (N : Nat) (w : World) :
    Calls Tryd.prog 23 #[setV N] w fun e w' => ∃ v, e = .returned v ∧ w'.ownsRow w.heap.size 3 1 v (mem N).length (intsL (mem N)) ∧ Below w.heap.size w w' := by
  have HE : Hid (lowL N 256 = mem N) := lowL_mem N
  go_enter Tryd.func23, Tryd.ntmps23
  simp only [setV]
  go_wp2_with fail
  obtain ⟨i0, hi0, hz0, hz1, hz2⟩ := info_parts infoInt
  go_loopg [3, 4] 256 (fun g t3 t4 wr => ∃ k : Nat, k + g = 256 ∧ t4 = .int .i64 k ∧ wr.ownsRow w.heap.size 3 1 t3 (lowL N k).length (intsL (lowL N k)) ∧ Blk wr w.heap.size (setA N) 25 ∧ Below w.heap.size w wr)
  case atStart => exact ⟨0, by omega, rfl, World.ownsRow_nil _ _ _ _, Blk.newW _ _ _, below_new1 _ _⟩
  case round =>
    obtain ⟨k, hkg, rfl, hO, hB, hW⟩ := hrel
    have HO := Lib.hid hO
    have HB := Lib.hid hB
    have HW := Lib.hid hW
    clear hO hB hW
    by_cases hlt : k < 256
    · obtain ⟨a0, a1, a2, a3, af⟩ := HB.out.set4
      have hll := lowL_len N k
      cases ht : N.testBit k with
      | false =>
        have HA : Hid (∀ w, Calls Tryd.prog 28 #[setV N, .int .i64 k] w fun e w' => e = .returned (.bool false) ∧ Below w.heap.size w w') := fun w => by have := rhas_in N k w hlt; rwa [ht] at this
        have HR : Hid (lowL N (k + 1) = lowL N k) := by rw [Hid, lowL, if_neg (by simp [ht])]
        clear ht
        go_wp2_with (go_at_call 28; refine (HA.out _).mono ?_; rintro e wn ⟨rfl, hb⟩)
        go_roundg (gk - 1)
        case measure => omega
        case rel => exact ⟨k + 1, by omega, by simp, by rw [HR.out]; exact ownsRow_below HO.out hb, HB.out.below hb HB.out.lt, HW.out.trans (hb.mono HW.out.size)⟩
      | true =>
        have HA : Hid (∀ w, Calls Tryd.prog 28 #[setV N, .int .i64 k] w fun e w' => e = .returned (.bool true) ∧ Below w.heap.size w w') := fun w => by have := rhas_in N k w hlt; rwa [ht] at this
        have HR : lowL N (k + 1) = lowL N k ++ [k] := by rw [lowL, if_pos ht]
        have HL : Hid ((lowL N (k + 1)).length = (lowL N k).length + 1) := by rw [Hid, HR]; simp
        have HI : Hid (intsL (lowL N (k + 1)) = intsL (lowL N k) ++ [.int .i64 (k : Int)]) := by rw [Hid, HR]; exact intsL_snoc _ _
        clear HR
        clear ht
        go_wp2_with (first | (go_at_call 28; refine (HA.out _).mono ?_; rintro e wn ⟨rfl, hb⟩; have K3O := Lib.hid (ownsRow_below HO.out hb); have K3B := Lib.hid (HB.out.below hb HB.out.lt); have K3W := Lib.hid (HW.out.trans (hb.mono HW.out.size)); clear hb) | (at_builtin; go_loud (refine wpList_append_own _ rfl _ _ 22 rfl w.heap.size 3 i0 (.int .i64 0) 1 8 Tryd.underlying22 hi0 hz0 hz1 hz2 rfl (by decide) u3 (lowL N k).length (intsL (lowL N k)) rfl (K3O.out.alloc _) ⟨wn.heap.size, 0, none⟩ 1 1 [.int .i64 (k : Int)] rfl rfl (cell_one_new _ _ _) (by simp [Value.oneCell']) (by simp only [maxLen]; omega) (by omega) (by have := K3W.out.size; simp; omega) ?_; intro v2 w6 hown' hgrow _; have hq : Below w.heap.size w (wn.alloc (.cells #[.int .i64 (k : Int)] 3)) := K3W.out.alloc K3W.out.size _; have K6O := Lib.hid hown'; have K6B : Hid (Blk w6 w.heap.size (setA N) 25) := blk_grown (K3B.out.alloc _) (by decide) (K3O.out.alloc _) hgrow; have K6W : Hid (Below w.heap.size w w6) := hq.grown hgrow hq.size (fun k hk => (World.ownsRow.lt K3O.out k hk).1); clear hown' hgrow hq)))
        go_roundg (gk - 1)
        case measure => omega
        case rel => exact ⟨k + 1, by omega, by simp, by rw [HL.out, HI.out]; exact K6O.out, K6B.out, K6W.out⟩
    · have e : k = 256 := by omega
      subst e
      rw [HE.out] at HO
      go_wp2_with fail
      go_ret
      exact ⟨_, rfl, HO.out, HW.out⟩
set_option maxRecDepth 100000 in
theorem rSize_any (N : Nat) (w : World) :
    Calls Tryd.prog 38 #[setV N] w fun e w' => e = .returned (.int .i64 (card N)) ∧ Below w.heap.size w w' := by
  have HC : Hid (∀ w, Calls Tryd.prog 23 #[setV N] w fun e w' => ∃ p cap, e = .returned (.slice p (card N) cap) ∧ Below w.heap.size w w') := fun w => (rMembers_any N w).mono fun e w' ⟨v, h1, h2, h3⟩ => by
    obtain ⟨p, cap, rfl, _⟩ := ownsRow_slice h2
    exact ⟨p, cap, by rw [h1, mem_card], h3⟩
  go_enter Tryd.func38, Tryd.ntmps38
  simp only [setV]
  go_wp2_with (go_at_call 23; refine (HC.out _).mono ?_; rintro e wn ⟨p, cap, rfl, hb⟩)
  go_ret
  exact ⟨rfl, (below_new1 w _).trans (hb.mono (by simp))⟩
end Go.Proofs.YtjifajigigflkaaDoor
