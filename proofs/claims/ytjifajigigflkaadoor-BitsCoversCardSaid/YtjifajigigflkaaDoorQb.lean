/- The specification's Of and Compare; the laws' own helpers. -/
import Derived.Test.YtjifajigigflkaaDoorQa
/- The specification's own functions: Of. -/
namespace Go.Proofs.YtjifajigigflkaaDoor
set_option linter.unusedSimpArgs false
set_option linter.unusedVariables false
open Go Go.RowKit

set_option maxRecDepth 100000 in
set_option maxHeartbeats 1000000 in
theorem rOf_any (a : Option Addr) (cap : Nat) (xs : List Int) (w : World) (hx : Cells w a (xs.map (Value.int .i64))) (hl : xs.length ≤ 9223372036854775807) :
    Calls Tryd.prog 18 #[.slice a xs.length cap] w fun e w' => e = .returned (ofV (ofL xs 0)) ∧ Below w.heap.size w w' := by
  go_enter Tryd.func18, Tryd.ntmps18
  go_wp2_with fail
  go_loopw [5] (fun i wr => ∃ k N : Nat, k ≤ xs.length ∧ i = .int .i64 k ∧ ofL xs 0 = ofL (xs.drop k) N ∧ Blk wr (w.heap.size + 1) (setA N) 25 ∧ Blk wr w.heap.size (setA 0) 25 ∧ Below w.heap.size w wr) (fun i _ => xs.length - (intOf i).toNat)
  case atStart =>
    refine ⟨0, 0, by omega, rfl, by simp, ?_, ?_, ?_⟩
    · rw [setA_zero]; exact Blk.newAt' (by simp) _ _
    · rw [setA_zero]; exact (Blk.new _ _ _).alloc _
    · exact below_new2 w _ _
  case round =>
    obtain ⟨k, N, hk, rfl, hof, hB1, hB0, hbel⟩ := hrel
    have Hof := Lib.hid hof
    clear hof
    have HB1 := Lib.hid hB1
    have HB0 := Lib.hid hB0
    have hl1 := hB1.lt
    obtain ⟨c0, c1, c2, c3, f0⟩ := hB1.set4
    by_cases hlt : k < xs.length
    · obtain ⟨b, o, rfl, hbl, hcell⟩ := (hx.below hbel).at (i := k) (by simpa using hlt)
      rw [List.getElem_map] at hcell
      have hdrop : xs.drop k = xs[k] :: xs.drop (k + 1) := (List.getElem_cons_drop hlt).symm
      have HX := Lib.hid hx
      have HBE := Lib.hid hbel
      clear hx hbel hB1 hB0
      obtain ⟨x, hxk⟩ : ∃ x, x = xs[k] := ⟨_, rfl⟩
      rw [← hxk] at hcell hdrop
      by_cases hin : 0 ≤ x ∧ x ≤ 255
      · obtain ⟨m, rfl⟩ := Int.eq_ofNat_of_zero_le hin.1
        have hm : m < 256 := by omega
        have HOF : Hid (ofL xs 0 = ofL (xs.drop (k + 1)) (N ||| 2 ^ m)) := by rw [Hid, Hof.out, hdrop, ofL, if_pos (by omega), Int.toNat_natCast]
        have HWc : Hid (∀ w, Calls Tryd.prog 66 #[setV N, .int .i64 m] w fun e w' => e = .returned (setV (N ||| 2^m)) ∧ Below w.heap.size w w') := fun w => rwith_in N m w hm
        clear hxk hdrop Hof
        go_wp2_with (first | (go_at_call 65; refine (rmember_yes _ _ (by omega) (by omega)).mono ?_; rintro e w' ⟨rfl, rfl⟩))
        have hdr : wr.drew.heap.size = wr.heap.size := rfl
        refine wp_region_calm 6 27 [0, 1, 2, 3, 4, 5] [] (fun _ => .bool false) (by kernel_rfl) (by kernel_rfl) (by kernel_rfl) (by kernel_rfl) (fun _ h => by cases h) (by rfl) ?_
        (refine calm_step rfl (by rfl) (by rfl) rfl (Nat.le_of_ble_eq_true rfl) ?_; apply Exists.intro; refine ⟨fun w1 hC K hK => ?_, ?_⟩; (next => (obtain ⟨hoc, hof⟩ := old_cells hC; have HC := Lib.hid hC; clear hC; go_wp2; all_goals (first | exact Below.refl _ _ | assumption | exact (Below.refl _ _).drew))); try simp only [Act.put, slotL_succ, slotL_zero, List.setIfInBounds_toArray, List.set_cons_zero, List.set_cons_succ])
        (refine calm_step rfl (by rfl) (by rfl) rfl (Nat.le_of_ble_eq_true rfl) ?_; apply Exists.intro; refine ⟨fun w1 hC K hK => ?_, ?_⟩; (next => (go_wp2; all_goals (first | exact Below.refl _ _ | assumption | exact (Below.refl _ _).drew))); try simp only [Act.put, slotL_succ, slotL_zero, List.setIfInBounds_toArray, List.set_cons_zero, List.set_cons_succ])
        (refine calm_step rfl (by rfl) (by rfl) rfl (Nat.le_of_ble_eq_true rfl) ?_; apply Exists.intro; refine ⟨fun w1 hC K hK => ?_, ?_⟩; (next => (go_wp2; all_goals (first | exact Below.refl _ _ | assumption | exact (Below.refl _ _).drew))); try simp only [Act.put, slotL_succ, slotL_zero, List.setIfInBounds_toArray, List.set_cons_zero, List.set_cons_succ])
        (refine calm_step rfl (by rfl) (by rfl) rfl (Nat.le_of_ble_eq_true rfl) ?_; apply Exists.intro; refine ⟨fun w1 hC K hK => ?_, ?_⟩; (next => (go_wp2; all_goals (first | exact Below.refl _ _ | assumption | exact (Below.refl _ _).drew))); try simp only [Act.put, slotL_succ, slotL_zero, List.setIfInBounds_toArray, List.set_cons_zero, List.set_cons_succ])
        (refine calm_step rfl (by rfl) (by rfl) rfl (Nat.le_of_ble_eq_true rfl) ?_; apply Exists.intro; refine ⟨fun w1 hC K hK => ?_, ?_⟩; (next => (obtain ⟨hoc, hof⟩ := old_cells hC; have HC := Lib.hid hC; clear hC; go_wp2; all_goals (first | exact Below.refl _ _ | assumption | exact (Below.refl _ _).drew))); try simp only [Act.put, slotL_succ, slotL_zero, List.setIfInBounds_toArray, List.set_cons_zero, List.set_cons_succ])
        (refine calm_step rfl (by rfl) (by rfl) rfl (Nat.le_of_ble_eq_true rfl) ?_; apply Exists.intro; refine ⟨fun w1 hC K hK => ?_, ?_⟩; (next => (obtain ⟨hoc, hof⟩ := old_cells hC; have HC := Lib.hid hC; clear hC; go_wp2_with (first | (go_at_call 66; refine (HWc.out _).mono ?_; rintro e w2 ⟨rfl, hb⟩; simp only [setV])); all_goals (first | exact Below.refl _ _ | assumption | exact (Below.refl _ _).drew))); try simp only [Act.put, slotL_succ, slotL_zero, List.setIfInBounds_toArray, List.set_cons_zero, List.set_cons_succ])
        refine wpC_nil ?_
        intro w1 hCw1 hNw1
        clear hNw1
        have hocw1 := (old_cells hCw1).1
        have hofw1 := (old_cells hCw1).2
        simp only [List.drop_succ_cons, List.drop_zero, List.drop_nil]
        have hbw : Below wr.heap.size wr w1 := (Below.refl _ wr).drew.trans hCw1
        have HB1' := Lib.hid (HB1.out.below hbw HB1.out.lt)
        have HB0' := Lib.hid (HB0.out.below hbw HB0.out.lt)
        have HBE' := Lib.hid (HBE.out.trans (hbw.mono HBE.out.size))
        clear hocw1 hofw1 hCw1 hbw hdr c0 c1 c2 c3 f0 hcell
        obtain ⟨c0, c1, c2, c3, f0⟩ := HB1'.out.set4
        go_wp2_with fail
        exact ⟨⟨k + 1, N ||| 2 ^ m, by omega, rfl, HOF.out, HB1'.out.put4 (by rfl) _ _ _ _, HB0'.out.other4 (by omega) _ _ _ _, below_put4 HBE'.out (by omega) _ _ _ _⟩, by simp [intOf]; omega⟩
      · have HOF : Hid (ofL xs 0 = none) := by rw [Hid, Hof.out, hdrop, ofL, if_neg hin]
        have hout : x < 0 ∨ 255 < x := by omega
        clear hxk hdrop Hof
        obtain ⟨e0, e1, e2, e3, h0⟩ := HB0.out.set4
        go_wp2_with (first | (go_at_call 65; refine (rmember_no _ _ hout).mono ?_; rintro e w' ⟨rfl, rfl⟩))
        refine named (fun W => Blk W w.heap.size (setA 0) 25 ∧ Below w.heap.size w W) ⟨by rw [setA_zero]; exact HB0.out.put4 (by rfl) _ _ _ _, below_put4 HBE.out (Nat.le_refl _) _ _ _ _⟩ ?_
        rintro W ⟨hB, hbW⟩
        obtain ⟨q0, q1, q2, q3, _⟩ := hB.set4
        exact bodyPost_ret (v := .tuple #[setV 0, .int .i64 1]) (by simp [results, Tryd.results18, go_sem, q0, q1, q2, q3, setV]) rfl ⟨by rw [HOF.out]; rfl, hbW⟩
    · have HOF : Hid (ofL xs 0 = some N) := by rw [Hid, Hof.out, List.drop_of_length_le (by omega), ofL]
      clear Hof hx
      obtain ⟨e0, e1, e2, e3, h0⟩ := HB0.out.set4
      go_wp2
      refine named (fun W => Blk W w.heap.size (setA N) 25 ∧ Below w.heap.size w W) ⟨HB0.out.put4 (by rfl) _ _ _ _, below_put4 hbel (Nat.le_refl _) _ _ _ _⟩ ?_
      rintro W ⟨hB, hbW⟩
      obtain ⟨q0, q1, q2, q3, _⟩ := hB.set4
      exact bodyPost_ret (v := .tuple #[setV N, .int .i64 0]) (by simp [results, Tryd.results18, go_sem, q0, q1, q2, q3, setV]) rfl ⟨by rw [HOF.out]; rfl, hbW⟩
end Go.Proofs.YtjifajigigflkaaDoor
/- The specification's Compare; the laws' own ints. -/
namespace Go.Proofs.YtjifajigigflkaaDoor
set_option linter.unusedSimpArgs false
set_option linter.unusedVariables false
open Go Go.RowKit

set_option maxRecDepth 100000 in
set_option maxHeartbeats 1000000 in
theorem ints_any (a a' : Option Addr) (cap cap' : Nat) (xs ys : List Int) (w : World) (hx : Cells w a (xs.map (Value.int .i64))) (hy : Cells w a' (ys.map (Value.int .i64))) (hl : xs.length ≤ 9223372036854775807) (hl' : ys.length ≤ 9223372036854775807) :
    Calls Tryd.prog 25 #[.slice a xs.length cap, .slice a' ys.length cap'] w fun e w' => e = .returned (.bool (decide (xs = ys))) ∧ Below w.heap.size w w' := by
  have HX := Lib.hid hx
  have HY := Lib.hid hy
  clear hx hy
  by_cases hlen : xs.length = ys.length
  · have ht : ((xs.length : Int) != (ys.length : Int)) = false := by simp [hlen]
    go_enter Tryd.func25, Tryd.ntmps25
    go_wp2_with fail
    go_loopw [5] (fun i wr => ∃ k : Nat, k ≤ xs.length ∧ i = .int .i64 k ∧ Hid (xs.take k = ys.take k) ∧ Below w.heap.size w wr) (fun i _ => xs.length - (intOf i).toNat)
    case atStart => exact ⟨0, by omega, rfl, by simp [Hid], Below.refl _ _⟩
    case round =>
      obtain ⟨k, hk, rfl, HT, hW⟩ := hrel
      have HW := Lib.hid hW
      clear hW
      by_cases hlt : k < xs.length
      · obtain ⟨b, o, rfl, hbl, hcell⟩ := (HX.out.below HW.out).at (i := k) (by simpa using hlt)
        obtain ⟨b', o', rfl, hbl', hcell'⟩ := (HY.out.below HW.out).at (i := k) (by simpa using hlen ▸ hlt)
        have hlt' : k < ys.length := hlen ▸ hlt
        rw [List.getElem_map] at hcell hcell'
        obtain ⟨x, hxk⟩ : ∃ x, x = xs[k] := ⟨_, rfl⟩
        obtain ⟨y, hyk⟩ : ∃ y, y = ys[k] := ⟨_, rfl⟩
        rw [← hxk] at hcell
        rw [← hyk] at hcell'
        by_cases he : x = y
        · have hq : (x != y) = false := by simp [he]
          have HR : Hid (xs.take (k + 1) = ys.take (k + 1)) := by
            rw [Hid, List.take_add_one, List.take_add_one, HT.out, List.getElem?_eq_getElem hlt, List.getElem?_eq_getElem hlt', ← hxk, ← hyk, he]
          clear hxk hyk he
          go_wp2_with fail
          refine wp_region_same 9 26 [0, 1, 2, 3, 4, 5, 6, 7, 8] (by kernel_rfl) (by kernel_rfl) (by kernel_rfl) (by kernel_rfl) (by rfl) ?_
          (refine same_step rfl (by rfl) (by rfl) rfl (Nat.le_of_ble_eq_true rfl) ?_; apply Exists.intro; refine ⟨fun N hN => ?_, ?_⟩; (next => (go_wp2; all_goals rfl)); try simp only [Act.put, slotL_succ, slotL_zero, List.setIfInBounds_toArray, List.set_cons_zero, List.set_cons_succ])
          (refine same_step rfl (by rfl) (by rfl) rfl (Nat.le_of_ble_eq_true rfl) ?_; apply Exists.intro; refine ⟨fun N hN => ?_, ?_⟩; (next => (go_wp2; all_goals rfl)); try simp only [Act.put, slotL_succ, slotL_zero, List.setIfInBounds_toArray, List.set_cons_zero, List.set_cons_succ])
          (refine same_step rfl (by rfl) (by rfl) rfl (Nat.le_of_ble_eq_true rfl) ?_; apply Exists.intro; refine ⟨fun N hN => ?_, ?_⟩; (next => (go_wp2; all_goals rfl)); try simp only [Act.put, slotL_succ, slotL_zero, List.setIfInBounds_toArray, List.set_cons_zero, List.set_cons_succ])
          (refine same_step rfl (by rfl) (by rfl) rfl (Nat.le_of_ble_eq_true rfl) ?_; apply Exists.intro; refine ⟨fun N hN => ?_, ?_⟩; (next => (go_wp2; all_goals rfl)); try simp only [Act.put, slotL_succ, slotL_zero, List.setIfInBounds_toArray, List.set_cons_zero, List.set_cons_succ])
          (refine same_step rfl (by rfl) (by rfl) rfl (Nat.le_of_ble_eq_true rfl) ?_; apply Exists.intro; refine ⟨fun N hN => ?_, ?_⟩; (next => (go_wp2; all_goals rfl)); try simp only [Act.put, slotL_succ, slotL_zero, List.setIfInBounds_toArray, List.set_cons_zero, List.set_cons_succ])
          (refine same_step rfl (by rfl) (by rfl) rfl (Nat.le_of_ble_eq_true rfl) ?_; apply Exists.intro; refine ⟨fun N hN => ?_, ?_⟩; (next => (go_wp2; all_goals rfl)); try simp only [Act.put, slotL_succ, slotL_zero, List.setIfInBounds_toArray, List.set_cons_zero, List.set_cons_succ])
          (refine same_step rfl (by rfl) (by rfl) rfl (Nat.le_of_ble_eq_true rfl) ?_; apply Exists.intro; refine ⟨fun N hN => ?_, ?_⟩; (next => (go_wp2; all_goals rfl)); try simp only [Act.put, slotL_succ, slotL_zero, List.setIfInBounds_toArray, List.set_cons_zero, List.set_cons_succ])
          (refine same_step rfl (by rfl) (by rfl) rfl (Nat.le_of_ble_eq_true rfl) ?_; apply Exists.intro; refine ⟨fun N hN => ?_, ?_⟩; (next => (go_wp2; all_goals rfl)); try simp only [Act.put, slotL_succ, slotL_zero, List.setIfInBounds_toArray, List.set_cons_zero, List.set_cons_succ])
          (refine same_step rfl (by rfl) (by rfl) rfl (Nat.le_of_ble_eq_true rfl) ?_; apply Exists.intro; refine ⟨fun N hN => ?_, ?_⟩; (next => (go_wp2; all_goals rfl)); try simp only [Act.put, slotL_succ, slotL_zero, List.setIfInBounds_toArray, List.set_cons_zero, List.set_cons_succ])
          refine wpC_nil ?_
          simp only [List.drop_succ_cons, List.drop_zero, List.drop_nil]
          go_wp2_with fail
          exact ⟨⟨k + 1, by omega, rfl, HR, HW.out.drew⟩, by simp [intOf]; omega⟩
        · have hq : (x != y) = true := by simp [he]
          have HR : Hid (decide (xs = ys) = false) := by
            rw [Hid, decide_eq_false_iff_not]; rintro rfl; exact he (hxk.trans hyk.symm)
          clear hxk hyk he
          go_wp2_with fail
          refine wp_region_same 9 26 [0, 1, 2, 3, 4, 5, 6, 7, 8] (by kernel_rfl) (by kernel_rfl) (by kernel_rfl) (by kernel_rfl) (by rfl) ?_
          (refine same_step rfl (by rfl) (by rfl) rfl (Nat.le_of_ble_eq_true rfl) ?_; apply Exists.intro; refine ⟨fun N hN => ?_, ?_⟩; (next => (go_wp2; all_goals rfl)); try simp only [Act.put, slotL_succ, slotL_zero, List.setIfInBounds_toArray, List.set_cons_zero, List.set_cons_succ])
          (refine same_step rfl (by rfl) (by rfl) rfl (Nat.le_of_ble_eq_true rfl) ?_; apply Exists.intro; refine ⟨fun N hN => ?_, ?_⟩; (next => (go_wp2; all_goals rfl)); try simp only [Act.put, slotL_succ, slotL_zero, List.setIfInBounds_toArray, List.set_cons_zero, List.set_cons_succ])
          (refine same_step rfl (by rfl) (by rfl) rfl (Nat.le_of_ble_eq_true rfl) ?_; apply Exists.intro; refine ⟨fun N hN => ?_, ?_⟩; (next => (go_wp2; all_goals rfl)); try simp only [Act.put, slotL_succ, slotL_zero, List.setIfInBounds_toArray, List.set_cons_zero, List.set_cons_succ])
          (refine same_step rfl (by rfl) (by rfl) rfl (Nat.le_of_ble_eq_true rfl) ?_; apply Exists.intro; refine ⟨fun N hN => ?_, ?_⟩; (next => (go_wp2; all_goals rfl)); try simp only [Act.put, slotL_succ, slotL_zero, List.setIfInBounds_toArray, List.set_cons_zero, List.set_cons_succ])
          (refine same_step rfl (by rfl) (by rfl) rfl (Nat.le_of_ble_eq_true rfl) ?_; apply Exists.intro; refine ⟨fun N hN => ?_, ?_⟩; (next => (go_wp2; all_goals rfl)); try simp only [Act.put, slotL_succ, slotL_zero, List.setIfInBounds_toArray, List.set_cons_zero, List.set_cons_succ])
          (refine same_step rfl (by rfl) (by rfl) rfl (Nat.le_of_ble_eq_true rfl) ?_; apply Exists.intro; refine ⟨fun N hN => ?_, ?_⟩; (next => (go_wp2; all_goals rfl)); try simp only [Act.put, slotL_succ, slotL_zero, List.setIfInBounds_toArray, List.set_cons_zero, List.set_cons_succ])
          (refine same_step rfl (by rfl) (by rfl) rfl (Nat.le_of_ble_eq_true rfl) ?_; apply Exists.intro; refine ⟨fun N hN => ?_, ?_⟩; (next => (go_wp2; all_goals rfl)); try simp only [Act.put, slotL_succ, slotL_zero, List.setIfInBounds_toArray, List.set_cons_zero, List.set_cons_succ])
          (refine same_step rfl (by rfl) (by rfl) rfl (Nat.le_of_ble_eq_true rfl) ?_; apply Exists.intro; refine ⟨fun N hN => ?_, ?_⟩; (next => (go_wp2; all_goals rfl)); try simp only [Act.put, slotL_succ, slotL_zero, List.setIfInBounds_toArray, List.set_cons_zero, List.set_cons_succ])
          (refine same_step rfl (by rfl) (by rfl) rfl (Nat.le_of_ble_eq_true rfl) ?_; apply Exists.intro; refine ⟨fun N hN => ?_, ?_⟩; (next => (go_wp2; all_goals rfl)); try simp only [Act.put, slotL_succ, slotL_zero, List.setIfInBounds_toArray, List.set_cons_zero, List.set_cons_succ])
          refine wpC_nil ?_
          simp only [List.drop_succ_cons, List.drop_zero, List.drop_nil]
          go_wp2_with fail
          go_ret
          exact ⟨by rw [HR.out]; rfl, HW.out.drew⟩
      · have HR : Hid (decide (xs = ys) = true) := by
          have := HT.out
          rw [List.take_of_length_le (by omega), List.take_of_length_le (by omega)] at this
          simp [Hid, this]
        go_wp2_with fail
        go_ret
        exact ⟨by rw [HR.out]; rfl, HW.out⟩
  · have ht : ((xs.length : Int) != (ys.length : Int)) = true := by simp; omega
    have HR : Hid (decide (xs = ys) = false) := by rw [Hid, decide_eq_false_iff_not]; rintro rfl; exact hlen rfl
    clear hlen
    go_enter Tryd.func25, Tryd.ntmps25
    go_wp2_with fail
    go_ret
    exact ⟨by rw [HR.out]; rfl, Below.refl _ _⟩
end Go.Proofs.YtjifajigigflkaaDoor
/- The specification's Compare. -/
namespace Go.Proofs.YtjifajigigflkaaDoor
set_option linter.unusedSimpArgs false
set_option linter.unusedVariables false
open Go Go.RowKit

theorem lt_of_bits {x y i : Nat} (hx : x.testBit i = false) (hy : y.testBit i = true) (h : ∀ j, i < j → x.testBit j = y.testBit j) : x < y := by
  rw [Nat.testBit_eq_decide_div_mod_eq] at hx hy
  have hx' : x / 2 ^ i % 2 = 0 := by simp at hx; omega
  have hy' : y / 2 ^ i % 2 = 1 := by simpa using hy
  have e : x / 2 ^ i / 2 = y / 2 ^ i / 2 := by
    apply Nat.eq_of_testBit_eq
    intro j
    have hd : ∀ z : Nat, (z / 2 ^ i / 2).testBit j = z.testBit (i + 1 + j) := fun z => by
      rw [Nat.div_div_eq_div_mul, ← Nat.pow_succ, Nat.testBit_div_two_pow]; congr 1; omega
    rw [hd, hd]
    exact h _ (by omega)
  have hlt : x / 2 ^ i < y / 2 ^ i := by omega
  exact Nat.lt_of_div_lt_div hlt
/-- The numbers N and M from their highest bit down. -/
def RC (N M B : Nat) (w wr : World) : Prop := Blk wr B (setA N) 25 ∧ Blk wr (B + 1) (setA M) 25 ∧ Below B w wr
theorem RC.below {N M B : Nat} {w wr w' : World} (h : RC N M B w wr) (hb : Below wr.heap.size wr w') : RC N M B w w' :=
  ⟨h.1.below hb h.1.lt, h.2.1.below hb h.2.1.lt, h.2.2.trans (hb.mono (by have := h.1.lt; omega))⟩
set_option maxRecDepth 100000 in
set_option maxHeartbeats 300000 in
theorem rCompare_any (N M : Nat) (w : World) (hN : N < 2 ^ 256) (hM : M < 2 ^ 256) :
    Calls Tryd.prog 44 #[setV N, setV M] w fun e w' => e = .returned (.int .i64 (cmpS N M)) ∧ Below w.heap.size w w' := by
  go_enter Tryd.func44, Tryd.ntmps44
  simp only [setV]
  go_wp2_with fail
  go_loopw [5] (fun i wr => ∃ q : Int, -1 ≤ q ∧ q ≤ 255 ∧ i = .int .i64 q ∧ Hid (∀ j : Nat, q < j → N.testBit j = M.testBit j) ∧ RC N M w.heap.size w wr) (fun i _ => (intOf i + 1).toNat)
  case atStart => exact ⟨255, by omega, by omega, rfl, fun j hj => by rw [testBit_big hN (by omega), testBit_big hM (by omega)], (Blk.newW _ _ _).alloc _, Blk.new1 _ _ _ _, below_new2 w _ _⟩
  case round =>
    obtain ⟨q, hq0, hq1, rfl, HT, hG⟩ := hrel
    have G := Lib.hid hG
    clear hG
    by_cases hq : q < 0
    · obtain rfl : q = -1 := by omega
      have e : N = M := Nat.eq_of_testBit_eq fun i => HT.out i (by omega)
      have HR : Hid (cmpS N M = 0) := by rw [Hid, e, cmp_self]
      clear e
      go_wp2_with fail
      go_ret
      exact ⟨by rw [HR.out]; rfl, G.out.2.2⟩
    · obtain ⟨k, rfl⟩ := Int.eq_ofNat_of_zero_le (show 0 ≤ q by omega)
      have hk : k < 256 := by omega
      have hlA := G.out.1.lt
      have hlB := G.out.2.1.lt
      obtain ⟨a0, a1, a2, a3, af⟩ := G.out.1.set4
      obtain ⟨b0, b1, b2, b3, bf⟩ := G.out.2.1.set4
      have hdr : wr.drew.heap.size = wr.heap.size := rfl
      cases hx : N.testBit k <;> cases hy : M.testBit k
      · have HR : Hid (∀ j : Nat, (k : Int) - 1 < j → N.testBit j = M.testBit j) := fun j hj => by
          by_cases e : j = k
          · rw [e, hx, hy]
          · exact HT.out j (by omega)
        go_wp2_with fail
        refine wp_region_calm 7 20 [0, 1, 2, 3, 4, 5, 6] [] (fun _ => .bool false) (by kernel_rfl) (by kernel_rfl) (by kernel_rfl) (by kernel_rfl) (fun _ h => by cases h) (by rfl) ?_
        (refine calm_step rfl (by rfl) (by rfl) rfl (Nat.le_of_ble_eq_true rfl) ?_; apply Exists.intro; refine ⟨fun w1 hC K hK => ?_, ?_⟩; (next => (obtain ⟨hoc, hof⟩ := old_cells hC; have HC := Lib.hid hC; clear hC; go_wp2; all_goals (first | exact Below.refl _ _ | assumption | exact (Below.refl _ _).drew))); try simp only [Act.put, slotL_succ, slotL_zero, List.setIfInBounds_toArray, List.set_cons_zero, List.set_cons_succ])
        (refine calm_step rfl (by rfl) (by rfl) rfl (Nat.le_of_ble_eq_true rfl) ?_; apply Exists.intro; refine ⟨fun w1 hC K hK => ?_, ?_⟩; (next => (go_wp2; all_goals (first | exact Below.refl _ _ | assumption | exact (Below.refl _ _).drew))); try simp only [Act.put, slotL_succ, slotL_zero, List.setIfInBounds_toArray, List.set_cons_zero, List.set_cons_succ])
        (refine calm_step rfl (by rfl) (by rfl) rfl (Nat.le_of_ble_eq_true rfl) ?_; apply Exists.intro; refine ⟨fun w1 hC K hK => ?_, ?_⟩; (next => (obtain ⟨hoc, hof⟩ := old_cells hC; have HC := Lib.hid hC; clear hC; go_wp2_with (first | (go_at_call 28; refine (rhas_in _ k _ hk).mono ?_; rintro e w2 ⟨rfl, hb⟩)); all_goals (first | exact Below.refl _ _ | assumption | exact (Below.refl _ _).drew))); try simp only [Act.put, slotL_succ, slotL_zero, List.setIfInBounds_toArray, List.set_cons_zero, List.set_cons_succ])
        (refine calm_step rfl (by rfl) (by rfl) rfl (Nat.le_of_ble_eq_true rfl) ?_; apply Exists.intro; refine ⟨fun w1 hC K hK => ?_, ?_⟩; (next => (obtain ⟨hoc, hof⟩ := old_cells hC; have HC := Lib.hid hC; clear hC; go_wp2; all_goals (first | exact Below.refl _ _ | assumption | exact (Below.refl _ _).drew))); try simp only [Act.put, slotL_succ, slotL_zero, List.setIfInBounds_toArray, List.set_cons_zero, List.set_cons_succ])
        (refine calm_step rfl (by rfl) (by rfl) rfl (Nat.le_of_ble_eq_true rfl) ?_; apply Exists.intro; refine ⟨fun w1 hC K hK => ?_, ?_⟩; (next => (go_wp2; all_goals (first | exact Below.refl _ _ | assumption | exact (Below.refl _ _).drew))); try simp only [Act.put, slotL_succ, slotL_zero, List.setIfInBounds_toArray, List.set_cons_zero, List.set_cons_succ])
        (refine calm_step rfl (by rfl) (by rfl) rfl (Nat.le_of_ble_eq_true rfl) ?_; apply Exists.intro; refine ⟨fun w1 hC K hK => ?_, ?_⟩; (next => (obtain ⟨hoc, hof⟩ := old_cells hC; have HC := Lib.hid hC; clear hC; go_wp2_with (first | (go_at_call 28; refine (rhas_in _ k _ hk).mono ?_; rintro e w2 ⟨rfl, hb⟩)); all_goals (first | exact Below.refl _ _ | assumption | exact (Below.refl _ _).drew))); try simp only [Act.put, slotL_succ, slotL_zero, List.setIfInBounds_toArray, List.set_cons_zero, List.set_cons_succ])
        (refine calm_step rfl (by rfl) (by rfl) rfl (Nat.le_of_ble_eq_true rfl) ?_; apply Exists.intro; refine ⟨fun w1 hC K hK => ?_, ?_⟩; (next => (go_wp2; all_goals (first | exact Below.refl _ _ | assumption | exact (Below.refl _ _).drew))); try simp only [Act.put, slotL_succ, slotL_zero, List.setIfInBounds_toArray, List.set_cons_zero, List.set_cons_succ])
        refine wpC_nil ?_
        intro w1 hCw1 hNw1
        clear hNw1
        have hocw1 := (old_cells hCw1).1
        have hofw1 := (old_cells hCw1).2
        simp only [List.drop_succ_cons, List.drop_zero, List.drop_nil]
        have hbw : Below wr.heap.size wr w1 := (Below.refl _ wr).drew.trans hCw1
        have G1 := Lib.hid (G.out.below hbw)
        clear hocw1 hofw1 hCw1 hbw a0 a1 a2 a3 af b0 b1 b2 b3 bf
        clear HT
        go_wp2_with fail
        exact ⟨⟨(k : Int) - 1, by omega, by omega, rfl, HR, G1.out⟩, by simp [intOf]⟩
      · have HR : Hid (cmpS N M = -1) := cmp_of_lt (lt_of_bits hx hy fun j hj => HT.out j (by omega))
        have HA : Hid (∀ w, Calls Tryd.prog 28 #[setV N, .int .i64 k] w fun e w' => e = .returned (.bool false) ∧ Below w.heap.size w w') := fun w => by have := rhas_in N k w hk; rwa [hx] at this
        go_wp2_with fail
        refine wp_region_calm 7 20 [0, 1, 2, 3, 4, 5, 6] [] (fun _ => .bool false) (by kernel_rfl) (by kernel_rfl) (by kernel_rfl) (by kernel_rfl) (fun _ h => by cases h) (by rfl) ?_
        (refine calm_step rfl (by rfl) (by rfl) rfl (Nat.le_of_ble_eq_true rfl) ?_; apply Exists.intro; refine ⟨fun w1 hC K hK => ?_, ?_⟩; (next => (obtain ⟨hoc, hof⟩ := old_cells hC; have HC := Lib.hid hC; clear hC; go_wp2; all_goals (first | exact Below.refl _ _ | assumption | exact (Below.refl _ _).drew))); try simp only [Act.put, slotL_succ, slotL_zero, List.setIfInBounds_toArray, List.set_cons_zero, List.set_cons_succ])
        (refine calm_step rfl (by rfl) (by rfl) rfl (Nat.le_of_ble_eq_true rfl) ?_; apply Exists.intro; refine ⟨fun w1 hC K hK => ?_, ?_⟩; (next => (go_wp2; all_goals (first | exact Below.refl _ _ | assumption | exact (Below.refl _ _).drew))); try simp only [Act.put, slotL_succ, slotL_zero, List.setIfInBounds_toArray, List.set_cons_zero, List.set_cons_succ])
        (refine calm_step rfl (by rfl) (by rfl) rfl (Nat.le_of_ble_eq_true rfl) ?_; apply Exists.intro; refine ⟨fun w1 hC K hK => ?_, ?_⟩; (next => (obtain ⟨hoc, hof⟩ := old_cells hC; have HC := Lib.hid hC; clear hC; go_wp2_with (first | (go_at_call 28; refine (rhas_in _ k _ hk).mono ?_; rintro e w2 ⟨rfl, hb⟩)); all_goals (first | exact Below.refl _ _ | assumption | exact (Below.refl _ _).drew))); try simp only [Act.put, slotL_succ, slotL_zero, List.setIfInBounds_toArray, List.set_cons_zero, List.set_cons_succ])
        (refine calm_step rfl (by rfl) (by rfl) rfl (Nat.le_of_ble_eq_true rfl) ?_; apply Exists.intro; refine ⟨fun w1 hC K hK => ?_, ?_⟩; (next => (obtain ⟨hoc, hof⟩ := old_cells hC; have HC := Lib.hid hC; clear hC; go_wp2; all_goals (first | exact Below.refl _ _ | assumption | exact (Below.refl _ _).drew))); try simp only [Act.put, slotL_succ, slotL_zero, List.setIfInBounds_toArray, List.set_cons_zero, List.set_cons_succ])
        (refine calm_step rfl (by rfl) (by rfl) rfl (Nat.le_of_ble_eq_true rfl) ?_; apply Exists.intro; refine ⟨fun w1 hC K hK => ?_, ?_⟩; (next => (go_wp2; all_goals (first | exact Below.refl _ _ | assumption | exact (Below.refl _ _).drew))); try simp only [Act.put, slotL_succ, slotL_zero, List.setIfInBounds_toArray, List.set_cons_zero, List.set_cons_succ])
        (refine calm_step rfl (by rfl) (by rfl) rfl (Nat.le_of_ble_eq_true rfl) ?_; apply Exists.intro; refine ⟨fun w1 hC K hK => ?_, ?_⟩; (next => (obtain ⟨hoc, hof⟩ := old_cells hC; have HC := Lib.hid hC; clear hC; go_wp2_with (first | (go_at_call 28; refine (rhas_in _ k _ hk).mono ?_; rintro e w2 ⟨rfl, hb⟩)); all_goals (first | exact Below.refl _ _ | assumption | exact (Below.refl _ _).drew))); try simp only [Act.put, slotL_succ, slotL_zero, List.setIfInBounds_toArray, List.set_cons_zero, List.set_cons_succ])
        (refine calm_step rfl (by rfl) (by rfl) rfl (Nat.le_of_ble_eq_true rfl) ?_; apply Exists.intro; refine ⟨fun w1 hC K hK => ?_, ?_⟩; (next => (go_wp2; all_goals (first | exact Below.refl _ _ | assumption | exact (Below.refl _ _).drew))); try simp only [Act.put, slotL_succ, slotL_zero, List.setIfInBounds_toArray, List.set_cons_zero, List.set_cons_succ])
        refine wpC_nil ?_
        intro w1 hCw1 hNw1
        clear hNw1
        have hocw1 := (old_cells hCw1).1
        have hofw1 := (old_cells hCw1).2
        simp only [List.drop_succ_cons, List.drop_zero, List.drop_nil]
        have hbw : Below wr.heap.size wr w1 := (Below.refl _ wr).drew.trans hCw1
        have G1 := Lib.hid (G.out.below hbw)
        clear hocw1 hofw1 hCw1 hbw a0 a1 a2 a3 af b0 b1 b2 b3 bf
        obtain ⟨a0, a1, a2, a3, af⟩ := G1.out.1.set4
        go_wp2_with (go_at_call 28; refine (HA.out _).mono ?_; rintro e w5 ⟨rfl, hb5⟩)
        go_ret
        exact ⟨by rw [HR.out]; rfl, (G1.out.below hb5).2.2⟩
      · have HR : Hid (cmpS N M = 1) := cmp_of_gt (lt_of_bits hy hx fun j hj => (HT.out j (by omega)).symm)
        have HA : Hid (∀ w, Calls Tryd.prog 28 #[setV N, .int .i64 k] w fun e w' => e = .returned (.bool true) ∧ Below w.heap.size w w') := fun w => by have := rhas_in N k w hk; rwa [hx] at this
        go_wp2_with fail
        refine wp_region_calm 7 20 [0, 1, 2, 3, 4, 5, 6] [] (fun _ => .bool false) (by kernel_rfl) (by kernel_rfl) (by kernel_rfl) (by kernel_rfl) (fun _ h => by cases h) (by rfl) ?_
        (refine calm_step rfl (by rfl) (by rfl) rfl (Nat.le_of_ble_eq_true rfl) ?_; apply Exists.intro; refine ⟨fun w1 hC K hK => ?_, ?_⟩; (next => (obtain ⟨hoc, hof⟩ := old_cells hC; have HC := Lib.hid hC; clear hC; go_wp2; all_goals (first | exact Below.refl _ _ | assumption | exact (Below.refl _ _).drew))); try simp only [Act.put, slotL_succ, slotL_zero, List.setIfInBounds_toArray, List.set_cons_zero, List.set_cons_succ])
        (refine calm_step rfl (by rfl) (by rfl) rfl (Nat.le_of_ble_eq_true rfl) ?_; apply Exists.intro; refine ⟨fun w1 hC K hK => ?_, ?_⟩; (next => (go_wp2; all_goals (first | exact Below.refl _ _ | assumption | exact (Below.refl _ _).drew))); try simp only [Act.put, slotL_succ, slotL_zero, List.setIfInBounds_toArray, List.set_cons_zero, List.set_cons_succ])
        (refine calm_step rfl (by rfl) (by rfl) rfl (Nat.le_of_ble_eq_true rfl) ?_; apply Exists.intro; refine ⟨fun w1 hC K hK => ?_, ?_⟩; (next => (obtain ⟨hoc, hof⟩ := old_cells hC; have HC := Lib.hid hC; clear hC; go_wp2_with (first | (go_at_call 28; refine (rhas_in _ k _ hk).mono ?_; rintro e w2 ⟨rfl, hb⟩)); all_goals (first | exact Below.refl _ _ | assumption | exact (Below.refl _ _).drew))); try simp only [Act.put, slotL_succ, slotL_zero, List.setIfInBounds_toArray, List.set_cons_zero, List.set_cons_succ])
        (refine calm_step rfl (by rfl) (by rfl) rfl (Nat.le_of_ble_eq_true rfl) ?_; apply Exists.intro; refine ⟨fun w1 hC K hK => ?_, ?_⟩; (next => (obtain ⟨hoc, hof⟩ := old_cells hC; have HC := Lib.hid hC; clear hC; go_wp2; all_goals (first | exact Below.refl _ _ | assumption | exact (Below.refl _ _).drew))); try simp only [Act.put, slotL_succ, slotL_zero, List.setIfInBounds_toArray, List.set_cons_zero, List.set_cons_succ])
        (refine calm_step rfl (by rfl) (by rfl) rfl (Nat.le_of_ble_eq_true rfl) ?_; apply Exists.intro; refine ⟨fun w1 hC K hK => ?_, ?_⟩; (next => (go_wp2; all_goals (first | exact Below.refl _ _ | assumption | exact (Below.refl _ _).drew))); try simp only [Act.put, slotL_succ, slotL_zero, List.setIfInBounds_toArray, List.set_cons_zero, List.set_cons_succ])
        (refine calm_step rfl (by rfl) (by rfl) rfl (Nat.le_of_ble_eq_true rfl) ?_; apply Exists.intro; refine ⟨fun w1 hC K hK => ?_, ?_⟩; (next => (obtain ⟨hoc, hof⟩ := old_cells hC; have HC := Lib.hid hC; clear hC; go_wp2_with (first | (go_at_call 28; refine (rhas_in _ k _ hk).mono ?_; rintro e w2 ⟨rfl, hb⟩)); all_goals (first | exact Below.refl _ _ | assumption | exact (Below.refl _ _).drew))); try simp only [Act.put, slotL_succ, slotL_zero, List.setIfInBounds_toArray, List.set_cons_zero, List.set_cons_succ])
        (refine calm_step rfl (by rfl) (by rfl) rfl (Nat.le_of_ble_eq_true rfl) ?_; apply Exists.intro; refine ⟨fun w1 hC K hK => ?_, ?_⟩; (next => (go_wp2; all_goals (first | exact Below.refl _ _ | assumption | exact (Below.refl _ _).drew))); try simp only [Act.put, slotL_succ, slotL_zero, List.setIfInBounds_toArray, List.set_cons_zero, List.set_cons_succ])
        refine wpC_nil ?_
        intro w1 hCw1 hNw1
        clear hNw1
        have hocw1 := (old_cells hCw1).1
        have hofw1 := (old_cells hCw1).2
        simp only [List.drop_succ_cons, List.drop_zero, List.drop_nil]
        have hbw : Below wr.heap.size wr w1 := (Below.refl _ wr).drew.trans hCw1
        have G1 := Lib.hid (G.out.below hbw)
        clear hocw1 hofw1 hCw1 hbw a0 a1 a2 a3 af b0 b1 b2 b3 bf
        obtain ⟨a0, a1, a2, a3, af⟩ := G1.out.1.set4
        go_wp2_with (go_at_call 28; refine (HA.out _).mono ?_; rintro e w5 ⟨rfl, hb5⟩)
        go_ret
        exact ⟨by rw [HR.out]; rfl, (G1.out.below hb5).2.2⟩
      · have HR : Hid (∀ j : Nat, (k : Int) - 1 < j → N.testBit j = M.testBit j) := fun j hj => by
          by_cases e : j = k
          · rw [e, hx, hy]
          · exact HT.out j (by omega)
        go_wp2_with fail
        refine wp_region_calm 7 20 [0, 1, 2, 3, 4, 5, 6] [] (fun _ => .bool false) (by kernel_rfl) (by kernel_rfl) (by kernel_rfl) (by kernel_rfl) (fun _ h => by cases h) (by rfl) ?_
        (refine calm_step rfl (by rfl) (by rfl) rfl (Nat.le_of_ble_eq_true rfl) ?_; apply Exists.intro; refine ⟨fun w1 hC K hK => ?_, ?_⟩; (next => (obtain ⟨hoc, hof⟩ := old_cells hC; have HC := Lib.hid hC; clear hC; go_wp2; all_goals (first | exact Below.refl _ _ | assumption | exact (Below.refl _ _).drew))); try simp only [Act.put, slotL_succ, slotL_zero, List.setIfInBounds_toArray, List.set_cons_zero, List.set_cons_succ])
        (refine calm_step rfl (by rfl) (by rfl) rfl (Nat.le_of_ble_eq_true rfl) ?_; apply Exists.intro; refine ⟨fun w1 hC K hK => ?_, ?_⟩; (next => (go_wp2; all_goals (first | exact Below.refl _ _ | assumption | exact (Below.refl _ _).drew))); try simp only [Act.put, slotL_succ, slotL_zero, List.setIfInBounds_toArray, List.set_cons_zero, List.set_cons_succ])
        (refine calm_step rfl (by rfl) (by rfl) rfl (Nat.le_of_ble_eq_true rfl) ?_; apply Exists.intro; refine ⟨fun w1 hC K hK => ?_, ?_⟩; (next => (obtain ⟨hoc, hof⟩ := old_cells hC; have HC := Lib.hid hC; clear hC; go_wp2_with (first | (go_at_call 28; refine (rhas_in _ k _ hk).mono ?_; rintro e w2 ⟨rfl, hb⟩)); all_goals (first | exact Below.refl _ _ | assumption | exact (Below.refl _ _).drew))); try simp only [Act.put, slotL_succ, slotL_zero, List.setIfInBounds_toArray, List.set_cons_zero, List.set_cons_succ])
        (refine calm_step rfl (by rfl) (by rfl) rfl (Nat.le_of_ble_eq_true rfl) ?_; apply Exists.intro; refine ⟨fun w1 hC K hK => ?_, ?_⟩; (next => (obtain ⟨hoc, hof⟩ := old_cells hC; have HC := Lib.hid hC; clear hC; go_wp2; all_goals (first | exact Below.refl _ _ | assumption | exact (Below.refl _ _).drew))); try simp only [Act.put, slotL_succ, slotL_zero, List.setIfInBounds_toArray, List.set_cons_zero, List.set_cons_succ])
        (refine calm_step rfl (by rfl) (by rfl) rfl (Nat.le_of_ble_eq_true rfl) ?_; apply Exists.intro; refine ⟨fun w1 hC K hK => ?_, ?_⟩; (next => (go_wp2; all_goals (first | exact Below.refl _ _ | assumption | exact (Below.refl _ _).drew))); try simp only [Act.put, slotL_succ, slotL_zero, List.setIfInBounds_toArray, List.set_cons_zero, List.set_cons_succ])
        (refine calm_step rfl (by rfl) (by rfl) rfl (Nat.le_of_ble_eq_true rfl) ?_; apply Exists.intro; refine ⟨fun w1 hC K hK => ?_, ?_⟩; (next => (obtain ⟨hoc, hof⟩ := old_cells hC; have HC := Lib.hid hC; clear hC; go_wp2_with (first | (go_at_call 28; refine (rhas_in _ k _ hk).mono ?_; rintro e w2 ⟨rfl, hb⟩)); all_goals (first | exact Below.refl _ _ | assumption | exact (Below.refl _ _).drew))); try simp only [Act.put, slotL_succ, slotL_zero, List.setIfInBounds_toArray, List.set_cons_zero, List.set_cons_succ])
        (refine calm_step rfl (by rfl) (by rfl) rfl (Nat.le_of_ble_eq_true rfl) ?_; apply Exists.intro; refine ⟨fun w1 hC K hK => ?_, ?_⟩; (next => (go_wp2; all_goals (first | exact Below.refl _ _ | assumption | exact (Below.refl _ _).drew))); try simp only [Act.put, slotL_succ, slotL_zero, List.setIfInBounds_toArray, List.set_cons_zero, List.set_cons_succ])
        refine wpC_nil ?_
        intro w1 hCw1 hNw1
        clear hNw1
        have hocw1 := (old_cells hCw1).1
        have hofw1 := (old_cells hCw1).2
        simp only [List.drop_succ_cons, List.drop_zero, List.drop_nil]
        have hbw : Below wr.heap.size wr w1 := (Below.refl _ wr).drew.trans hCw1
        have G1 := Lib.hid (G.out.below hbw)
        clear hocw1 hofw1 hCw1 hbw a0 a1 a2 a3 af b0 b1 b2 b3 bf
        clear HT
        go_wp2_with fail
        exact ⟨⟨(k : Int) - 1, by omega, by omega, rfl, HR, G1.out⟩, by simp [intOf]⟩
end Go.Proofs.YtjifajigigflkaaDoor
/- The laws' own of. -/
namespace Go.Proofs.YtjifajigigflkaaDoor
set_option linter.unusedSimpArgs false
set_option linter.unusedVariables false
open Go Go.RowKit

theorem ofV_eq (o : Option Nat) : ofV o = .tuple #[setV (o.getD 0), .int .i64 (if o.isSome then 0 else 1)] := by cases o <;> rfl
set_option maxRecDepth 100000 in
set_option maxHeartbeats 400000 in
theorem lof_any (a : Option Addr) (cap : Nat) (xs : List Int) (w : World) (hx : Cells w a (xs.map (Value.int .i64))) (hl : xs.length ≤ 9223372036854775807) :
    Calls Tryd.prog 64 #[.slice a xs.length cap] w fun e w' => e = .returned (setV ((ofL xs 0).getD 0)) ∧ Below w.heap.size w w' := by
  obtain ⟨R, hR⟩ : ∃ R, R = (ofL xs 0).getD 0 := ⟨_, rfl⟩
  obtain ⟨z, hz⟩ : ∃ z : Int, z = if (ofL xs 0).isSome then 0 else 1 := ⟨_, rfl⟩
  have HO : Hid (∀ o, Calls Tryd.prog 18 #[.slice a xs.length cap] (w.alloc o) fun e w' => e = .returned (.tuple #[setV R, .int .i64 z]) ∧ Below (w.alloc o).heap.size (w.alloc o) w') := fun o => by
    have := rOf_any a cap xs (w.alloc o) (hx.below (below_new1 w o)) hl
    rwa [ofV_eq, ← hR, ← hz] at this
  rw [← hR]
  clear hx hR hz
  go_enter Tryd.func64, Tryd.ntmps64
  go_wp2_with (go_at_call 18; refine (HO.out _).mono ?_; rintro e w2 ⟨rfl, hb⟩; simp only [setV]; have HB := Lib.hid ((Blk.newS w 25).below hb (by simp)); have HW := Lib.hid ((below_new1 w _).trans (hb.mono (by simp))); clear hb; have hlt2 := HB.out.lt; have hne2 : ¬ w.heap.size = w2.heap.size := (by omega); obtain ⟨c0, c1, c2, c3, cf⟩ := HB.out.set4)
  refine named (fun W => Blk W w.heap.size (setA R) 25 ∧ Below w.heap.size w W) ⟨(HB.out.put4 (by rfl) _ _ _ _).alloc _, (below_put4 HW.out (Nat.le_refl _) _ _ _ _).alloc (Below.size (below_put4 HW.out (Nat.le_refl _) _ _ _ _)) _⟩ ?_
  rintro W ⟨hB, hbW⟩
  obtain ⟨q0, q1, q2, q3, _⟩ := hB.set4
  exact bodyPost_ret (v := setV R) (by simp [results, Tryd.results64, go_sem, q0, q1, q2, q3, setV]) rfl ⟨rfl, hbW⟩
end Go.Proofs.YtjifajigigflkaaDoor
/- The laws' own less. -/
namespace Go.Proofs.YtjifajigigflkaaDoor
set_option linter.unusedSimpArgs false
set_option linter.unusedVariables false
open Go Go.RowKit

/-- In order: at the first place where they differ; else by length. -/
def lessL : List Int → List Int → Bool
  | [], ys => decide (0 < ys.length)
  | _ :: _, [] => false
  | x :: xs, y :: ys => if x = y then lessL xs ys else decide (x < y)
theorem lessL_drop {xs ys : List Int} {k : Nat} (h1 : k < xs.length) (h2 : k < ys.length) : lessL (xs.drop k) (ys.drop k) = if xs[k] = ys[k] then lessL (xs.drop (k + 1)) (ys.drop (k + 1)) else decide (xs[k] < ys[k]) := by
  rw [← List.getElem_cons_drop h1, ← List.getElem_cons_drop h2]; rfl
theorem lessL_end {xs ys : List Int} {k : Nat} (hk : k ≤ xs.length) (hk' : k ≤ ys.length) (h : ¬ (k < xs.length ∧ k < ys.length)) : lessL (xs.drop k) (ys.drop k) = decide (xs.length < ys.length) := by
  by_cases h1 : k < xs.length
  · rw [← List.getElem_cons_drop h1, show ys.drop k = [] from List.drop_of_length_le (by omega)]
    simp only [lessL]
    symm; rw [decide_eq_false_iff_not]; omega
  · rw [show xs.drop k = [] from List.drop_of_length_le (by omega)]
    simp only [lessL, List.length_drop]
    congr 1; apply propext; omega
set_option maxRecDepth 100000 in
set_option maxHeartbeats 1000000 in
theorem less_any (a a' : Option Addr) (cap cap' : Nat) (xs ys : List Int) (w : World) (hx : Cells w a (xs.map (Value.int .i64))) (hy : Cells w a' (ys.map (Value.int .i64))) (hl : xs.length ≤ 9223372036854775807) (hl' : ys.length ≤ 9223372036854775807) :
    Calls Tryd.prog 62 #[.slice a xs.length cap, .slice a' ys.length cap'] w fun e w' => e = .returned (.bool (lessL xs ys)) ∧ Below w.heap.size w w' := by
  have HX := Lib.hid hx
  have HY := Lib.hid hy
  clear hx hy
  go_enter Tryd.func62, Tryd.ntmps62
  go_wp2_with fail
  go_loopw [5] (fun i wr => ∃ k : Nat, k ≤ xs.length ∧ k ≤ ys.length ∧ i = .int .i64 k ∧ Hid (lessL xs ys = lessL (xs.drop k) (ys.drop k)) ∧ Below w.heap.size w wr) (fun i _ => xs.length - (intOf i).toNat)
  case atStart => exact ⟨0, by omega, by omega, rfl, rfl, Below.refl _ _⟩
  case round =>
    obtain ⟨k, hk, hk', rfl, HT, hW⟩ := hrel
    have HW := Lib.hid hW
    clear hW
    by_cases hlt : k < xs.length
    · by_cases hlt' : k < ys.length
      · obtain ⟨b, o, rfl, hbl, hcell⟩ := (HX.out.below HW.out).at (i := k) (by simpa using hlt)
        obtain ⟨b', o', rfl, hbl', hcell'⟩ := (HY.out.below HW.out).at (i := k) (by simpa using hlt')
        rw [List.getElem_map] at hcell hcell'
        have hd := lessL_drop hlt hlt'
        rw [← HT.out] at hd
        obtain ⟨x, hxk⟩ : ∃ x, x = xs[k] := ⟨_, rfl⟩
        obtain ⟨y, hyk⟩ : ∃ y, y = ys[k] := ⟨_, rfl⟩
        rw [← hxk] at hcell hd
        rw [← hyk] at hcell' hd
        clear hxk hyk HT
        by_cases he : x = y
        · have hq : (x != y) = false := by simp [he]
          rw [if_pos he] at hd
          have HR := Lib.hid hd
          clear hd he
          go_wp2_with fail
          refine wp_region_same 9 41 [0, 1, 2, 3, 4, 5, 6, 7, 8] (by kernel_rfl) (by kernel_rfl) (by kernel_rfl) (by kernel_rfl) (by rfl) ?_
          (refine same_step rfl (by rfl) (by rfl) rfl (Nat.le_of_ble_eq_true rfl) ?_; apply Exists.intro; refine ⟨fun N hN => ?_, ?_⟩; (next => (go_wp2; all_goals rfl)); try simp only [Act.put, slotL_succ, slotL_zero, List.setIfInBounds_toArray, List.set_cons_zero, List.set_cons_succ])
          (refine same_step rfl (by rfl) (by rfl) rfl (Nat.le_of_ble_eq_true rfl) ?_; apply Exists.intro; refine ⟨fun N hN => ?_, ?_⟩; (next => (go_wp2; all_goals rfl)); try simp only [Act.put, slotL_succ, slotL_zero, List.setIfInBounds_toArray, List.set_cons_zero, List.set_cons_succ])
          (refine same_step rfl (by rfl) (by rfl) rfl (Nat.le_of_ble_eq_true rfl) ?_; apply Exists.intro; refine ⟨fun N hN => ?_, ?_⟩; (next => (go_wp2; all_goals rfl)); try simp only [Act.put, slotL_succ, slotL_zero, List.setIfInBounds_toArray, List.set_cons_zero, List.set_cons_succ])
          (refine same_step rfl (by rfl) (by rfl) rfl (Nat.le_of_ble_eq_true rfl) ?_; apply Exists.intro; refine ⟨fun N hN => ?_, ?_⟩; (next => (go_wp2; all_goals rfl)); try simp only [Act.put, slotL_succ, slotL_zero, List.setIfInBounds_toArray, List.set_cons_zero, List.set_cons_succ])
          (refine same_step rfl (by rfl) (by rfl) rfl (Nat.le_of_ble_eq_true rfl) ?_; apply Exists.intro; refine ⟨fun N hN => ?_, ?_⟩; (next => (go_wp2; all_goals rfl)); try simp only [Act.put, slotL_succ, slotL_zero, List.setIfInBounds_toArray, List.set_cons_zero, List.set_cons_succ])
          (refine same_step rfl (by rfl) (by rfl) rfl (Nat.le_of_ble_eq_true rfl) ?_; apply Exists.intro; refine ⟨fun N hN => ?_, ?_⟩; (next => (go_wp2; all_goals rfl)); try simp only [Act.put, slotL_succ, slotL_zero, List.setIfInBounds_toArray, List.set_cons_zero, List.set_cons_succ])
          (refine same_step rfl (by rfl) (by rfl) rfl (Nat.le_of_ble_eq_true rfl) ?_; apply Exists.intro; refine ⟨fun N hN => ?_, ?_⟩; (next => (go_wp2; all_goals rfl)); try simp only [Act.put, slotL_succ, slotL_zero, List.setIfInBounds_toArray, List.set_cons_zero, List.set_cons_succ])
          (refine same_step rfl (by rfl) (by rfl) rfl (Nat.le_of_ble_eq_true rfl) ?_; apply Exists.intro; refine ⟨fun N hN => ?_, ?_⟩; (next => (go_wp2; all_goals rfl)); try simp only [Act.put, slotL_succ, slotL_zero, List.setIfInBounds_toArray, List.set_cons_zero, List.set_cons_succ])
          (refine same_step rfl (by rfl) (by rfl) rfl (Nat.le_of_ble_eq_true rfl) ?_; apply Exists.intro; refine ⟨fun N hN => ?_, ?_⟩; (next => (go_wp2; all_goals rfl)); try simp only [Act.put, slotL_succ, slotL_zero, List.setIfInBounds_toArray, List.set_cons_zero, List.set_cons_succ])
          refine wpC_nil ?_
          simp only [List.drop_succ_cons, List.drop_zero, List.drop_nil]
          go_wp2_with fail
          exact ⟨⟨k + 1, by omega, by omega, rfl, HR, HW.out.drew⟩, by simp [intOf]; omega⟩
        · have hq : (x != y) = true := by simp [he]
          rw [if_neg he] at hd
          have HR := Lib.hid hd
          clear hd he
          go_wp2_with fail
          refine wp_region_same 9 41 [0, 1, 2, 3, 4, 5, 6, 7, 8] (by kernel_rfl) (by kernel_rfl) (by kernel_rfl) (by kernel_rfl) (by rfl) ?_
          (refine same_step rfl (by rfl) (by rfl) rfl (Nat.le_of_ble_eq_true rfl) ?_; apply Exists.intro; refine ⟨fun N hN => ?_, ?_⟩; (next => (go_wp2; all_goals rfl)); try simp only [Act.put, slotL_succ, slotL_zero, List.setIfInBounds_toArray, List.set_cons_zero, List.set_cons_succ])
          (refine same_step rfl (by rfl) (by rfl) rfl (Nat.le_of_ble_eq_true rfl) ?_; apply Exists.intro; refine ⟨fun N hN => ?_, ?_⟩; (next => (go_wp2; all_goals rfl)); try simp only [Act.put, slotL_succ, slotL_zero, List.setIfInBounds_toArray, List.set_cons_zero, List.set_cons_succ])
          (refine same_step rfl (by rfl) (by rfl) rfl (Nat.le_of_ble_eq_true rfl) ?_; apply Exists.intro; refine ⟨fun N hN => ?_, ?_⟩; (next => (go_wp2; all_goals rfl)); try simp only [Act.put, slotL_succ, slotL_zero, List.setIfInBounds_toArray, List.set_cons_zero, List.set_cons_succ])
          (refine same_step rfl (by rfl) (by rfl) rfl (Nat.le_of_ble_eq_true rfl) ?_; apply Exists.intro; refine ⟨fun N hN => ?_, ?_⟩; (next => (go_wp2; all_goals rfl)); try simp only [Act.put, slotL_succ, slotL_zero, List.setIfInBounds_toArray, List.set_cons_zero, List.set_cons_succ])
          (refine same_step rfl (by rfl) (by rfl) rfl (Nat.le_of_ble_eq_true rfl) ?_; apply Exists.intro; refine ⟨fun N hN => ?_, ?_⟩; (next => (go_wp2; all_goals rfl)); try simp only [Act.put, slotL_succ, slotL_zero, List.setIfInBounds_toArray, List.set_cons_zero, List.set_cons_succ])
          (refine same_step rfl (by rfl) (by rfl) rfl (Nat.le_of_ble_eq_true rfl) ?_; apply Exists.intro; refine ⟨fun N hN => ?_, ?_⟩; (next => (go_wp2; all_goals rfl)); try simp only [Act.put, slotL_succ, slotL_zero, List.setIfInBounds_toArray, List.set_cons_zero, List.set_cons_succ])
          (refine same_step rfl (by rfl) (by rfl) rfl (Nat.le_of_ble_eq_true rfl) ?_; apply Exists.intro; refine ⟨fun N hN => ?_, ?_⟩; (next => (go_wp2; all_goals rfl)); try simp only [Act.put, slotL_succ, slotL_zero, List.setIfInBounds_toArray, List.set_cons_zero, List.set_cons_succ])
          (refine same_step rfl (by rfl) (by rfl) rfl (Nat.le_of_ble_eq_true rfl) ?_; apply Exists.intro; refine ⟨fun N hN => ?_, ?_⟩; (next => (go_wp2; all_goals rfl)); try simp only [Act.put, slotL_succ, slotL_zero, List.setIfInBounds_toArray, List.set_cons_zero, List.set_cons_succ])
          (refine same_step rfl (by rfl) (by rfl) rfl (Nat.le_of_ble_eq_true rfl) ?_; apply Exists.intro; refine ⟨fun N hN => ?_, ?_⟩; (next => (go_wp2; all_goals rfl)); try simp only [Act.put, slotL_succ, slotL_zero, List.setIfInBounds_toArray, List.set_cons_zero, List.set_cons_succ])
          refine wpC_nil ?_
          simp only [List.drop_succ_cons, List.drop_zero, List.drop_nil]
          go_wp2_with fail
          refine wp_region_same 10 41 [0, 1, 2, 3, 4, 5, 6, 7, 8, 9] (by kernel_rfl) (by kernel_rfl) (by kernel_rfl) (by kernel_rfl) (by rfl) ?_
          (refine same_step rfl (by rfl) (by rfl) rfl (Nat.le_of_ble_eq_true rfl) ?_; apply Exists.intro; refine ⟨fun N hN => ?_, ?_⟩; (next => (go_wp2; all_goals rfl)); try simp only [Act.put, slotL_succ, slotL_zero, List.setIfInBounds_toArray, List.set_cons_zero, List.set_cons_succ])
          (refine same_step rfl (by rfl) (by rfl) rfl (Nat.le_of_ble_eq_true rfl) ?_; apply Exists.intro; refine ⟨fun N hN => ?_, ?_⟩; (next => (go_wp2; all_goals rfl)); try simp only [Act.put, slotL_succ, slotL_zero, List.setIfInBounds_toArray, List.set_cons_zero, List.set_cons_succ])
          (refine same_step rfl (by rfl) (by rfl) rfl (Nat.le_of_ble_eq_true rfl) ?_; apply Exists.intro; refine ⟨fun N hN => ?_, ?_⟩; (next => (go_wp2; all_goals rfl)); try simp only [Act.put, slotL_succ, slotL_zero, List.setIfInBounds_toArray, List.set_cons_zero, List.set_cons_succ])
          (refine same_step rfl (by rfl) (by rfl) rfl (Nat.le_of_ble_eq_true rfl) ?_; apply Exists.intro; refine ⟨fun N hN => ?_, ?_⟩; (next => (go_wp2; all_goals rfl)); try simp only [Act.put, slotL_succ, slotL_zero, List.setIfInBounds_toArray, List.set_cons_zero, List.set_cons_succ])
          (refine same_step rfl (by rfl) (by rfl) rfl (Nat.le_of_ble_eq_true rfl) ?_; apply Exists.intro; refine ⟨fun N hN => ?_, ?_⟩; (next => (go_wp2; all_goals rfl)); try simp only [Act.put, slotL_succ, slotL_zero, List.setIfInBounds_toArray, List.set_cons_zero, List.set_cons_succ])
          (refine same_step rfl (by rfl) (by rfl) rfl (Nat.le_of_ble_eq_true rfl) ?_; apply Exists.intro; refine ⟨fun N hN => ?_, ?_⟩; (next => (go_wp2; all_goals rfl)); try simp only [Act.put, slotL_succ, slotL_zero, List.setIfInBounds_toArray, List.set_cons_zero, List.set_cons_succ])
          (refine same_step rfl (by rfl) (by rfl) rfl (Nat.le_of_ble_eq_true rfl) ?_; apply Exists.intro; refine ⟨fun N hN => ?_, ?_⟩; (next => (go_wp2; all_goals rfl)); try simp only [Act.put, slotL_succ, slotL_zero, List.setIfInBounds_toArray, List.set_cons_zero, List.set_cons_succ])
          (refine same_step rfl (by rfl) (by rfl) rfl (Nat.le_of_ble_eq_true rfl) ?_; apply Exists.intro; refine ⟨fun N hN => ?_, ?_⟩; (next => (go_wp2; all_goals rfl)); try simp only [Act.put, slotL_succ, slotL_zero, List.setIfInBounds_toArray, List.set_cons_zero, List.set_cons_succ])
          (refine same_step rfl (by rfl) (by rfl) rfl (Nat.le_of_ble_eq_true rfl) ?_; apply Exists.intro; refine ⟨fun N hN => ?_, ?_⟩; (next => (go_wp2; all_goals rfl)); try simp only [Act.put, slotL_succ, slotL_zero, List.setIfInBounds_toArray, List.set_cons_zero, List.set_cons_succ])
          (refine same_step rfl (by rfl) (by rfl) rfl (Nat.le_of_ble_eq_true rfl) ?_; apply Exists.intro; refine ⟨fun N hN => ?_, ?_⟩; (next => (go_wp2; all_goals rfl)); try simp only [Act.put, slotL_succ, slotL_zero, List.setIfInBounds_toArray, List.set_cons_zero, List.set_cons_succ])
          refine wpC_nil ?_
          simp only [List.drop_succ_cons, List.drop_zero, List.drop_nil]
          go_wp2_with fail
          go_ret
          exact ⟨by rw [HR.out]; rfl, HW.out.drew.drew⟩
      · have HR : Hid (lessL xs ys = decide (xs.length < ys.length)) := by rw [Hid, HT.out]; exact lessL_end hk hk' (by omega)
        clear HT
        go_wp2_with fail
        go_ret
        exact ⟨by rw [HR.out]; simp, HW.out⟩
    · have HR : Hid (lessL xs ys = decide (xs.length < ys.length)) := by rw [Hid, HT.out]; exact lessL_end hk hk' (by omega)
      clear HT
      go_wp2_with fail
      go_ret
      exact ⟨by rw [HR.out]; simp, HW.out⟩
end Go.Proofs.YtjifajigigflkaaDoor
/- The laws' own hits. -/
namespace Go.Proofs.YtjifajigigflkaaDoor
set_option linter.unusedSimpArgs false
set_option linter.unusedVariables false
open Go Go.RowKit

theorem all_take_succ {f : Nat → Bool} {ls : List Nat} {k : Nat} (h : k < ls.length) : (ls.take (k + 1)).all f = ((ls.take k).all f && f ls[k]) := by
  rw [List.take_add_one, List.getElem?_eq_getElem h, List.all_append]; simp only [Option.toList, List.all_cons, List.all_nil, Bool.and_true]
theorem all_of_get {f : Nat → Bool} {ls : List Nat} {k : Nat} (h : k < ls.length) (hf : f ls[k] = false) : ls.all f = false := by
  rw [List.all_eq_false]; exact ⟨ls[k], List.getElem_mem h, by simp [hf]⟩
set_option maxRecDepth 100000 in
set_option maxHeartbeats 600000 in
theorem hits_any (N : Nat) (a : Option Addr) (cap : Nat) (ls : List Nat) (w : World) (hl : ls.length ≤ 9223372036854775807) (hs : SetCells w a ls) (ho : ∀ ad, a = some ad → ad.block < w.heap.size) :
    Calls Tryd.prog 63 #[setV N, .slice a ls.length cap] w fun e w' => e = .returned (.bool (ls.all fun M => !eqS (N &&& M) 0)) ∧ Below w.heap.size w w' := by
  have HS := Lib.hid hs
  have HO := Lib.hid ho
  clear hs ho
  go_enter Tryd.func63, Tryd.ntmps63
  simp only [setV]
  go_wp2_with fail
  go_loopw [5] (fun sv wr => ∃ k : Nat, k ≤ ls.length ∧ sv = .int .i64 k ∧ Hid ((ls.take k).all (fun M => !eqS (N &&& M) 0) = true) ∧ Blk wr w.heap.size (setA N) 25 ∧ Below w.heap.size w wr) (fun sv _ => ls.length - (intOf sv).toNat)
  case atStart => exact ⟨0, by omega, rfl, by simp [Hid], Blk.newW _ _ _, below_new1 _ _⟩
  case round =>
    obtain ⟨k, hk, rfl, HA, hB, hbel⟩ := hrel
    have HB := Lib.hid hB
    have HW := Lib.hid hbel
    clear hB hbel
    by_cases hlt : k < ls.length
    · obtain ⟨b, o, rfl, hc⟩ := HS.out.at hlt
      have hbo := HO.out _ rfl
      simp at hbo
      have hbr : b < wr.heap.size := Nat.lt_of_lt_of_le hbo HW.out.size
      have hlB := HB.out.lt
      have hdr : wr.drew.heap.size = wr.heap.size := rfl
      have hc' : ∀ j, j < 4 → wr.cell? ⟨b, o + k * 4 + j, none⟩ = some (.int .u64 (word ls[k] j)) := fun j hj => by
        rw [World.cell?_of_block (w := w)]
        · exact hc j hj
        · exact HW.out.block b hbo
      obtain ⟨x, hx⟩ : ∃ x, x = ls[k] := ⟨_, rfl⟩
      rw [← hx] at hc'
      have HX := Lib.hid hx
      have c0 : wr.cell? ⟨b, o + k * 4, none⟩ = _ := hc' 0 (by omega)
      have c1 := hc' 1 (by omega)
      have c2 := hc' 2 (by omega)
      have c3 := hc' 3 (by omega)
      obtain ⟨r0, r1, r2, r3, rf⟩ := HB.out.set4
      clear hc hc' hx
      obtain ⟨z, hz⟩ : ∃ z, z = eqS (N &&& x) 0 := ⟨_, rfl⟩
      have HM : Hid (∀ w, Calls Tryd.prog 41 #[setV N, setV x] w fun e w' => e = .returned (.bool (!z)) ∧ Below w.heap.size w w') := fun w => by rw [hz]; exact meets_any N x w
      cases z with
      | true =>
        have HR : Hid ((ls.all fun M => !eqS (N &&& M) 0) = false) := all_of_get hlt (by rw [← HX.out, ← hz]; rfl)
        clear hz
        go_wp2_with fail
        refine wp_region_calm 7 19 [0, 1, 2, 3, 4, 5, 6] [] (fun _ => .bool false) (by kernel_rfl) (by kernel_rfl) (by kernel_rfl) (by kernel_rfl) (fun _ h => by cases h) (by rfl) ?_
        (refine calm_step rfl (by rfl) (by rfl) rfl (Nat.le_of_ble_eq_true rfl) ?_; apply Exists.intro; refine ⟨fun w1 hC K hK => ?_, ?_⟩; (next => (obtain ⟨hoc, hof⟩ := old_cells hC; have HC := Lib.hid hC; clear hC; go_wp2; all_goals (first | exact Below.refl _ _ | assumption | exact (Below.refl _ _).drew))); try simp only [Act.put, slotL_succ, slotL_zero, List.setIfInBounds_toArray, List.set_cons_zero, List.set_cons_succ])
        (refine calm_step rfl (by rfl) (by rfl) rfl (Nat.le_of_ble_eq_true rfl) ?_; apply Exists.intro; refine ⟨fun w1 hC K hK => ?_, ?_⟩; (next => (go_wp2; all_goals (first | exact Below.refl _ _ | assumption | exact (Below.refl _ _).drew))); try simp only [Act.put, slotL_succ, slotL_zero, List.setIfInBounds_toArray, List.set_cons_zero, List.set_cons_succ])
        (refine calm_step rfl (by rfl) (by rfl) rfl (Nat.le_of_ble_eq_true rfl) ?_; apply Exists.intro; refine ⟨fun w1 hC K hK => ?_, ?_⟩; (next => (go_wp2; all_goals (first | exact Below.refl _ _ | assumption | exact (Below.refl _ _).drew))); try simp only [Act.put, slotL_succ, slotL_zero, List.setIfInBounds_toArray, List.set_cons_zero, List.set_cons_succ])
        (refine calm_step rfl (by rfl) (by rfl) rfl (Nat.le_of_ble_eq_true rfl) ?_; apply Exists.intro; refine ⟨fun w1 hC K hK => ?_, ?_⟩; (next => (go_wp2; all_goals (first | exact Below.refl _ _ | assumption | exact (Below.refl _ _).drew))); try simp only [Act.put, slotL_succ, slotL_zero, List.setIfInBounds_toArray, List.set_cons_zero, List.set_cons_succ])
        (refine calm_step rfl (by rfl) (by rfl) rfl (Nat.le_of_ble_eq_true rfl) ?_; apply Exists.intro; refine ⟨fun w1 hC K hK => ?_, ?_⟩; (next => (obtain ⟨hoc, hof⟩ := old_cells hC; have HC := Lib.hid hC; clear hC; go_wp2; all_goals (first | exact Below.refl _ _ | assumption | exact (Below.refl _ _).drew))); try simp only [Act.put, slotL_succ, slotL_zero, List.setIfInBounds_toArray, List.set_cons_zero, List.set_cons_succ])
        (refine calm_step rfl (by rfl) (by rfl) rfl (Nat.le_of_ble_eq_true rfl) ?_; apply Exists.intro; refine ⟨fun w1 hC K hK => ?_, ?_⟩; (next => (obtain ⟨hoc, hof⟩ := old_cells hC; have HC := Lib.hid hC; clear hC; go_wp2_with (first | (go_at_call 41; refine (HM.out _).mono ?_; rintro e w2 ⟨rfl, hb⟩)); all_goals (first | exact Below.refl _ _ | assumption | exact (Below.refl _ _).drew))); try simp only [Act.put, slotL_succ, slotL_zero, List.setIfInBounds_toArray, List.set_cons_zero, List.set_cons_succ])
        (refine calm_step rfl (by rfl) (by rfl) rfl (Nat.le_of_ble_eq_true rfl) ?_; apply Exists.intro; refine ⟨fun w1 hC K hK => ?_, ?_⟩; (next => (go_wp2; all_goals (first | exact Below.refl _ _ | assumption | exact (Below.refl _ _).drew))); try simp only [Act.put, slotL_succ, slotL_zero, List.setIfInBounds_toArray, List.set_cons_zero, List.set_cons_succ])
        refine wpC_nil ?_
        intro w1 hCw1 hNw1
        clear hNw1
        have hocw1 := (old_cells hCw1).1
        have hofw1 := (old_cells hCw1).2
        simp only [List.drop_succ_cons, List.drop_zero, List.drop_nil]
        have hbw : Below wr.heap.size wr w1 := (Below.refl _ wr).drew.trans hCw1
        clear hocw1 hofw1 hCw1 r0 r1 r2 r3 rf c0 c1 c2 c3
        go_wp2_with fail
        go_ret
        exact ⟨by rw [HR.out]; rfl, HW.out.trans (hbw.mono HW.out.size)⟩
      | false =>
        have HR : Hid ((ls.take (k + 1)).all (fun M => !eqS (N &&& M) 0) = true) := by rw [Hid, all_take_succ hlt, HA.out, ← HX.out, ← hz]; rfl
        clear hz
        go_wp2_with fail
        refine wp_region_calm 7 19 [0, 1, 2, 3, 4, 5, 6] [] (fun _ => .bool false) (by kernel_rfl) (by kernel_rfl) (by kernel_rfl) (by kernel_rfl) (fun _ h => by cases h) (by rfl) ?_
        (refine calm_step rfl (by rfl) (by rfl) rfl (Nat.le_of_ble_eq_true rfl) ?_; apply Exists.intro; refine ⟨fun w1 hC K hK => ?_, ?_⟩; (next => (obtain ⟨hoc, hof⟩ := old_cells hC; have HC := Lib.hid hC; clear hC; go_wp2; all_goals (first | exact Below.refl _ _ | assumption | exact (Below.refl _ _).drew))); try simp only [Act.put, slotL_succ, slotL_zero, List.setIfInBounds_toArray, List.set_cons_zero, List.set_cons_succ])
        (refine calm_step rfl (by rfl) (by rfl) rfl (Nat.le_of_ble_eq_true rfl) ?_; apply Exists.intro; refine ⟨fun w1 hC K hK => ?_, ?_⟩; (next => (go_wp2; all_goals (first | exact Below.refl _ _ | assumption | exact (Below.refl _ _).drew))); try simp only [Act.put, slotL_succ, slotL_zero, List.setIfInBounds_toArray, List.set_cons_zero, List.set_cons_succ])
        (refine calm_step rfl (by rfl) (by rfl) rfl (Nat.le_of_ble_eq_true rfl) ?_; apply Exists.intro; refine ⟨fun w1 hC K hK => ?_, ?_⟩; (next => (go_wp2; all_goals (first | exact Below.refl _ _ | assumption | exact (Below.refl _ _).drew))); try simp only [Act.put, slotL_succ, slotL_zero, List.setIfInBounds_toArray, List.set_cons_zero, List.set_cons_succ])
        (refine calm_step rfl (by rfl) (by rfl) rfl (Nat.le_of_ble_eq_true rfl) ?_; apply Exists.intro; refine ⟨fun w1 hC K hK => ?_, ?_⟩; (next => (go_wp2; all_goals (first | exact Below.refl _ _ | assumption | exact (Below.refl _ _).drew))); try simp only [Act.put, slotL_succ, slotL_zero, List.setIfInBounds_toArray, List.set_cons_zero, List.set_cons_succ])
        (refine calm_step rfl (by rfl) (by rfl) rfl (Nat.le_of_ble_eq_true rfl) ?_; apply Exists.intro; refine ⟨fun w1 hC K hK => ?_, ?_⟩; (next => (obtain ⟨hoc, hof⟩ := old_cells hC; have HC := Lib.hid hC; clear hC; go_wp2; all_goals (first | exact Below.refl _ _ | assumption | exact (Below.refl _ _).drew))); try simp only [Act.put, slotL_succ, slotL_zero, List.setIfInBounds_toArray, List.set_cons_zero, List.set_cons_succ])
        (refine calm_step rfl (by rfl) (by rfl) rfl (Nat.le_of_ble_eq_true rfl) ?_; apply Exists.intro; refine ⟨fun w1 hC K hK => ?_, ?_⟩; (next => (obtain ⟨hoc, hof⟩ := old_cells hC; have HC := Lib.hid hC; clear hC; go_wp2_with (first | (go_at_call 41; refine (HM.out _).mono ?_; rintro e w2 ⟨rfl, hb⟩)); all_goals (first | exact Below.refl _ _ | assumption | exact (Below.refl _ _).drew))); try simp only [Act.put, slotL_succ, slotL_zero, List.setIfInBounds_toArray, List.set_cons_zero, List.set_cons_succ])
        (refine calm_step rfl (by rfl) (by rfl) rfl (Nat.le_of_ble_eq_true rfl) ?_; apply Exists.intro; refine ⟨fun w1 hC K hK => ?_, ?_⟩; (next => (go_wp2; all_goals (first | exact Below.refl _ _ | assumption | exact (Below.refl _ _).drew))); try simp only [Act.put, slotL_succ, slotL_zero, List.setIfInBounds_toArray, List.set_cons_zero, List.set_cons_succ])
        refine wpC_nil ?_
        intro w1 hCw1 hNw1
        clear hNw1
        have hocw1 := (old_cells hCw1).1
        have hofw1 := (old_cells hCw1).2
        simp only [List.drop_succ_cons, List.drop_zero, List.drop_nil]
        have hbw : Below wr.heap.size wr w1 := (Below.refl _ wr).drew.trans hCw1
        clear hocw1 hofw1 hCw1 r0 r1 r2 r3 rf c0 c1 c2 c3
        go_wp2_with fail
        exact ⟨⟨k + 1, by omega, rfl, HR, HB.out.below hbw HB.out.lt, HW.out.trans (hbw.mono HW.out.size)⟩, by simp [intOf]; omega⟩
    · have e : k = ls.length := by omega
      have HR : Hid ((ls.all fun M => !eqS (N &&& M) 0) = true) := by have := HA.out; rw [e, List.take_length] at this; exact this
      clear e
      go_wp2_with fail
      go_ret
      exact ⟨by rw [HR.out]; rfl, HW.out⟩
end Go.Proofs.YtjifajigigflkaaDoor
