/- For all sets, After answers as the specification does: the law BitsAfter returns true. Conditions: the listed variables of Go's library hold what their text lays. -/
import Derived.Test.YtfeknabddcohoaaDoorQe
import Derived.Deep.Cut
namespace Go.Proofs.YtfeknabddcohoaaDoor
set_option linter.unusedSimpArgs false
set_option linter.unusedVariables false
open Go Go.RowKit

/-- What is known at number p: nothing below p - q, all from there up to p. -/
def AfS (N p q : Nat) : Prop := q ≤ p ∧ (∀ i, i < p - q → N.testBit i = false) ∧ (∀ i, p - q ≤ i → i < p → N.testBit i = true) ∧ (0 < q → N.testBit p = true)
theorem AfS.start (N : Nat) : AfS N 0 0 := ⟨by omega, fun i h => by omega, fun i h1 h2 => by omega, fun h => by omega⟩
theorem AfS.skip {N p q : Nat} (h : AfS N p q) (hp : N.testBit p = false) : AfS N (p + 1) q := by
  obtain ⟨h1, h2, h3, h4⟩ := h
  have hq : q = 0 := by
    rcases Nat.eq_zero_or_pos q with h | h
    · exact h
    · rw [h4 h] at hp; cases hp
  subst hq
  refine ⟨by omega, fun i hi => ?_, fun i h5 h6 => by omega, fun h => by omega⟩
  by_cases e : i = p
  · rw [e]; exact hp
  · exact h2 i (by omega)
theorem AfS.next {N p q : Nat} (h : AfS N p q) (hp : N.testBit p = true) (hp1 : N.testBit (p + 1) = true) : AfS N (p + 1) (q + 1) := by
  obtain ⟨h1, h2, h3, h4⟩ := h
  refine ⟨by omega, fun i hi => h2 i (by omega), fun i h5 h6 => ?_, fun _ => hp1⟩
  by_cases e : i = p
  · rw [e]; exact hp
  · exact h3 i (by omega) (by omega)
theorem first_of {N f : Nat} (hlt : f < 256) (hb : N.testBit f = true) (hlow : ∀ i, i < f → N.testBit i = false) : nextO N (-1) = some f :=
  next_eq_some (by omega) hlt hb fun i _ hi => hlow i hi
theorem AfS.found {N p q : Nat} (hN : N < 2 ^ 256) (h : AfS N p q) (hp : N.testBit p = true) (hp1 : N.testBit (p + 1) = false) (hlt : p < 255) : afterO N = some (ins (clr N (p - q) (q + 1)) 0 q ||| 2 ^ (p + 1)) := by
  obtain ⟨h1, h2, h3, h4⟩ := h
  have hf : N.testBit (p - q) = true := by
    by_cases e : q = 0
    · rw [e]; exact hp
    · exact h3 _ (Nat.le_refl _) (by omega)
  have hn := first_of (by omega) hf h2
  have hr : runE N 256 (p - q) = p := runE_eq (by omega) (by omega) (fun i h5 h6 => by
    by_cases e : i = p
    · rw [e]; exact hp
    · exact h3 i (by omega) (by omega)) hp1
  unfold afterO
  rw [hn]
  simp only [hr]
  rw [if_neg (by omega), show p - (p - q) = q by omega]
theorem AfS.none {N q : Nat} (hN : N < 2 ^ 256) (h : AfS N 255 q) : afterO N = none := by
  obtain ⟨h1, h2, h3, h4⟩ := h
  have hb256 : N.testBit 256 = false := testBit_big hN (by omega)
  unfold afterO
  cases hb : N.testBit 255 with
  | true =>
    have hf : N.testBit (255 - q) = true := by
      by_cases e : q = 0
      · rw [e]; exact hb
      · exact h3 _ (Nat.le_refl _) (by omega)
    rw [first_of (by omega) hf h2]
    have hr : runE N 256 (255 - q) = 255 := runE_eq (by omega) (by omega) (fun i h5 h6 => by
      by_cases e : i = 255
      · rw [e]; exact hb
      · exact h3 i (by omega) (by omega)) hb256
    simp only [hr, if_true]
  | false =>
    have hq : q = 0 := by
      rcases Nat.eq_zero_or_pos q with h | h
      · exact h
      · rw [h4 h] at hb; cases hb
    subst hq
    cases hn : nextO N (-1) with
    | none => rfl
    | some f =>
      obtain ⟨_, h6, h7, _⟩ := of_next_some hn
      by_cases e : f = 255
      · rw [e, hb] at h7; cases h7
      · rw [h2 f (by omega)] at h7; cases h7
/-- The numbers of N above p. -/
theorem above_eq {N p q : Nat} (hN : N < 2 ^ 256) (h : AfS N p q) (hlt : p < 255) : lowB (fun i => decide (p < i) && N.testBit i) 256 = clr N (p - q) (q + 1) :=
  lowB_eq (clr_lt hN _) fun i hi => by
    obtain ⟨h1, h2, h3, h4⟩ := h
    rw [testBit_clr, show p - q + (q + 1) = p + 1 by omega]
    by_cases e : p < i
    · simp [e, show ¬ i < p + 1 by omega]
    · by_cases e2 : p - q ≤ i
      · simp [e, e2, show i < p + 1 by omega]
      · simp [e, e2, h2 i (by omega)]
theorem above_zero {N p : Nat} : ∀ k, k ≤ p + 1 → lowB (fun i => decide (p < i) && N.testBit i) k = 0
  | 0, _ => rfl
  | k + 1, h => by rw [lowB_no (by simp; omega)]; exact above_zero k (by omega)
theorem ins_or (C M : Nat) : ∀ q, ins (C ||| M) 0 q = ins C 0 q ||| M
  | 0 => rfl
  | q + 1 => by
    simp only [ins]
    rw [ins_or C M q, Nat.or_assoc, Nat.or_comm M, ← Nat.or_assoc]
/-- The set, the result's slot, the set in the making. -/
def AfW (N X b6 : Nat) (w wr : World) : Prop := Blk wr w.heap.size (setA N) 25 ∧ Blk wr (w.heap.size + 1) (setA 0) 25 ∧ Blk wr b6 (setA X) 25 ∧ Below w.heap.size w wr ∧ w.heap.size + 1 < b6
theorem AfW.below {N X b6 : Nat} {w wr w' : World} (h : AfW N X b6 w wr) (hb : Below wr.heap.size wr w') : AfW N X b6 w w' :=
  ⟨h.1.below hb h.1.lt, h.2.1.below hb h.2.1.lt, h.2.2.1.below hb h.2.2.1.lt, h.2.2.2.1.trans (hb.mono h.2.2.2.1.size), h.2.2.2.2⟩
theorem AfW.put {N X b6 : Nat} {w wr : World} (h : AfW N X b6 w wr) (Y : Nat) : AfW N Y b6 w ((((wr.setCell ⟨b6, 0, none⟩ (.int .u64 ↑(word Y 0))).setCell ⟨b6, 1, none⟩ (.int .u64 ↑(word Y 1))).setCell ⟨b6, 2, none⟩ (.int .u64 ↑(word Y 2))).setCell ⟨b6, 3, none⟩ (.int .u64 ↑(word Y 3))) :=
  ⟨h.1.other4 (by have := h.2.2.2.2; omega) _ _ _ _, h.2.1.other4 (by have := h.2.2.2.2; omega) _ _ _ _, h.2.2.1.putS Y, below_put4 h.2.2.2.1 (by have := h.2.2.2.2; omega) _ _ _ _, h.2.2.2.2⟩
set_option maxRecDepth 100000 in
set_option maxHeartbeats 2000000 in
theorem rAfter_any (N : Nat) (w : World) (hN : N < 2 ^ 256) :
    Calls Tryd.prog 52 #[setV N] w fun e w' => e = .returned (afterV (afterO N)) ∧ Below w.heap.size w w' := by
  have HNL := Lib.hid hN
  clear hN
  go_enter Tryd.func52, Tryd.ntmps52
  simp only [setV]
  go_wp2_with fail
  go_loopw [4, 5] (fun tq tp wr => ∃ q p : Nat, p ≤ 255 ∧ tq = .int .i64 q ∧ tp = .int .i64 p ∧ Hid (AfS N p q) ∧ Blk wr w.heap.size (setA N) 25 ∧ Blk wr (w.heap.size + 1) (setA 0) 25 ∧ Below w.heap.size w wr) (fun _ tp _ => 255 - (intOf tp).toNat)
  case atStart => exact ⟨0, 0, by omega, rfl, rfl, AfS.start N, (Blk.newW _ _ _).alloc _, Blk.newS1 _ _ _, below_new2 _ _ _⟩
  case round =>
    obtain ⟨q, p, hp, rfl, rfl, HA, hB1, hB2, hW⟩ := hrel
    have K1 := Lib.hid hB1
    have K2 := Lib.hid hB2
    have KW := Lib.hid hW
    clear hB1 hB2 hW
    by_cases hlt : p < 255
    · obtain ⟨a0, a1, a2, a3, af⟩ := K1.out.set4
      have t1 : decide (p < 255) = true := decide_eq_true hlt
      cases hb : N.testBit p with
      | false =>
        have HH : Hid (∀ w, Calls Tryd.prog 28 #[setV N, .int .i64 p] w fun e w' => e = .returned (.bool false) ∧ Below w.heap.size w w') := fun w => by have := rhas_in N p w (by omega); rwa [hb] at this
        have HS : Hid (AfS N (p + 1) q) := HA.out.skip hb
        clear hb HA
        go_wp2_with (first | (go_at_call 28; refine (HH.out _).mono ?_; rintro e wn ⟨rfl, hb⟩; replace K1 := Lib.hid (K1.out.below hb K1.out.lt); replace K2 := Lib.hid (K2.out.below hb K2.out.lt); replace KW := Lib.hid (KW.out.trans (hb.mono KW.out.size)); clear hb a0 a1 a2 a3 af HH))
        exact ⟨⟨q, p + 1, by omega, rfl, by simp, HS, K1.out, K2.out, KW.out⟩, by simp [intOf]; omega⟩
      | true =>
        have HH : Hid (∀ w, Calls Tryd.prog 28 #[setV N, .int .i64 p] w fun e w' => e = .returned (.bool true) ∧ Below w.heap.size w w') := fun w => by have := rhas_in N p w (by omega); rwa [hb] at this
        cases hb1 : N.testBit (p + 1) with
        | true =>
          have HH1 : Hid (∀ w, Calls Tryd.prog 28 #[setV N, .int .i64 ((p : Int) + 1)] w fun e w' => e = .returned (.bool true) ∧ Below w.heap.size w w') := fun w => by have := rhas_in N (p + 1) w (by omega); rwa [hb1] at this
          have HS : Hid (AfS N (p + 1) (q + 1)) := HA.out.next hb hb1
          have hq : q ≤ 255 := Nat.le_trans HA.out.1 (by omega)
          clear hb hb1 HA
          go_upto_region 6 with (first | (go_at_call 28; refine (HH.out _).mono ?_; rintro e wn ⟨rfl, hb⟩; replace K1 := Lib.hid (K1.out.below hb K1.out.lt); replace K2 := Lib.hid (K2.out.below hb K2.out.lt); replace KW := Lib.hid (KW.out.trans (hb.mono KW.out.size)); clear hb a0 a1 a2 a3 af HH; obtain ⟨a0, a1, a2, a3, af⟩ := K1.out.set4))
          go_wp2_with (first | (go_at_call 28; refine (HH1.out _).mono ?_; rintro e wn ⟨rfl, hb⟩; replace K1 := Lib.hid (K1.out.below hb K1.out.lt); replace K2 := Lib.hid (K2.out.below hb K2.out.lt); replace KW := Lib.hid (KW.out.trans (hb.mono KW.out.size)); clear hb a0 a1 a2 a3 af HH1))
          exact ⟨⟨q + 1, p + 1, by omega, by simp, by simp, HS, K1.out, K2.out, KW.out⟩, by simp [intOf]; omega⟩
        | false =>
          have HH1 : Hid (∀ w, Calls Tryd.prog 28 #[setV N, .int .i64 ((p : Int) + 1)] w fun e w' => e = .returned (.bool false) ∧ Below w.heap.size w w') := fun w => by have := rhas_in N (p + 1) w (by omega); rwa [hb1] at this
          obtain ⟨C, hC⟩ : ∃ C, C = clr N (p - q) (q + 1) := ⟨_, rfl⟩
          have HR : Hid (afterO N = some (ins (C ||| 2 ^ (p + 1)) 0 q)) := by rw [Hid, ins_or, hC]; exact HA.out.found HNL.out hb hb1 hlt
          have HC : Hid (lowB (fun i => decide (p < i) && N.testBit i) 256 = C) := by rw [Hid, hC]; exact above_eq HNL.out HA.out hlt
          have hq : q ≤ p := HA.out.1
          clear hb hb1 HA hC
          go_upto_region 6 with (first | (go_at_call 28; refine (HH.out _).mono ?_; rintro e wn ⟨rfl, hb⟩; replace K1 := Lib.hid (K1.out.below hb K1.out.lt); replace K2 := Lib.hid (K2.out.below hb K2.out.lt); replace KW := Lib.hid (KW.out.trans (hb.mono KW.out.size)); clear hb a0 a1 a2 a3 af HH; obtain ⟨a0, a1, a2, a3, af⟩ := K1.out.set4))
          go_wp2_with (first | (go_at_call 28; refine (HH1.out _).mono ?_; rintro e wn ⟨rfl, hb⟩; replace K1 := Lib.hid (K1.out.below hb K1.out.lt); replace K2 := Lib.hid (K2.out.below hb K2.out.lt); replace KW := Lib.hid (KW.out.trans (hb.mono KW.out.size)); clear hb a0 a1 a2 a3 af HH1))
          refine named (fun V => AfW N 0 wn.heap.size w V) ⟨K1.out.alloc _, K2.out.alloc _, Blk.newS _ _, KW.out.alloc KW.out.size _, K2.out.lt⟩ ?_
          clear K1 K2 KW
          rintro V HV
          generalize wn.heap.size = b6 at HV ⊢
          go_loopw [7] (fun tk wr => ∃ k : Nat, p + 1 ≤ k ∧ k ≤ 256 ∧ tk = .int .i64 k ∧ AfW N (lowB (fun i => decide (p < i) && N.testBit i) k) b6 w wr) (fun tk _ => 256 - (intOf tk).toNat)
          case atStart => exact ⟨p + 1, by omega, by omega, by simp, by rw [above_zero _ (Nat.le_refl _)]; exact HV⟩
          case round =>
            obtain ⟨k, hk1, hk2, rfl, hX⟩ := hrel
            by_cases hk : k < 256
            · have t3 : decide (k ≤ 255) = true := decide_eq_true (by omega)
              obtain ⟨X, hXe⟩ : ∃ X, X = lowB (fun i => decide (p < i) && N.testBit i) k := ⟨_, rfl⟩
              rw [← hXe] at hX
              have G := Lib.hid hX
              clear hX HV t1
              obtain ⟨a0, a1, a2, a3, af⟩ := G.out.1.set4
              cases hbk : N.testBit k with
              | true =>
                have HB : Hid (∀ w, Calls Tryd.prog 28 #[setV N, .int .i64 k] w fun e w' => e = .returned (.bool true) ∧ Below w.heap.size w w') := fun w => by have := rhas_in N k w (by omega); rwa [hbk] at this
                have HY : Hid (lowB (fun i => decide (p < i) && N.testBit i) (k + 1) = X ||| 2 ^ k) := by rw [hXe]; exact lowB_yes (by simp [hbk]; omega)
                have HWi : Hid (∀ w, Calls Tryd.prog 66 #[setV X, .int .i64 k] w fun e w' => e = .returned (setV (X ||| 2 ^ k)) ∧ Below w.heap.size w w') := fun w => rwith_in X k w (by omega)
                obtain ⟨Y, hY⟩ : ∃ Y, Y = X ||| 2 ^ k := ⟨_, rfl⟩
                rw [← hY] at HY HWi
                clear hbk hXe hY
                go_wp2_with (first | (go_at_call 28; refine (HB.out _).mono ?_; rintro e wm ⟨rfl, hb⟩; replace G := Lib.hid (G.out.below hb); clear hb a0 a1 a2 a3 af HB; obtain ⟨d0, d1, d2, d3, df⟩ := G.out.2.2.1.set4) | (go_at_call 66; refine (HWi.out _).mono ?_; rintro e wm ⟨rfl, hb⟩; simp only [setV]; replace G := Lib.hid (G.out.below hb); clear hb d0 d1 d2 d3 df HWi; obtain ⟨d0, d1, d2, d3, df⟩ := G.out.2.2.1.set4))
                exact ⟨⟨k + 1, by omega, by omega, by simp, by rw [HY.out]; exact G.out.put Y⟩, by simp [intOf]; omega⟩
              | false =>
                have HB : Hid (∀ w, Calls Tryd.prog 28 #[setV N, .int .i64 k] w fun e w' => e = .returned (.bool false) ∧ Below w.heap.size w w') := fun w => by have := rhas_in N k w (by omega); rwa [hbk] at this
                have HY : Hid (lowB (fun i => decide (p < i) && N.testBit i) (k + 1) = X) := by rw [hXe]; exact lowB_no (by simp [hbk])
                clear hbk hXe
                go_wp2_with (first | (go_at_call 28; refine (HB.out _).mono ?_; rintro e wm ⟨rfl, hb⟩; replace G := Lib.hid (G.out.below hb); clear hb a0 a1 a2 a3 af HB))
                exact ⟨⟨k + 1, by omega, by omega, by simp, by rw [HY.out]; exact G.out⟩, by simp [intOf]; omega⟩
            · obtain rfl : k = 256 := by omega
              rw [HC.out] at hX
              have G := Lib.hid hX
              have t3 : decide ((256 : Nat) ≤ 255) = false := rfl
              clear hX HV t1
              obtain ⟨d0, d1, d2, d3, df⟩ := G.out.2.2.1.set4
              have HWi : Hid (∀ w, Calls Tryd.prog 66 #[setV C, .int .i64 ((p : Int) + 1)] w fun e w' => e = .returned (setV (C ||| 2 ^ (p + 1))) ∧ Below w.heap.size w w') := fun w => rwith_in C (p + 1) w (by omega)
              obtain ⟨D, hD⟩ : ∃ D, D = C ||| 2 ^ (p + 1) := ⟨_, rfl⟩
              rw [← hD] at HWi HR
              clear hD HC
              go_wp2_with (first | (go_at_call 66; refine (HWi.out _).mono ?_; rintro e wm ⟨rfl, hb⟩; simp only [setV]; replace G := Lib.hid (G.out.below hb); clear hb d0 d1 d2 d3 df HWi; obtain ⟨d0, d1, d2, d3, df⟩ := G.out.2.2.1.set4))
              go_loopw [8] (fun tk wr => ∃ k : Nat, k ≤ q ∧ tk = .int .i64 k ∧ AfW N (ins D 0 k) b6 w wr) (fun tk _ => q - (intOf tk).toNat)
              case atStart => exact ⟨0, by omega, rfl, G.out.put D⟩
              case round =>
                obtain ⟨k, hk1, rfl, hX⟩ := hrel
                have hq255 : q ≤ 255 := by omega
                by_cases hk : k < q
                · have t4 : decide (k < q) = true := decide_eq_true hk
                  obtain ⟨X, hXe⟩ : ∃ X, X = ins D 0 k := ⟨_, rfl⟩
                  rw [← hXe] at hX
                  have HY : Hid (ins D 0 (k + 1) = X ||| 2 ^ k) := by rw [Hid, hXe]; simp only [ins, Nat.zero_add]
                  have HWi : Hid (∀ w, Calls Tryd.prog 66 #[setV X, .int .i64 k] w fun e w' => e = .returned (setV (X ||| 2 ^ k)) ∧ Below w.heap.size w w') := fun w => rwith_in X k w (by omega)
                  obtain ⟨Y, hY⟩ : ∃ Y, Y = X ||| 2 ^ k := ⟨_, rfl⟩
                  rw [← hY] at HY HWi
                  have G2 := Lib.hid hX
                  clear hX hXe hY G d0 d1 d2 d3 df
                  obtain ⟨d0, d1, d2, d3, df⟩ := G2.out.2.2.1.set4
                  go_wp2_with (first | (go_at_call 66; refine (HWi.out _).mono ?_; rintro e wm2 ⟨rfl, hb⟩; simp only [setV]; replace G2 := Lib.hid (G2.out.below hb); clear hb d0 d1 d2 d3 df HWi; obtain ⟨d0, d1, d2, d3, df⟩ := G2.out.2.2.1.set4))
                  exact ⟨⟨k + 1, by omega, by simp, by rw [HY.out]; exact G2.out.put Y⟩, by simp [intOf]; omega⟩
                · obtain rfl : k = q := by omega
                  have t4 : decide (k < k) = false := decide_eq_false (by omega)
                  obtain ⟨X, hXe⟩ : ∃ X, X = ins D 0 k := ⟨_, rfl⟩
                  rw [← hXe] at hX HR
                  have G2 := Lib.hid hX
                  clear hX hXe G d0 d1 d2 d3 df
                  obtain ⟨d0, d1, d2, d3, df⟩ := G2.out.2.2.1.set4
                  obtain ⟨g0, g1, g2, g3, gf⟩ := G2.out.2.1.set4
                  go_wp2_with fail
                  refine named (fun W => Blk W (w.heap.size + 1) (setA X) 25 ∧ Below w.heap.size w W) ⟨G2.out.2.1.putS X, below_put4 G2.out.2.2.2.1 (by omega) _ _ _ _⟩ ?_
                  rintro W ⟨hB, hbW⟩
                  obtain ⟨q0, q1, q2, q3, _⟩ := hB.set4
                  exact bodyPost_ret (v := afterV (some X)) (by simp [results, Tryd.results52, go_sem, q0, q1, q2, q3, setV, afterV]) rfl ⟨by rw [HR.out], hbW⟩
    · have hp255 : p = 255 := by omega
      have HR : Hid (afterO N = none) := AfS.none HNL.out (hp255 ▸ HA.out)
      have t1 : decide (p < 255) = false := decide_eq_false (by omega)
      obtain ⟨d0, d1, d2, d3, df⟩ := K2.out.set4
      clear hp255
      go_wp2_with fail
      refine named (fun W => Blk W (w.heap.size + 1) (setA 0) 25 ∧ Below w.heap.size w W) ⟨K2.out.putZ, below_put4 KW.out (by omega) _ _ _ _⟩ ?_
      rintro W ⟨hB, hbW⟩
      obtain ⟨q0, q1, q2, q3, _⟩ := hB.set4
      exact bodyPost_ret (v := afterV .none) (by simp [results, Tryd.results52, go_sem, q0, q1, q2, q3, setV, afterV]) rfl ⟨by rw [HR.out], hbW⟩
end Go.Proofs.YtfeknabddcohoaaDoor
namespace Go.Proofs.YtfeknabddcohoaaDoor
set_option linter.unusedSimpArgs false
set_option linter.unusedVariables false
open Go Go.RowKit
attribute [local go_sem] equalIn_words setV
set_option maxRecDepth 100000 in
set_option maxHeartbeats 1000000 in
theorem bitsAfter_any (hsane : SaneOk) (N : Nat) (w : World) (hg : Gl w) (hN : N < 2 ^ 256) :
    Calls Tryd.prog 6 #[setV N] w fun e w' => e = .returned (.bool true) ∧ Below w.heap.size w w' := by
  have HS : Hid SaneOk := hsane
  have HG := Lib.hid hg
  obtain ⟨M, hM⟩ : ∃ M, M = (afterO N).getD 0 := ⟨_, rfl⟩
  obtain ⟨z, hz⟩ : ∃ z, z = (afterO N).isSome := ⟨_, rfl⟩
  have hv : afterV (afterO N) = .tuple #[setV M, .bool z] := by rw [hM, hz]; cases afterO N <;> rfl
  have HA : Hid (∀ w, Gl w → Calls Tryd.prog 51 #[setV N] w fun e w' => e = .returned (.tuple #[setV M, .bool z]) ∧ Below w.heap.size w w') := fun w hg => by rw [← hv]; exact after_any N w hg hN
  have HR : Hid (∀ w, Calls Tryd.prog 52 #[setV N] w fun e w' => e = .returned (.tuple #[setV M, .bool z]) ∧ Below w.heap.size w w') := fun w => by rw [← hv]; exact rAfter_any N w hN
  clear hv hM hz hg hsane hN
  go_enter Tryd.func6, Tryd.ntmps6
  simp only [setV]
  go_upto_region 3 with (first | (go_at_call 16; refine (HS.out _ (HG.out.below (below_new1 _ _))).mono ?_; rintro e w2 ⟨rfl, hb⟩))
  refine named (fun V => Gl V ∧ Below w.heap.size w V ∧ Blk V w.heap.size (setA N) 25) ⟨(HG.out.below (below_new1 _ _)).below hb, (below_new1 _ _).trans (hb.mono (by simp)), (Blk.newW _ _ _).below hb (by simp)⟩ ?_
  clear hb HS HG
  rintro W0 ⟨FG, FB, K1⟩
  replace FG := Lib.hid FG; replace FB := Lib.hid FB; replace K1 := Lib.hid K1
  obtain ⟨a0, a1, a2, a3, af⟩ := K1.out.set4
  go_upto_region 4 with (first | (go_at_call 51; refine (HA.out _ FG.out).mono ?_; rintro e w2 ⟨rfl, hb⟩; simp only [setV]))
  refine named (fun V => Below w.heap.size w V ∧ Blk V w.heap.size (setA N) 25 ∧ Blk V w2.heap.size (setA M) 25) ⟨(FB.out.trans (hb.mono FB.out.size)).alloc (FB.out.trans (hb.mono FB.out.size)).size _, (K1.out.below hb K1.out.lt).alloc _, Blk.newW _ _ _⟩ ?_
  clear hb FG FB K1 a0 a1 a2 a3 af HA
  rintro W1 ⟨FB, K1, K3⟩
  replace FB := Lib.hid FB; replace K1 := Lib.hid K1; replace K3 := Lib.hid K3
  generalize w2.heap.size = b3 at K3 ⊢
  obtain ⟨a0, a1, a2, a3, af⟩ := K1.out.set4
  go_upto_region 5 with (first | (go_at_call 52; refine (HR.out _).mono ?_; rintro e w3 ⟨rfl, hb⟩; simp only [setV]))
  refine named (fun V => Below w.heap.size w V ∧ Blk V b3 (setA M) 25 ∧ Blk V w3.heap.size (setA M) 25) ⟨(FB.out.trans (hb.mono FB.out.size)).alloc (FB.out.trans (hb.mono FB.out.size)).size _, (K3.out.below hb K3.out.lt).alloc _, Blk.newW _ _ _⟩ ?_
  clear hb FB K1 K3 a0 a1 a2 a3 af HR
  rintro W2 ⟨FB, K3, K5⟩
  replace FB := Lib.hid FB
  generalize w3.heap.size = b5 at K5 ⊢
  obtain ⟨a0, a1, a2, a3, af⟩ := K3.set4
  obtain ⟨d0, d1, d2, d3, df⟩ := K5.set4
  have z1 : eqS M M = true := eqS_refl M
  clear K3 K5
  go_wp2_with fail
  go_ret
  exact ⟨by cases z <;> simp, FB.out⟩
end Go.Proofs.YtfeknabddcohoaaDoor
namespace Go.Proofs.YtfeknabddcohoaaDoor
set_option linter.unusedSimpArgs false
set_option linter.unusedVariables false
open Go Go.RowKit Go.ChangeShapes Go.WideShapes Go.ChangeAt

set_option maxRecDepth 100000 in
theorem bitsAfter_lifted (os : Os) (started : os.Started) (H : Type) (enc : TypeId × Value → H) :
    ReturnsInHanded {} Tryd.checked os 6 .any (fun w args => (Rows.bitsAfterSpec.pre enc Tryd.prog Tryd.f6 [] false w args ∧ laidMetH Tryd.prog laidS w) ∧ sizedMet enc Tryd.prog Tryd.f6 (OpenSpec.ofChange Rows.bitsAfterSpec) false w args)
      (Rows.bitsAfterSpec.post enc Tryd.prog Tryd.f6 false true false false) := by
  refine lifted_of started (by kernel_rfl) Tryd.func6
    (ChangeSpec.witness_shaped (enc := enc) (C := Tryd.checked) (os := os) (X := fun w _ => laidMetH Tryd.prog laidS w) false (World.laidAll Tryd.prog os laidS) #[.agg #[.int .u64 0, .int .u64 0, .int .u64 0, .int .u64 0]] 8 (World.laidAll_os _ _ _)
      (World.shaped_of_ZipB (by kernel_rfl) (by kernel_rfl)) (by kernel_rfl) (by kernel_rfl) (by kernel_rfl) (laid_met os _)) ?_
  intro W base args ds gs before hg hval0 hW _
  have hval : ∀ (j : Nat) t v, Tryd.f6.params[j]? = some t → args[j]? = some v → Value.okWide Tryd.prog W .any base t v := hval0
  have hW' := hW
  obtain ⟨p, q, hA0, hV, rfl, _, _⟩ := hW
  have hA : DataW.TrodAll enc Tryd.prog W 0 (fun _ => true) true Tryd.f6.params.toList args.toList ds p := hA0
  rw [Tryd.params6] at hA hval
  obtain ⟨v0, d0, rfl, rfl, h0⟩ := trodAll_one hA
  obtain ⟨rfl, rfl⟩ := trodVars_none hV
  obtain ⟨x0, b0, rfl, rfl, rfl⟩ := open_set (hval 0 _ v0 rfl rfl) h0
  simp only [List.append_nil] at hW'
  refine (bitsAfter_any sane_any x0 W hg b0).mono fun e W' ⟨he, hb⟩ => ?_
  subst he
  exact ⟨_, rfl, _, _, _, [], [], [], hW', trodAll_mk1 (shut_bool Tryd.underlying4 _), trodAll_mk1 (shut_set x0), rfl, hb.frame _, fun h => by cases h⟩
theorem bitsAfter_holds : Rows.BitsAfterSaid :=
  OpenClaim.holds_of_wide 6 Tryd.f6 rfl rfl rfl rfl rfl rfl rfl ⟨rfl, rfl, rfl, rfl, rfl⟩ rfl rfl rfl rfl rfl (by kernel_rfl) Tryd.func6 (by kernel_rfl)
    (of_decide_eq_true (by kernel_rfl)) (by unfold Func.isWrapper; first | (rw [if_pos (by decide +kernel)]; kernel_rfl) | (rw [if_neg (by decide +kernel)]; exact ⟨rfl, rfl⟩))
    (fun os started H enc _ => bitsAfter_lifted os started H enc)
theorem bitsAfter_card : Rows.BitsAfterCardSaid :=
  Claim7.holds_tied_plain_at .later [] [.data, .data, .data, .sentinel, .sentinel] true Rows.bitsAfterCard.stood.harness true bitsAfter_holds (fun _ h => by cases h) (by kernel_rfl) (fun _ h => by cases h) bitsAfter_row_tie rfl ⟨rfl, rfl⟩ (by kernel_rfl) rfl
    (fun f fn hf hfn => by
      obtain rfl : f = 6 := Option.some.inj ((show Tryd.prog.funcNamed "bonehouse/bonehouselaw01.BitsAfter" = some 6 by kernel_rfl).symm.trans hf) |>.symm
      obtain rfl : fn = Tryd.f6 := (Option.some.inj (Tryd.func6.symm.trans hfn)).symm
      exact ⟨by kernel_rfl, fun j t ht => by
        rw [Tryd.params6] at ht
        have hm : t ∈ [25] := by simpa using Array.mem_of_getElem? ht
        have hall : ([25].all fun u => !Tryd.prog.wantsStandIn u) = true := by kernel_rfl
        exact (show Tryd.prog.wantsStandIn t = false by simpa using List.all_eq_true.1 hall t hm)⟩)
    (by kernel_rfl)
#print axioms bitsAfter_card
end Go.Proofs.YtfeknabddcohoaaDoor
