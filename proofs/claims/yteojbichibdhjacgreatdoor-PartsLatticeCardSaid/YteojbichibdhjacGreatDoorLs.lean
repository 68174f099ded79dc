/- Layer 6: the law PartsLattice. -/
import Derived.Test.YteojbichibdhjacGreatDoorLq
namespace Go.Proofs.YteojbichibdhjacGreatDoor
set_option linter.unusedSimpArgs false
set_option linter.unusedVariables false
open Go Go.RowKit

set_option maxRecDepth 100000 in
set_option maxHeartbeats 4000000 in
theorem partsLattice_any (a b : Option Addr) (ca cb : Nat) (la lb : List Int) (w : World) (hla : la.length ≤ 9223372036854775807) (hlb : lb.length ≤ 9223372036854775807) (hs : IntsAt w a la) (ht : IntsAt w b lb)
    (hsane : Calls Tryz.prog 4 #[] w fun e w' => e = .returned (.bool true) ∧ Below w.heap.size w w') :
    Calls Tryz.prog 3 #[.slice a la.length ca, .slice b lb.length cb] w fun e w' => e = .returned (.bool true) ∧ Below w.heap.size w w' := by
  have HSA : Hid (∀ W, w = W → Calls Tryz.prog 4 #[] W fun e w' => e = .returned (.bool true) ∧ Below W.heap.size W w') := fun W h => by subst h; exact hsane
  by_cases hbig : la.length ≤ 100 ∧ lb.length ≤ 100
  case neg =>
    obtain ⟨m, hm⟩ : ∃ m, m = la.length := ⟨_, rfl⟩
    obtain ⟨n, hn⟩ : ∃ n, n = lb.length := ⟨_, rfl⟩
    rw [← hm, ← hn] at hbig
    rw [← hm] at hla ⊢
    rw [← hn] at hlb ⊢
    clear hs ht hsane hm hn
    by_cases h1 : m ≤ 100
    · have t1 : decide (100 < (m : Int)) = false := decide_eq_false (by omega)
      have t2 : decide (100 < (n : Int)) = true := decide_eq_true (by omega)
      go_enter Tryz.func3, Tryz.ntmps3
      go_wp2_with (first | (go_at_call 4; refine (HSA.out _ rfl).mono ?_; rintro e w2 ⟨rfl, hb⟩))
      go_ret
      exact ⟨rfl, hb⟩
    · have t1 : decide (100 < (m : Int)) = true := decide_eq_true (by omega)
      go_enter Tryz.func3, Tryz.ntmps3
      go_wp2_with (first | (go_at_call 4; refine (HSA.out _ rfl).mono ?_; rintro e w2 ⟨rfl, hb⟩))
      go_ret
      exact ⟨rfl, hb⟩
  case pos =>
    obtain ⟨h1, h2⟩ := hbig
    have k1 : la.length ≤ 1000 := by omega
    have k2 : lb.length ≤ 1000 := by omega
    have HC1 : Hid (∀ W, Below w.heap.size w W → Calls Tryz.prog 5 #[.slice a la.length ca, .slice b lb.length cb] W fun e w' => e = .returned (.tuple #[.bool (finR la lb), .int .i64 (errB la lb)]) ∧ Below W.heap.size W w') := fun W hb => finer_any a b ca cb la lb W k1 k2 (hs.below hb) (ht.below hb)
    have HC2 : Hid (∀ W, Below w.heap.size w W → Calls Tryz.prog 6 #[.slice a la.length ca, .slice b lb.length cb] W fun e w' => e = .returned (.tuple #[.bool (finR la lb), .int .i64 (errB la lb)]) ∧ Below W.heap.size W w') := fun W hb => rfiner_any a b ca cb la lb W k1 k2 (hs.below hb) (ht.below hb)
    have HC3 : Hid (∀ W, Below w.heap.size w W → Calls Tryz.prog 7 #[.slice a la.length ca, .slice b lb.length cb] W fun e w' => ∃ r c, e = .returned (.tuple #[.slice r (meetR la lb).length c, .int .i64 (errB la lb)]) ∧ IntsAt w' r (meetR la lb) ∧ Below W.heap.size W w') := fun W hb => meetM_any a b ca cb la lb W k1 k2 (hs.below hb) (ht.below hb)
    have HC4 : Hid (∀ W, Below w.heap.size w W → Calls Tryz.prog 8 #[.slice a la.length ca, .slice b lb.length cb] W fun e w' => ∃ r c, e = .returned (.tuple #[.slice r (meetR la lb).length c, .int .i64 (errB la lb)]) ∧ IntsAt w' r (meetR la lb) ∧ Below W.heap.size W w') := fun W hb => rmeet_any a b ca cb la lb W k1 k2 (hs.below hb) (ht.below hb)
    have HC5 : Hid (∀ W, Below w.heap.size w W → Calls Tryz.prog 9 #[.slice a la.length ca, .slice b lb.length cb] W fun e w' => ∃ r c, e = .returned (.tuple #[.slice r (joinR la lb).length c, .int .i64 (errB la lb)]) ∧ IntsAt w' r (joinR la lb) ∧ Below W.heap.size W w') := fun W hb => join_any a b ca cb la lb W k1 k2 (hs.below hb) (ht.below hb)
    have HC6 : Hid (∀ W, Below w.heap.size w W → Calls Tryz.prog 10 #[.slice a la.length ca, .slice b lb.length cb] W fun e w' => ∃ r c, e = .returned (.tuple #[.slice r (joinR la lb).length c, .int .i64 (errB la lb)]) ∧ IntsAt w' r (joinR la lb) ∧ Below W.heap.size W w') := fun W hb => rjoin_any a b ca cb la lb W k1 k2 (hs.below hb) (ht.below hb)
    have hML : (meetR la lb).length ≤ 100000 := by
      unfold meetR
      split
      · rw [nrm_full]; unfold codeL; rw [List.length_zipWith]; omega
      · simp
    have hJL : (joinR la lb).length ≤ 100000 := by
      unfold joinR
      split
      · rw [nrm_full, grpL_len]; omega
      · simp
    generalize finR la lb = F at *
    generalize errB la lb = E at *
    generalize meetR la lb = M at *
    generalize joinR la lb = J at *
    have HEM : Hid (∀ W r1 c1 r2 c2, IntsAt W r1 M → IntsAt W r2 M → Calls Tryz.prog 11 #[.slice r1 M.length c1, .slice r2 M.length c2] W fun e w' => e = .returned (.bool true) ∧ Below W.heap.size W w') := fun W r1 c1 r2 c2 h1 h2 => by
      have := equal_any r1 r2 c1 c2 M M W hML hML h1 h2
      simpa using this
    have HEJ : Hid (∀ W r1 c1 r2 c2, IntsAt W r1 J → IntsAt W r2 J → Calls Tryz.prog 11 #[.slice r1 J.length c1, .slice r2 J.length c2] W fun e w' => e = .returned (.bool true) ∧ Below W.heap.size W w') := fun W r1 c1 r2 c2 h1 h2 => by
      have := equal_any r1 r2 c1 c2 J J W hJL hJL h1 h2
      simpa using this
    obtain ⟨ml, hml⟩ : ∃ x, x = M.length := ⟨_, rfl⟩
    obtain ⟨jl, hjl⟩ : ∃ x, x = J.length := ⟨_, rfl⟩
    rw [← hml] at HC3 HC4 HEM
    rw [← hjl] at HC5 HC6 HEJ
    obtain ⟨m, hm⟩ : ∃ m, m = la.length := ⟨_, rfl⟩
    obtain ⟨n, hn⟩ : ∃ n, n = lb.length := ⟨_, rfl⟩
    rw [← hm, ← hn] at HC1 HC2 HC3 HC4 HC5 HC6 ⊢
    rw [← hm] at h1
    rw [← hn] at h2
    have t1 : decide (100 < (m : Int)) = false := decide_eq_false (by omega)
    have t2 : decide (100 < (n : Int)) = false := decide_eq_false (by omega)
    have HB : Hid (Below w.heap.size w w) := Below.refl _ _
    clear hs ht hsane hm hn hml hjl hML hJL k1 k2 hla hlb
    go_enter Tryz.func3, Tryz.ntmps3
    go_wp2_with (first | (go_at_call 4; refine (HSA.out _ rfl).mono ?_; rintro e w9 ⟨rfl, hb⟩; have HB' := Lib.hid (HB.out.trans (hb.mono HB.out.size)); clear hb HB; have HB := HB'; clear HB'; clear HSA) | (go_at_call 5; refine (HC1.out _ HB.out).mono ?_; rintro e w9 ⟨rfl, hb⟩; have HB' := Lib.hid (HB.out.trans (hb.mono HB.out.size)); clear hb HB; have HB := HB'; clear HB'; ) | (go_at_call 6; refine (HC2.out _ HB.out).mono ?_; rintro e w9 ⟨rfl, hb⟩; have HB' := Lib.hid (HB.out.trans (hb.mono HB.out.size)); clear hb HB; have HB := HB'; clear HB'; ) | (go_at_call 7; refine (HC3.out _ HB.out).mono ?_; rintro e w9 ⟨r1, c1, rfl, hi, hb⟩; have HB' := Lib.hid (HB.out.trans (hb.mono HB.out.size)); have I1 := Lib.hid hi; clear hi; clear hb HB; have HB := HB'; clear HB'; ) | (go_at_call 8; refine (HC4.out _ HB.out).mono ?_; rintro e w9 ⟨r2, c2, rfl, hi, hb⟩; have HB' := Lib.hid (HB.out.trans (hb.mono HB.out.size)); have T9 := Lib.hid (I1.out.below hb); clear I1; have I1 := T9; clear T9; have I2 := Lib.hid hi; clear hi; clear hb HB; have HB := HB'; clear HB'; ) | (go_at_call 9; refine (HC5.out _ HB.out).mono ?_; rintro e w9 ⟨r3, c3, rfl, hi, hb⟩; have HB' := Lib.hid (HB.out.trans (hb.mono HB.out.size)); have T9 := Lib.hid (I1.out.below hb); clear I1; have I1 := T9; clear T9; have T9 := Lib.hid (I2.out.below hb); clear I2; have I2 := T9; clear T9; have I3 := Lib.hid hi; clear hi; clear hb HB; have HB := HB'; clear HB'; ) | (go_at_call 10; refine (HC6.out _ HB.out).mono ?_; rintro e w9 ⟨r4, c4, rfl, hi, hb⟩; have HB' := Lib.hid (HB.out.trans (hb.mono HB.out.size)); have T9 := Lib.hid (I1.out.below hb); clear I1; have I1 := T9; clear T9; have T9 := Lib.hid (I2.out.below hb); clear I2; have I2 := T9; clear T9; have T9 := Lib.hid (I3.out.below hb); clear I3; have I3 := T9; clear T9; have I4 := Lib.hid hi; clear hi; clear hb HB; have HB := HB'; clear HB'; ) | (go_at_call 11; first | (refine (HEM.out _ r1 c1 r2 c2 I1.out I2.out).mono ?_; rintro e w9 ⟨rfl, hb⟩; have HB' := Lib.hid (HB.out.trans (hb.mono HB.out.size)); have T9 := Lib.hid (I3.out.below hb); clear I3; have I3 := T9; clear T9; have T9 := Lib.hid (I4.out.below hb); clear I4; have I4 := T9; clear T9; clear hb HB I1 I2 HEM; have HB := HB'; clear HB') | (refine (HEJ.out _ r3 c3 r4 c4 I3.out I4.out).mono ?_; rintro e w9 ⟨rfl, hb⟩; have HB' := Lib.hid (HB.out.trans (hb.mono HB.out.size)); clear hb HB; have HB := HB'; clear HB')))
    go_ret
    exact ⟨rfl, HB.out⟩
end Go.Proofs.YteojbichibdhjacGreatDoor
