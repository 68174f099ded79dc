/- Layer 6: the law PartsForms. -/
import Derived.Test.YtjcadoodneoehaaGreatDoorPh
namespace Go.Proofs.YtjcadoodneoehaaGreatDoor
set_option linter.unusedSimpArgs false
set_option linter.unusedVariables false
open Go Go.RowKit

set_option maxRecDepth 100000 in
set_option maxHeartbeats 2000000 in
theorem partsForms_any (p : Int) (a : Option Addr) (cap : Nat) (ls : List Int) (w : World) (hl : ls.length ≤ 9223372036854775807) (hs : IntsAt w a ls)
    (hsane : Calls Tryz.prog 4 #[] w fun e w' => e = .returned (.bool true) ∧ Below w.heap.size w w') :
    Calls Tryz.prog 3 #[.slice a ls.length cap, .int .i64 p] w fun e w' => e = .returned (.bool true) ∧ Below w.heap.size w w' := by
  have HSA := Lib.hid hsane
  have HS := Lib.hid hs
  have HU : Hid (ls.length ≤ 100 → ∃ (N E : List Int × Int) (M G : Int), N.1.length ≤ 1000 ∧ E.1.length ≤ 1000 ∧ (∀ W, Below w.heap.size w W →
      Calls Tryz.prog 5 #[.slice a ls.length cap] W (fun e w' => ∃ r c, e = .returned (.tuple #[.slice r N.1.length c, .int .i64 N.2]) ∧ IntsAt w' r N.1 ∧ Below W.heap.size W w') ∧
      Calls Tryz.prog 6 #[.slice a ls.length cap] W (fun e w' => ∃ r c, e = .returned (.tuple #[.slice r N.1.length c, .int .i64 N.2]) ∧ IntsAt w' r N.1 ∧ Below W.heap.size W w') ∧
      Calls Tryz.prog 7 #[.slice a ls.length cap] W (fun e w' => e = .returned (.tuple #[.int .i64 M, .int .i64 G]) ∧ Below W.heap.size W w') ∧
      Calls Tryz.prog 8 #[.slice a ls.length cap] W (fun e w' => e = .returned (.tuple #[.int .i64 M, .int .i64 G]) ∧ W = w') ∧
      Calls Tryz.prog 9 #[.slice a ls.length cap, .int .i64 p] W (fun e w' => ∃ r c, e = .returned (.tuple #[.slice r E.1.length c, .int .i64 E.2]) ∧ IntsAt w' r E.1 ∧ Below W.heap.size W w') ∧
      Calls Tryz.prog 10 #[.slice a ls.length cap, .int .i64 p] W (fun e w' => ∃ r c, e = .returned (.tuple #[.slice r E.1.length c, .int .i64 E.2]) ∧ IntsAt w' r E.1 ∧ Below W.heap.size W w') ∧
      Calls Tryz.prog 11 #[.slice a ls.length cap] W (fun e w' => e = .returned (.int .i64 G) ∧ Below W.heap.size W w') ∧
      Calls Tryz.prog 12 #[.slice a ls.length cap] W (fun e w' => e = .returned (.int .i64 G) ∧ W = w'))) := Lib.hid fun h => by
    refine ⟨(normR ls, normE ls), (perR ls p, perE ls p), peoR ls, chkE ls, ?_, ?_, fun W hb => ?_⟩
    · show (normR ls).length ≤ 1000
      unfold normR
      split
      · rw [nrm_full]; omega
      · simp
    · show (perR ls p).length ≤ 1000
      unfold perR
      split
      · rw [intN_len]; have := perT_len ls p ls.length; omega
      · simp
    · have hsW := hs.below hb
      exact ⟨norm_any a cap ls W (by omega) hsW, rnorm_any a cap ls W (by omega) hsW, peo_any a cap ls W (by omega) hsW, rpeo_any a cap ls W (by omega) hsW, per_any a cap ls p W (by omega) hsW, rper_any a cap ls p W (by omega) hsW, chk_any a cap ls W (by omega) hsW, rchk_any a cap ls W (by omega) hsW⟩
  obtain ⟨n, hn⟩ : ∃ n, n = ls.length := ⟨_, rfl⟩
  rw [← hn] at hl HU ⊢
  clear hs hsane hn
  by_cases hbig : n ≤ 100
  case neg =>
    have t1 : decide (100 < n) = true := decide_eq_true (by omega)
    clear HU
    go_enter Tryz.func3, Tryz.ntmps3
    go_wp2_with (first | (go_at_call 4; refine HSA.out.mono ?_; rintro e w2 ⟨rfl, hb⟩))
    go_ret
    exact ⟨rfl, hb⟩
  case pos =>
    have t1 : decide (100 < n) = false := decide_eq_false (by omega)
    obtain ⟨⟨N, n2⟩, ⟨E, e2⟩, M, G, hNl, hEl, hU⟩ := HU.out hbig
    simp only at hNl hEl hU
    have HC := Lib.hid hU
    have HEN : Hid (∀ W r1 c1 r2 c2, IntsAt W r1 N → IntsAt W r2 N → Calls Tryz.prog 13 #[.slice r1 N.length c1, .slice r2 N.length c2] W fun e w' => e = .returned (.bool true) ∧ Below W.heap.size W w') := fun W r1 c1 r2 c2 h1 h2 => by
      have := equal_any r1 r2 c1 c2 N N W (by omega) (by omega) h1 h2
      simpa using this
    have HEE : Hid (∀ W r1 c1 r2 c2, IntsAt W r1 E → IntsAt W r2 E → Calls Tryz.prog 13 #[.slice r1 E.length c1, .slice r2 E.length c2] W fun e w' => e = .returned (.bool true) ∧ Below W.heap.size W w') := fun W r1 c1 r2 c2 h1 h2 => by
      have := equal_any r1 r2 c1 c2 E E W (by omega) (by omega) h1 h2
      simpa using this
    obtain ⟨nl, hnl⟩ : ∃ x, x = N.length := ⟨_, rfl⟩
    obtain ⟨el, hel⟩ : ∃ x, x = E.length := ⟨_, rfl⟩
    rw [← hnl, ← hel] at HC
    rw [← hnl] at HEN
    rw [← hel] at HEE
    clear hU HU hnl hel hNl hEl
    go_enter Tryz.func3, Tryz.ntmps3
    go_upto_region 5 with (first | (go_at_call 4; refine HSA.out.mono ?_; rintro e w2 ⟨rfl, hb⟩))
    have F0 := Lib.hid hb
    clear hb HSA
    go_upto_region 6 with (first | (go_at_call 5; refine (HC.out _ F0.out).1.mono ?_; rintro e w3 ⟨r1, c1, rfl, hi, hb⟩))
    have F1 := Lib.hid (F0.out.trans (hb.mono F0.out.size))
    have I1 := Lib.hid hi
    clear hb hi F0
    go_upto_region 7 with (first | (go_at_call 6; refine (HC.out _ F1.out).2.1.mono ?_; rintro e w4 ⟨r2, c2, rfl, hi, hb⟩))
    have F2 := Lib.hid (F1.out.trans (hb.mono F1.out.size))
    have J1 := Lib.hid (I1.out.below hb)
    have J2 := Lib.hid hi
    clear hb hi F1 I1
    go_upto_region 8 with (first | (go_at_call 7; refine (HC.out _ F2.out).2.2.1.mono ?_; rintro e w5 ⟨rfl, hb⟩))
    have F3 := Lib.hid (F2.out.trans (hb.mono F2.out.size))
    have K1 := Lib.hid (J1.out.below hb)
    have K2 := Lib.hid (J2.out.below hb)
    clear hb F2 J1 J2
    go_upto_region 9 with (first | (go_at_call 8; refine (HC.out _ F3.out).2.2.2.1.mono ?_; rintro e w6 ⟨rfl, rfl⟩))
    go_upto_region 10 with (first | (go_at_call 9; refine (HC.out _ F3.out).2.2.2.2.1.mono ?_; rintro e w7 ⟨r3, c3, rfl, hi, hb⟩))
    have F4 := Lib.hid (F3.out.trans (hb.mono F3.out.size))
    have L1 := Lib.hid (K1.out.below hb)
    have L2 := Lib.hid (K2.out.below hb)
    have L3 := Lib.hid hi
    clear hb hi F3 K1 K2
    go_upto_region 11 with (first | (go_at_call 10; refine (HC.out _ F4.out).2.2.2.2.2.1.mono ?_; rintro e w8 ⟨r4, c4, rfl, hi, hb⟩))
    have F5 := Lib.hid (F4.out.trans (hb.mono F4.out.size))
    have M1 := Lib.hid (L1.out.below hb)
    have M2 := Lib.hid (L2.out.below hb)
    have M3 := Lib.hid (L3.out.below hb)
    have M4 := Lib.hid hi
    clear hb hi F4 L1 L2 L3
    go_wp2_with (first | (go_at_call 11; refine (HC.out _ F5.out).2.2.2.2.2.2.1.mono ?_; rintro e w9 ⟨rfl, hb⟩; have F6 := Lib.hid (F5.out.trans (hb.mono F5.out.size)); have N1 := Lib.hid (M1.out.below hb); have N2 := Lib.hid (M2.out.below hb); have N3 := Lib.hid (M3.out.below hb); have N4 := Lib.hid (M4.out.below hb); clear hb M1 M2 M3 M4) | (go_at_call 12; refine (HC.out _ F6.out).2.2.2.2.2.2.2.mono ?_; rintro e w10 ⟨rfl, rfl⟩) | (go_at_call 13; first | (refine (HEN.out _ r1 c1 r2 c2 N1.out N2.out).mono ?_; rintro e w11 ⟨rfl, hb⟩; have F7 := Lib.hid (F6.out.trans (hb.mono F6.out.size)); have O3 := Lib.hid (N3.out.below hb); have O4 := Lib.hid (N4.out.below hb); clear hb N1 N2 N3 N4) | (refine (HEE.out _ r3 c3 r4 c4 O3.out O4.out).mono ?_; rintro e w12 ⟨rfl, hb⟩; have F8 := Lib.hid (F7.out.trans (hb.mono F7.out.size)); clear hb)))
    go_ret
    exact ⟨rfl, F8.out⟩
end Go.Proofs.YtjcadoodneoehaaGreatDoor
