/- Layer 6: the law PartsTexts. -/
import Derived.Test.YtblmlkmibgklpaaGreatDoorYe
namespace Go.Proofs.YtblmlkmibgklpaaGreatDoor
set_option linter.unusedSimpArgs false
set_option linter.unusedVariables false
open Go Go.RowKit

theorem parR_len (s : List UInt8) : (parR s).length ≤ 32 := by
  unfold parR
  cases h : parseS s with
  | none => simp
  | some L => obtain ⟨hok, _⟩ := parseS_iff.1 h; exact (okP_ent hok).2.1
theorem parE_two (s : List UInt8) : (parE s = 3) ∨ (parE s = 0 ∧ okP (parR s) = true ∧ prn (parR s) = s) := by
  unfold parE parR
  cases h : parseS s with
  | none => exact .inl rfl
  | some L => obtain ⟨hok, hp⟩ := parseS_iff.1 h; exact .inr ⟨rfl, hok, hp⟩
set_option maxRecDepth 100000 in
set_option maxHeartbeats 4000000 in
theorem partsTexts_any {G : World → Prop} (L : Lb G) (s : ByteArray) (a : Option Addr) (cap : Nat) (ls : List Int) (w : World) (hG : G w) (hl : ls.length ≤ 9223372036854775807) (hsz : s.size ≤ 9223372036854775807) (hs : IntsAt w a ls)
    (hsane : Calls Tryz.prog 4 #[] w fun e w' => e = .returned (.bool true) ∧ Below w.heap.size w w') :
    Calls Tryz.prog 3 #[.slice a ls.length cap, .string s] w fun e w' => e = .returned (.bool true) ∧ Below w.heap.size w w' := by
  have HSA := Lib.hid hsane
  have HU : Hid (ls.length ≤ 100 → s.size ≤ 1000 → ∃ (A : ByteArray) (e : Int) (X : List Int) (g : Int), X.length ≤ 32 ∧
      (∀ W, Below w.heap.size w W →
        Calls Tryz.prog 5 #[.slice a ls.length cap] W (fun q w' => q = .returned (.tuple #[.string A, .int .i64 e]) ∧ Below W.heap.size W w') ∧
        Calls Tryz.prog 6 #[.slice a ls.length cap] W (fun q w' => q = .returned (.tuple #[.string A, .int .i64 e]) ∧ Below W.heap.size W w') ∧
        Calls Tryz.prog 7 #[.string s] W (fun q w' => ∃ r c, q = .returned (.tuple #[.slice r X.length c, .int .i64 g]) ∧ IntsAt w' r X ∧ Below W.heap.size W w') ∧
        Calls Tryz.prog 8 #[.string s] W (fun q w' => ∃ r c, q = .returned (.tuple #[.slice r X.length c, .int .i64 g]) ∧ IntsAt w' r X ∧ Below W.heap.size W w')) ∧
      (g = 3 ∨ (g = 0 ∧ ∀ W r c, Below w.heap.size w W → IntsAt W r X → Calls Tryz.prog 5 #[.slice r X.length c] W fun q w' => q = .returned (.tuple #[.string s, .int .i64 0]) ∧ Below W.heap.size W w')) ∧
      ((e = 51 ∧ A = ⟨#[]⟩) ∨ (e = 0 ∧ ∀ W, Below w.heap.size w W → Calls Tryz.prog 7 #[.string A] W fun q w' => ∃ r c, q = .returned (.tuple #[.slice r ls.length c, .int .i64 0]) ∧ IntsAt w' r ls ∧ Below W.heap.size W w'))) := Lib.hid fun h1 h2 => by
    refine ⟨prnR ls, chkE ls, parR s.data.toList, parE s.data.toList, parR_len _, fun W hb => ?_, ?_, ?_⟩
    · have hGW := L.keep _ _ hG hb
      have hsW := hs.below hb
      exact ⟨print_any L a cap ls W hGW (by omega) hsW, rprint_any L a cap ls W hGW (by omega) hsW, parse_any L s W hGW h2, rparse_any s W h2⟩
    · rcases parE_two s.data.toList with h | ⟨h, hok, hp⟩
      · exact .inl h
      · refine .inr ⟨h, fun W r c hb hi => ?_⟩
        have := print_any L r c (parR s.data.toList) W (L.keep _ _ hG hb) (by have := parR_len s.data.toList; omega) hi
        rw [(prnR_eq hok).2 hp, show chkE (parR s.data.toList) = 0 by unfold chkE; rw [if_pos hok]] at this
        exact this
    · cases hok : okP ls with
      | false => exact .inl ⟨by unfold chkE; rw [hok]; rfl, by unfold prnR; rw [hok]; rfl⟩
      | true =>
        refine .inr ⟨by unfold chkE; rw [hok]; rfl, fun W hb => ?_⟩
        have hd : (prnR ls).data.toList = prn ls := by unfold prnR; rw [if_pos hok]
        obtain ⟨_, h32, hx⟩ := okP_ent hok
        have hsz : (prnR ls).size ≤ 1000 := by
          have := prn_le hx
          rw [← hd, Array.length_toList] at this
          have e : (prnR ls).data.size = (prnR ls).size := rfl
          omega
        have := parse_any L (prnR ls) W (L.keep _ _ hG hb) hsz
        rw [hd, show parR (prn ls) = ls by unfold parR; rw [parse_prn hok]; rfl, show parE (prn ls) = 0 by unfold parE; rw [parse_prn hok]; rfl] at this
        exact this
  have HS := Lib.hid hs
  have HEQL : Hid (ls.length ≤ 100 → ∀ W r c, Below w.heap.size w W → IntsAt W r ls → Calls Tryz.prog 9 #[.slice r ls.length c, .slice a ls.length cap] W fun e w' => e = .returned (.bool true) ∧ Below W.heap.size W w') := fun h W r c hb hi => by
    have := equal_any r a c cap ls ls W (by omega) (by omega) hi (hs.below hb)
    simpa using this
  obtain ⟨n, hn⟩ : ∃ n, n = ls.length := ⟨_, rfl⟩
  rw [← hn] at hl HU HEQL ⊢
  clear hs hsane hn hG L
  by_cases hbig : n ≤ 100
  case neg =>
    have t1 : decide (100 < n) = true := decide_eq_true (by omega)
    clear HU HEQL
    go_enter Tryz.func3, Tryz.ntmps3
    go_wp2_with (first | (go_at_call 4; refine HSA.out.mono ?_; rintro e w2 ⟨rfl, hb⟩))
    go_ret
    exact ⟨rfl, hb⟩
  case pos =>
  have t1 : decide (100 < n) = false := decide_eq_false (by omega)
  by_cases hbig2 : s.size ≤ 1000
  case neg =>
    have t2 : decide (1000 < s.size) = true := decide_eq_true (by omega)
    clear HU HEQL
    go_enter Tryz.func3, Tryz.ntmps3
    go_wp2_with (first | (go_at_call 4; refine HSA.out.mono ?_; rintro e w2 ⟨rfl, hb⟩))
    go_ret
    exact ⟨rfl, hb⟩
  case pos =>
    have t2 : decide (1000 < s.size) = false := decide_eq_false (by omega)
    obtain ⟨A, e, X, g, hXl, hU, hg, he⟩ := HU.out hbig hbig2
    have HC := Lib.hid hU
    have HEQ := Lib.hid (HEQL.out hbig)
    have HEX : Hid (∀ W r1 c1 r2 c2, IntsAt W r1 X → IntsAt W r2 X → Calls Tryz.prog 9 #[.slice r1 X.length c1, .slice r2 X.length c2] W fun e w' => e = .returned (.bool true) ∧ Below W.heap.size W w') := fun W r1 c1 r2 c2 h1 h2 => by
      have := equal_any r1 r2 c1 c2 X X W (by omega) (by omega) h1 h2
      simpa using this
    obtain ⟨xl, hxl⟩ : ∃ x, x = X.length := ⟨_, rfl⟩
    rw [← hxl] at HC HEX hg
    have HG := Lib.hid hg
    have HE := Lib.hid he
    clear hU HU HEQL hxl hXl hg he
    go_enter Tryz.func3, Tryz.ntmps3
    go_upto_region 5 with (first | (go_at_call 4; refine HSA.out.mono ?_; rintro e w2 ⟨rfl, hb⟩))
    have F0 := Lib.hid hb
    clear hb HSA
    go_upto_region 6 with (first | (go_at_call 5; refine (HC.out _ F0.out).1.mono ?_; rintro e w3 ⟨rfl, hb⟩))
    have F1 := Lib.hid (F0.out.trans (hb.mono F0.out.size))
    clear hb F0
    go_upto_region 7 with (first | (go_at_call 6; refine (HC.out _ F1.out).2.1.mono ?_; rintro e w4 ⟨rfl, hb⟩))
    have F2 := Lib.hid (F1.out.trans (hb.mono F1.out.size))
    clear hb F1
    go_upto_region 8 with (first | (go_at_call 7; refine (HC.out _ F2.out).2.2.1.mono ?_; rintro e w5 ⟨r1, c1, rfl, hi, hb⟩))
    have F3 := Lib.hid (F2.out.trans (hb.mono F2.out.size))
    have I1 := Lib.hid hi
    clear hb hi F2
    go_upto_region 9 with (first | (go_at_call 8; refine (HC.out _ F3.out).2.2.2.mono ?_; rintro e w6 ⟨r2, c2, rfl, hi, hb⟩))
    have F4 := Lib.hid (F3.out.trans (hb.mono F3.out.size))
    have J1 := Lib.hid (I1.out.below hb)
    have J2 := Lib.hid hi
    clear hb hi F3 I1
    go_upto_region 11 with (first | (go_at_call 9; refine (HEX.out _ r1 c1 r2 c2 J1.out J2.out).mono ?_; rintro e w7 ⟨rfl, hb⟩; have F5 := Lib.hid (F4.out.trans (hb.mono F4.out.size)); have K1 := Lib.hid (J1.out.below hb); clear hb J1 J2 F4))
    rcases HG.out with h3 | ⟨h0, hpr⟩
    · subst h3
      rcases HE.out with ⟨h51, hA⟩ | ⟨h0, hpa⟩
      · subst h51; subst hA
        clear HC HEX HEQ HG HE
        go_wp2_with fail
        go_ret
        exact ⟨rfl, F5.out⟩
      · subst h0
        have HPA := Lib.hid (hpa _ F5.out)
        clear hpa HC HEX HG HE
        go_wp2_with (first | (go_at_call 7; refine HPA.out.mono ?_; rintro e w8 ⟨r3, c3, rfl, hi, hb⟩; have F6 := Lib.hid (F5.out.trans (hb.mono F5.out.size)); have N1 := Lib.hid hi; clear hb hi) | (go_at_call 9; refine (HEQ.out _ r3 c3 F6.out N1.out).mono ?_; rintro e w9 ⟨rfl, hb⟩; have F7 := Lib.hid (F6.out.trans (hb.mono F6.out.size)); clear hb))
        go_ret
        exact ⟨rfl, F7.out⟩
    · subst h0
      have HPR := Lib.hid (hpr _ r1 c1 F5.out K1.out)
      clear hpr HC HEX HG
      go_upto_region 15 with (first | (go_at_call 5; refine HPR.out.mono ?_; rintro e w8 ⟨rfl, hb⟩; have F6 := Lib.hid (F5.out.trans (hb.mono F5.out.size)); clear hb))
      rcases HE.out with ⟨h51, hA⟩ | ⟨h0, hpa⟩
      · subst h51; subst hA
        clear HEQ HE
        go_wp2_with fail
        go_ret
        exact ⟨rfl, F6.out⟩
      · subst h0
        have HPA := Lib.hid (hpa _ F6.out)
        clear hpa HE
        go_wp2_with (first | (go_at_call 7; refine HPA.out.mono ?_; rintro e w8 ⟨r3, c3, rfl, hi, hb⟩; have F7 := Lib.hid (F6.out.trans (hb.mono F6.out.size)); have N1 := Lib.hid hi; clear hb hi) | (go_at_call 9; refine (HEQ.out _ r3 c3 F7.out N1.out).mono ?_; rintro e w9 ⟨rfl, hb⟩; have F8 := Lib.hid (F7.out.trans (hb.mono F7.out.size)); clear hb))
        go_ret
        exact ⟨rfl, F8.out⟩
end Go.Proofs.YtblmlkmibgklpaaGreatDoor
