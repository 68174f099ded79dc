/- Layer 6: the specification's Normal, People, Person. -/
import Derived.Test.YtjcadoodneoehaaGreatDoorPg
namespace Go.Proofs.YtjcadoodneoehaaGreatDoor
set_option linter.unusedSimpArgs false
set_option linter.unusedVariables false
open Go Go.RowKit

theorem from_false {n : Nat} (h : fromTo n 1 32 = false) : n < 1 ∨ 32 < n := by
  unfold fromTo at h
  by_cases h1 : n < 1
  · exact .inl h1
  · refine .inr ?_
    rw [show decide ((1 : Int) ≤ (n : Int)) = true from decide_eq_true (by omega), Bool.true_and, decide_eq_false_iff_not] at h
    omega
theorem from_true {n : Nat} (h : fromTo n 1 32 = true) : 1 ≤ n ∧ n ≤ 32 := by
  unfold fromTo at h
  simp only [Bool.and_eq_true, decide_eq_true_eq] at h
  omega
set_option maxRecDepth 100000 in
theorem rnorm_any (a : Option Addr) (cap : Nat) (ls : List Int) (w : World) (hl : ls.length ≤ 1000) (hs : IntsAt w a ls) :
    Calls Tryz.prog 6 #[.slice a ls.length cap] w fun e w' => ∃ r c, e = .returned (.tuple #[.slice r (normR ls).length c, .int .i64 (normE ls)]) ∧ IntsAt w' r (normR ls) ∧ Below w.heap.size w w' := by
  have HNA := Lib.hid (rnormal_any a cap ls w hl hs)
  have HFL := Lib.hid (nrm_full ls)
  clear hs
  unfold normR normE
  obtain ⟨n, hn⟩ : ∃ n, n = ls.length := ⟨_, rfl⟩
  rw [← hn] at HNA HFL ⊢
  cases hf : fromTo n 1 32 with
  | false =>
    clear hn
    rcases from_false hf with h | h
    · clear hf
      have t1 : decide (n < 1) = true := decide_eq_true h
      go_enter Tryz.func6, Tryz.ntmps6
      go_wp2_with fail
      go_ret2
      exact ⟨none, ⟨0, rfl⟩, .inl rfl, Below.refl _ _⟩
    · clear hf
      have t1 : decide (n < 1) = false := decide_eq_false (by omega)
      have t2 : decide (32 < n) = true := decide_eq_true h
      go_enter Tryz.func6, Tryz.ntmps6
      go_wp2_with fail
      go_ret2
      exact ⟨none, ⟨0, rfl⟩, .inl rfl, Below.refl _ _⟩
  | true =>
    obtain ⟨h1, h2⟩ := from_true hf
    clear hf hn
    have t1 : decide (n < 1) = false := decide_eq_false (by omega)
    have t2 : decide (32 < n) = false := decide_eq_false (by omega)
    go_enter Tryz.func6, Tryz.ntmps6
    go_wp2_with (first | (go_at_call 25; refine HNA.out.mono ?_; rintro e w1 ⟨r, c, rfl, hi, hb1⟩; have HI := Lib.hid hi; have HB1 := Lib.hid hb1; clear hi hb1))
    go_ret2
    exact ⟨_, ⟨_, by simp only [if_true, HFL.out]; rfl⟩, HI.out, HB1.out⟩
theorem okP_small {ls : List Int} (h : okP ls = true) : ∀ x ∈ ls, 0 ≤ x ∧ x ≤ 1000 := by
  obtain ⟨h1, h2, m, hm⟩ := okP_scn h
  have hlow := scn_low _ _ hm
  intro x hx
  have := (scn_mem _ _ hm x).1 hx
  omega
set_option maxRecDepth 100000 in
theorem rpeo_any (a : Option Addr) (cap : Nat) (ls : List Int) (w : World) (hl : ls.length ≤ 1000) (hs : IntsAt w a ls) :
    Calls Tryz.prog 8 #[.slice a ls.length cap] w fun e w' => e = .returned (.tuple #[.int .i64 (peoR ls), .int .i64 (chkE ls)]) ∧ w = w' := by
  have HP := Lib.hid (rchk_any a cap ls w hl hs)
  have HQ : Hid (okP ls = true → Calls Tryz.prog 27 #[.slice a ls.length cap] w fun e w' => e = .returned (.int .i64 (manyL ls)) ∧ w = w') := fun h => rmany_any a cap ls w hl (okP_small h) hs
  clear hs
  unfold peoR
  unfold chkE at HP ⊢
  obtain ⟨n, hn⟩ : ∃ n, n = ls.length := ⟨_, rfl⟩
  rw [← hn] at HP HQ ⊢
  clear hn
  cases hp : okP ls with
  | false =>
    rw [hp] at HP
    clear hp HQ
    go_enter Tryz.func8, Tryz.ntmps8
    go_wp2_with (first | (go_at_call 12; refine HP.out.mono ?_; rintro e w1 ⟨rfl, rfl⟩; simp only [Bool.false_eq_true, if_false]))
    go_ret2
    exact ⟨rfl, rfl⟩
  | true =>
    rw [hp] at HP
    replace HQ := Lib.hid (HQ.out hp)
    clear hp
    go_enter Tryz.func8, Tryz.ntmps8
    go_wp2_with (first | (go_at_call 12; refine HP.out.mono ?_; rintro e w1 ⟨rfl, rfl⟩; simp only [if_true]) | (go_at_call 27; refine HQ.out.mono ?_; rintro e w2 ⟨rfl, rfl⟩))
    go_ret2
    exact ⟨rfl, rfl⟩
theorem perT_out {ls : List Int} {p : Int} (h : okP ls = true) (hp : p < 0 ∨ manyL ls ≤ p) : perT ls p ls.length = [] := by
  obtain ⟨h1, h2, m, hm⟩ := okP_scn h
  rw [perT_nil, scn_mem _ _ hm]
  rw [scn_many _ _ hm] at hp
  omega
theorem perT_in {ls : List Int} {p : Int} (h : okP ls = true) (hp : ¬ (p < 0 ∨ manyL ls ≤ p)) : perT ls p ls.length ≠ [] := by
  obtain ⟨h1, h2, m, hm⟩ := okP_scn h
  rw [Ne, perT_nil, scn_mem _ _ hm]
  rw [scn_many _ _ hm] at hp
  omega
set_option maxRecDepth 100000 in
set_option maxHeartbeats 1000000 in
theorem rper_any (a : Option Addr) (cap : Nat) (ls : List Int) (p : Int) (w : World) (hl : ls.length ≤ 1000) (hs : IntsAt w a ls) :
    Calls Tryz.prog 10 #[.slice a ls.length cap, .int .i64 p] w fun e w' => ∃ r c, e = .returned (.tuple #[.slice r (perR ls p).length c, .int .i64 (perE ls p)]) ∧ IntsAt w' r (perR ls p) ∧ Below w.heap.size w w' := by
  have HP := Lib.hid (rchk_any a cap ls w hl hs)
  have HQ : Hid (okP ls = true → Calls Tryz.prog 27 #[.slice a ls.length cap] w fun e w' => e = .returned (.int .i64 (manyL ls)) ∧ w = w') := fun h => rmany_any a cap ls w hl (okP_small h) hs
  have HS := Lib.hid hs
  clear hs
  unfold chkE at HP
  unfold perR perE
  cases hp : okP ls with
  | false =>
    rw [hp] at HP
    obtain ⟨n, hn⟩ : ∃ n, n = ls.length := ⟨_, rfl⟩
    rw [← hn] at HP ⊢
    clear hp hn HQ
    go_enter Tryz.func10, Tryz.ntmps10
    go_wp2_with (first | (go_at_call 12; refine HP.out.mono ?_; rintro e w1 ⟨rfl, rfl⟩; simp only [Bool.false_eq_true, if_false]))
    go_ret2
    exact ⟨none, ⟨0, rfl⟩, .inl rfl, Below.refl _ _⟩
  | true =>
    rw [hp] at HP
    simp only [if_true]
    replace HQ := Lib.hid (HQ.out hp)
    obtain ⟨M, hM⟩ : ∃ M, M = manyL ls := ⟨_, rfl⟩
    by_cases hout : p < 0 ∨ M ≤ p
    · rw [perT_out hp (hM ▸ hout)]
      rw [← hM] at HQ
      obtain ⟨n, hn⟩ : ∃ n, n = ls.length := ⟨_, rfl⟩
      rw [← hn] at HP HQ ⊢
      clear hp hn hM
      rcases (show p < 0 ∨ 0 ≤ p by omega) with h | h
      · have t1 : decide (p < 0) = true := decide_eq_true h
        clear hout
        go_enter Tryz.func10, Tryz.ntmps10
        go_wp2_with (first | (go_at_call 12; refine HP.out.mono ?_; rintro e w1 ⟨rfl, rfl⟩; simp only [if_true]))
        go_ret2
        exact ⟨none, ⟨0, rfl⟩, .inl rfl, Below.refl _ _⟩
      · have t1 : decide (p < 0) = false := decide_eq_false (by omega)
        have t2 : decide (M ≤ p) = true := decide_eq_true (by omega)
        clear hout
        go_enter Tryz.func10, Tryz.ntmps10
        go_wp2_with (first | (go_at_call 12; refine HP.out.mono ?_; rintro e w1 ⟨rfl, rfl⟩; simp only [if_true]) | (go_at_call 27; refine HQ.out.mono ?_; rintro e w2 ⟨rfl, rfl⟩))
        go_ret2
        exact ⟨none, ⟨0, rfl⟩, .inl rfl, Below.refl _ _⟩
    · have HNE := Lib.hid (perT_in hp (hM ▸ hout))
      rw [← hM] at HQ
      have t1 : decide (p < 0) = false := decide_eq_false (by omega)
      have t2 : decide (M ≤ p) = false := decide_eq_false (by omega)
      rw [if_neg HNE.out]
      obtain ⟨R, hR⟩ : ∃ R, R = intN (perT ls p ls.length) := ⟨_, rfl⟩
      rw [← hR]
      have HR := Lib.hid hR
      obtain ⟨n, hn⟩ : ∃ n, n = ls.length := ⟨_, rfl⟩
      rw [← hn] at HP HQ hl ⊢
      have HN := Lib.hid hn
      clear hp hn hM hR hout HNE
      obtain ⟨i0, hi0, hz0, hz1, hz2⟩ := info_parts infoInt
      go_enter Tryz.func10, Tryz.ntmps10
      go_wp2_with (first | (go_at_call 12; refine HP.out.mono ?_; rintro e w1 ⟨rfl, rfl⟩; simp only [if_true]) | (go_at_call 27; refine HQ.out.mono ?_; rintro e w2 ⟨rfl, rfl⟩))
      go_loopg [7, 8] n (fun g t7 t8 wr => ∃ k : Nat, k + g = n ∧ t8 = .int .i64 k ∧ Hid (PS w ls p k t7 wr))
      case atStart => exact ⟨0, by omega, rfl, PS.start ls p (Below.refl _ _)⟩
      case round =>
        obtain ⟨k, hkg, rfl, H⟩ := hrel
        by_cases hlt : k < n
        · have hkl : k < ls.length := by rw [← HN.out]; exact hlt
          obtain ⟨lb, lo, rfl, hlb, c0⟩ := (HS.out.below H.out.old).at hkl
          have HX := Lib.hid (List.getElem?_eq_getElem hkl)
          obtain ⟨x, hx⟩ : ∃ x, x = ls[k] := ⟨_, rfl⟩
          rw [← hx] at c0 HX
          obtain ⟨m, hm⟩ : ∃ m, m = (perT ls p k).length := ⟨_, rfl⟩
          have hmk : m ≤ k := by rw [hm]; exact perT_len _ _ _
          have HM := Lib.hid hm
          clear hx hkl hm
          by_cases hxp : x = p
          · subst hxp
            have HO := Lib.hid H.out.own
            rw [← HM.out] at HO
            go_wp2_with (at_builtin; go_loud (refine wpList_append_own _ rfl _ _ 22 rfl w.heap.size 3 i0 (.int .i64 0) 1 8 Tryz.underlying22 hi0 hz0 hz1 hz2 rfl (by decide) u7 m (ivL (intN (perT ls x k))) rfl (HO.out.alloc _) ⟨wr.heap.size, 0, none⟩ 1 1 [.int .i64 k] rfl rfl (cell_one_new _ _ _) (by simp [Value.oneCell']) (by simp only [maxLen]; omega) (by omega) (by have := H.out.old.size; simp; omega) ?_; intro v2 w6 hown' hgrow _; have K6 := Lib.hid (H.out.add HX.out (by rw [← HM.out]; exact hown') hgrow); clear hown' hgrow))
            go_roundg (gk - 1)
            case measure => omega
            case rel => exact ⟨k + 1, by omega, by simp, K6.out⟩
          · have t3 : (x == p) = false := by rw [beq_eq_false_iff_ne]; exact hxp
            have K6 := Lib.hid (H.out.skip (by rw [HX.out]; intro e; exact hxp (by injection e)))
            go_wp2_with fail
            go_roundg (gk - 1)
            case measure => omega
            case rel => exact ⟨k + 1, by omega, by simp, K6.out⟩
        · have e : k = n := by omega
          subst e
          have hO := H.out.own
          rw [show perT ls p k = perT ls p ls.length by rw [← HN.out]] at hO
          rw [show (perT ls p ls.length).length = R.length by rw [HR.out, intN_len], ← HR.out] at hO
          obtain ⟨fa, fc, rfl, hkk, hfi⟩ := own_ints hO
          have HI := Lib.hid hfi
          clear hfi hO hkk
          go_wp2_with fail
          go_ret2
          exact ⟨_, _, rfl, HI.out, H.out.old⟩
end Go.Proofs.YtjcadoodneoehaaGreatDoor
