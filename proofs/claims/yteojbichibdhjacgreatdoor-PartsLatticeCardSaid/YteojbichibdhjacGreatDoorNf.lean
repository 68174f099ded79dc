/- Layer 6: the specification's Check and many. -/
import Derived.Test.YteojbichibdhjacGreatDoorNd
namespace Go.Proofs.YteojbichibdhjacGreatDoor
set_option linter.unusedSimpArgs false
set_option linter.unusedVariables false
open Go Go.RowKit

theorem chkE_long {ls : List Int} (h : ls.length < 1 ∨ 32 < ls.length) : chkE ls = 51 := by
  unfold chkE okP fromTo
  rcases h with h | h
  · rw [show decide ((1 : Int) ≤ (ls.length : Int)) = false from decide_eq_false (by omega)]; rfl
  · rw [show decide ((ls.length : Int) ≤ 32) = false from decide_eq_false (by omega)]; simp
theorem chkE_scn {ls : List Int} (h1 : 1 ≤ ls.length) (h2 : ls.length ≤ 32) : chkE ls = if (scn ls).isSome then 0 else 51 := by
  unfold chkE okP fromTo
  rw [show decide ((1 : Int) ≤ (ls.length : Int)) = true from decide_eq_true (by omega), show decide ((ls.length : Int) ≤ 32) = true from decide_eq_true (by omega), scn_iff]
  simp only [Bool.and_self, Bool.true_and]
  by_cases h : ls = intN (nrmP ls).2
  · rw [decide_eq_true h, decide_eq_true h.symm]
  · rw [decide_eq_false h, decide_eq_false (fun e => h e.symm)]
set_option maxRecDepth 100000 in
set_option maxHeartbeats 1000000 in
theorem rchk_any (a : Option Addr) (cap : Nat) (ls : List Int) (w : World) (hl : ls.length ≤ 2000) (hs : IntsAt w a ls) :
    Calls Tryz.prog 42 #[.slice a ls.length cap] w fun e w' => e = .returned (.int .i64 (chkE ls)) ∧ w = w' := by
  have HS := Lib.hid hs
  by_cases hlo : ls.length < 1
  · have HC := Lib.hid (chkE_long (ls := ls) (.inl hlo))
    obtain ⟨n, hn⟩ : ∃ n, n = ls.length := ⟨_, rfl⟩
    rw [← hn] at hlo ⊢
    clear hn hs
    have t1 : decide (n < 1) = true := decide_eq_true hlo
    go_enter Tryz.func42, Tryz.ntmps42
    go_wp2_with fail
    go_ret
    exact ⟨by rw [HC.out]; rfl, rfl⟩
  by_cases hhi : 32 < ls.length
  · have HC := Lib.hid (chkE_long (ls := ls) (.inr hhi))
    obtain ⟨n, hn⟩ : ∃ n, n = ls.length := ⟨_, rfl⟩
    rw [← hn] at hlo hhi ⊢
    clear hn hs
    have t1 : decide (n < 1) = false := decide_eq_false hlo
    have t2 : decide (32 < n) = true := decide_eq_true hhi
    go_enter Tryz.func42, Tryz.ntmps42
    go_wp2_with fail
    go_ret
    exact ⟨by rw [HC.out]; rfl, rfl⟩
  have HC := Lib.hid (chkE_scn (ls := ls) (by omega) (by omega))
  obtain ⟨n, hn⟩ : ∃ n, n = ls.length := ⟨_, rfl⟩
  rw [← hn] at hlo hhi ⊢
  have HN := Lib.hid hn
  clear hn hs hl
  have t1 : decide (n < 1) = false := decide_eq_false hlo
  have t2 : decide (32 < n) = false := decide_eq_false hhi
  go_enter Tryz.func42, Tryz.ntmps42
  go_wp2_with fail
  clear t1 t2
  go_loopw [3, 4] (fun t3 t4 wr => ∃ k m : Nat, k ≤ n ∧ m ≤ k ∧ t4 = .int .i64 k ∧ t3 = .int .i64 m ∧ Hid (scn (ls.take k) = some m) ∧ w = wr) (fun _ t4 _ => n - (intOf t4).toNat)
  case atStart => exact ⟨0, 0, by omega, by omega, rfl, rfl, rfl, rfl⟩
  case round =>
    obtain ⟨k, m, hk, hmk, rfl, rfl, HM, rfl⟩ := hrel
    by_cases hlt : k < n
    · have hkl : k < ls.length := by rw [← HN.out]; exact hlt
      obtain ⟨lb, lo, rfl, hlb, c0⟩ := HS.out.at hkl
      have HST := Lib.hid (scn_step ls k hkl)
      obtain ⟨x, hx⟩ : ∃ x, x = ls[k] := ⟨_, rfl⟩
      rw [← hx, HM.out] at HST
      rw [← hx] at c0
      clear hx hkl
      have t0 : decide (k < n) = true := decide_eq_true hlt
      by_cases hneg : x < 0
      · have t1 : decide (x < 0) = true := decide_eq_true hneg
        have HR : Hid (chkE ls = 51) := by
          have h1 : scn (ls.take (k + 1)) = none := by rw [HST.out, scnS, if_pos (.inl hneg)]
          rw [Hid, HC.out, scn_take h1]; rfl
        clear HST
        go_wp2_with fail
        go_ret
        exact ⟨by rw [HR.out]; rfl, rfl⟩
      have t1 : decide (x < 0) = false := decide_eq_false hneg
      by_cases hbig : (m : Int) < x
      · have t2 : decide ((m : Int) < x) = true := decide_eq_true hbig
        have HR : Hid (chkE ls = 51) := by
          have h1 : scn (ls.take (k + 1)) = none := by rw [HST.out, scnS, if_pos (.inr hbig)]
          rw [Hid, HC.out, scn_take h1]; rfl
        clear HST
        go_wp2_with fail
        go_ret
        exact ⟨by rw [HR.out]; rfl, rfl⟩
      have t2 : decide ((m : Int) < x) = false := decide_eq_false hbig
      by_cases heq : x = (m : Int)
      · have HR : Hid (scn (ls.take (k + 1)) = some (m + 1)) := by rw [Hid, HST.out, scnS, if_neg (by omega), if_pos heq]
        subst heq
        clear HST t1 t2
        go_wp2_with fail
        exact ⟨⟨k + 1, m + 1, by omega, by omega, by simp, by simp, HR.out, trivial⟩, by simp [intOf]; omega⟩
      · have HR : Hid (scn (ls.take (k + 1)) = some m) := by rw [Hid, HST.out, scnS, if_neg (by omega), if_neg heq]
        have t3 : (x == (m : Int)) = false := by rw [beq_eq_false_iff_ne]; exact heq
        clear HST
        go_wp2_with fail
        exact ⟨⟨k + 1, m, by omega, by omega, by simp, rfl, HR.out, trivial⟩, by simp [intOf]; omega⟩
    · have HR : Hid (chkE ls = 0) := by
        have := HM.out
        rw [List.take_of_length_le (by rw [← HN.out]; omega)] at this
        rw [Hid, HC.out, this]; rfl
      have t0 : decide (k < n) = false := decide_eq_false hlt
      go_wp2_with fail
      go_ret
      exact ⟨by rw [HR.out]; rfl, rfl⟩
end Go.Proofs.YteojbichibdhjacGreatDoor
