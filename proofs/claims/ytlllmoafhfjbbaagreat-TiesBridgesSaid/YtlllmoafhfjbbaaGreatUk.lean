/- Layer 4: the law TiesGroups. -/
import Derived.Test.YtlllmoafhfjbbaaGreatUe
import Derived.Test.YtlllmoafhfjbbaaGreatUf
namespace Go.Proofs.YtlllmoafhfjbbaaGreat
set_option linter.unusedSimpArgs false
set_option linter.unusedVariables false
open Go Go.RowKit

theorem load_sl0 {w : World} {b o : Nat} {a : Option Addr} {len cap : Nat} (h : w.cell? ⟨b, o, none⟩ = some (.slice a len cap)) : (Instr.loadAt 25 (.pointer (some ⟨b, o, none⟩))).run Tryz.prog w = .ok (.slice a len cap) w := by
  simp [go_sem, Instr.loadAt, h]
set_option maxRecDepth 100000 in
theorem ints_same (a1 a2 : Option Addr) (cap1 cap2 : Nat) (l : List Int) (w : World) (hl : l.length ≤ 100000) (hs1 : IntsAt w a1 l) (hs2 : IntsAt w a2 l) :
    Calls Tryz.prog 23 #[.slice a1 l.length cap1, .slice a2 l.length cap2] w fun e w' => e = .returned (.bool true) ∧ Below w.heap.size w w' := by
  have HS1 := Lib.hid hs1
  have HS2 := Lib.hid hs2
  obtain ⟨n, hn⟩ : ∃ n, n = l.length := ⟨_, rfl⟩
  rw [← hn] at hl ⊢
  have HN := Lib.hid hn
  clear hs1 hs2 hn
  go_enter Tryz.func23, Tryz.ntmps23
  go_wp2_with fail
  go_loopw [5] (fun ti wr => ∃ k : Nat, k ≤ n ∧ ti = .int .i64 k ∧ Hid (Below w.heap.size w wr)) (fun ti _ => n - (intOf ti).toNat)
  case atStart => exact ⟨0, by omega, rfl, Below.refl _ _⟩
  case round =>
    obtain ⟨k, hk, rfl, HB⟩ := hrel
    by_cases hlt : k < n
    · have hkl : k < l.length := by rw [← HN.out]; exact hlt
      obtain ⟨b1, o1, rfl, h1, c1⟩ := (HS1.out.below HB.out).at hkl
      obtain ⟨b2, o2, rfl, h2, c2⟩ := (HS2.out.below HB.out).at hkl
      obtain ⟨x, hx⟩ : ∃ x, x = l[k] := ⟨_, rfl⟩
      rw [← hx] at c1 c2
      have HC : Hid (∀ W, Old wr.drew W → W.cell? ⟨b1, o1 + k, none⟩ = some (.int .i64 x) ∧ W.cell? ⟨b2, o2 + k, none⟩ = some (.int .i64 x)) := fun W h => ⟨by rw [Below.cell h (by exact h1)]; exact c1, by rw [Below.cell h (by exact h2)]; exact c2⟩
      have HLT : Hid (k < n) := hlt
      clear hx hkl h1 h2 c1 c2
      have t3 : decide (k < n) = true := decide_eq_true hlt
      go_upto_region 6 with (fail)
      refine wp_region_old 9 26 (by kernel_rfl) (by kernel_rfl) (by rfl) ?_
      simp only [List.take_succ_cons, List.take_zero, List.drop_succ_cons, List.drop_zero, List.drop_nil]
      refine chain_move (.slice (some ⟨b1, o1, none⟩) n cap1) _ (fun _ _ => Below.refl _ _) rfl rfl (by kernel_rfl) (by kernel_rfl) rfl ?_
      refine chain_move (.int .i64 k) _ (fun _ _ => Below.refl _ _) rfl rfl (by kernel_rfl) (by kernel_rfl) rfl ?_
      refine chain_idx (.pointer (some ⟨b1, o1 + k, none⟩)) _ _ _ (.slice (some ⟨b1, o1, none⟩) n cap1) (.int .i64 k) (fun _ _ => Below.refl _ _) rfl rfl (by kernel_rfl) (by kernel_rfl) rfl rfl (fun w1 => idx_i64 _ _ _ _ _ HLT.out w1) ?_
      refine chain_load (.int .i64 x) _ _ _ (fun _ _ => Below.refl _ _) rfl rfl (by kernel_rfl) (by kernel_rfl) rfl (fun w1 hC => load_i64 (HC.out _ hC).1) ?_
      refine chain_move (.slice (some ⟨b2, o2, none⟩) n cap2) _ (fun _ _ => Below.refl _ _) rfl rfl (by kernel_rfl) (by kernel_rfl) rfl ?_
      refine chain_move (.int .i64 k) _ (fun _ _ => Below.refl _ _) rfl rfl (by kernel_rfl) (by kernel_rfl) rfl ?_
      refine chain_idx (.pointer (some ⟨b2, o2 + k, none⟩)) _ _ _ (.slice (some ⟨b2, o2, none⟩) n cap2) (.int .i64 k) (fun _ _ => Below.refl _ _) rfl rfl (by kernel_rfl) (by kernel_rfl) rfl rfl (fun w1 => idx_i64 _ _ _ _ _ HLT.out w1) ?_
      refine chain_load (.int .i64 x) _ _ _ (fun _ _ => Below.refl _ _) rfl rfl (by kernel_rfl) (by kernel_rfl) rfl (fun w1 hC => load_i64 (HC.out _ hC).2) ?_
      refine chain_bin (.bool false) _ _ _ _ _ (.int .i64 x) (.int .i64 x) (fun _ _ => Below.refl _ _) rfl rfl (by kernel_rfl) (by kernel_rfl) rfl rfl (fun w1 => neq_i64 _ _ _ _ _ _ (by simp) w1) ?_
      refine chain_end (by rfl) ?_
      intro xs w6 hCw6 hrew6
      simp only [layE, List.foldr_cons, List.foldr_nil, List.set_cons_succ, List.set_cons_zero]
      have HB6 := Lib.hid (old_end HB.out hCw6 HB.out.size)
      clear hCw6 hrew6 HC
      go_wp2_with fail
      exact ⟨⟨k + 1, by omega, by simp, HB6.out⟩, by simp [intOf]; omega⟩
    · have t3 : decide (k < n) = false := decide_eq_false hlt
      go_wp2_with fail
      go_ret
      exact ⟨rfl, HB.out⟩
def fewB (m : Nat) : Bool := decide (m ≤ 40) || (decide (512 < m) && decide (m ≤ 516))
set_option maxRecDepth 100000 in
set_option maxHeartbeats 2000000 in
theorem few_any (n : Int) (a : Option Addr) (m cap : Nat) (w : World) (hl : m ≤ 9223372036854775807) :
    Calls Tryz.prog 5 #[gV n a m cap] w fun e w' => e = .returned (.bool (fewB m)) ∧ Below w.heap.size w w' := by
  have hc : (m ≤ 40 ∧ fewB m = true) ∨ (¬ m ≤ 40 ∧ ¬ 512 < m ∧ fewB m = false) ∨ (¬ m ≤ 40 ∧ 512 < m ∧ m ≤ 516 ∧ fewB m = true) ∨ (¬ m ≤ 40 ∧ 512 < m ∧ ¬ m ≤ 516 ∧ fewB m = false) := by
    unfold fewB
    by_cases h1 : m ≤ 40 <;> by_cases h2 : 512 < m <;> by_cases h3 : m ≤ 516 <;> simp [h1, h2, h3] <;> omega
  rcases hc with ⟨h1, hr⟩ | ⟨h1, h2, hr⟩ | ⟨h1, h2, h3, hr⟩ | ⟨h1, h2, h3, hr⟩
  · rw [hr]
    clear hr
    have t1 : decide (m ≤ 40) = true := decide_eq_true h1
    go_enter Tryz.func5, Tryz.ntmps5
    simp only [gV]
    go_wp2_with fail
    go_ret
    exact ⟨by first | rfl | (simp; omega), (Below.refl _ _).alloc (Nat.le_refl _) _⟩
  · rw [hr]
    clear hr
    have t1 : decide (m ≤ 40) = false := decide_eq_false h1
    have t2 : decide (512 < m) = false := decide_eq_false h2
    go_enter Tryz.func5, Tryz.ntmps5
    simp only [gV]
    go_wp2_with fail
    go_ret
    exact ⟨by first | rfl | (simp; omega), (Below.refl _ _).alloc (Nat.le_refl _) _⟩
  · rw [hr]
    clear hr
    have t1 : decide (m ≤ 40) = false := decide_eq_false h1
    have t2 : decide (512 < m) = true := decide_eq_true h2
    have t3 : decide (m ≤ 516) = true := decide_eq_true h3
    go_enter Tryz.func5, Tryz.ntmps5
    simp only [gV]
    go_wp2_with fail
    go_ret
    exact ⟨by first | rfl | (simp; omega), (Below.refl _ _).alloc (Nat.le_refl _) _⟩
  · rw [hr]
    clear hr
    have t1 : decide (m ≤ 40) = false := decide_eq_false h1
    have t2 : decide (512 < m) = true := decide_eq_true h2
    have t3 : decide (m ≤ 516) = false := decide_eq_false h3
    go_enter Tryz.func5, Tryz.ntmps5
    simp only [gV]
    go_wp2_with fail
    go_ret
    exact ⟨by first | rfl | (simp; omega), (Below.refl _ _).alloc (Nat.le_refl _) _⟩
end Go.Proofs.YtlllmoafhfjbbaaGreat
