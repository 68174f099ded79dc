/- Layer 6: slices.Equal of lists of numbers. -/
import Derived.Test.YteojbichibdhjacGreatDoorPa
namespace Go.Proofs.YteojbichibdhjacGreatDoor
set_option linter.unusedSimpArgs false
set_option linter.unusedVariables false
open Go Go.RowKit

theorem neq_i64 (t : TypeId) (x y : Operand) (a b : Int) (p : Bool) (hp : p = !decide (a = b)) (w : World) : (do eqGuard .neq t x y (.int .i64 a) (.int .i64 b); binOp .neq t (.int .i64 a) (.int .i64 b) : Sem Value).run Tryz.prog w = .ok (.bool p) w := by
  subst hp
  by_cases h : a = b
  · subst h; simp [go_sem]
  · have h2 : (a == b) = false := by rw [beq_eq_false_iff_ne]; exact h
    simp [go_sem, h, h2]
theorem idx_i64 (b o n cap k : Nat) (h : k < n) (w : World) : (Instr.indexAt 22 (.slice (some ⟨b, o, none⟩) n cap) (.int .i64 k)).run Tryz.prog w = .ok (.pointer (some ⟨b, o + k, none⟩)) w := by
  simp [go_sem, Instr.indexAt, h]
theorem load_i64 {w : World} {b o : Nat} {a : Int} (h : w.cell? ⟨b, o, none⟩ = some (.int .i64 a)) : (Instr.loadAt 3 (.pointer (some ⟨b, o, none⟩))).run Tryz.prog w = .ok (.int .i64 a) w := by
  simp [go_sem, Instr.loadAt, h]
theorem take_eq_step {l1 l2 : List Int} {k : Nat} (h1 : k < l1.length) (h2 : k < l2.length) : (l1.take (k + 1) = l2.take (k + 1)) ↔ (l1.take k = l2.take k ∧ l1[k] = l2[k]) := by
  rw [← List.take_append_getElem h1, ← List.take_append_getElem h2]
  constructor
  · intro h
    have := List.append_inj' h rfl
    exact ⟨this.1, by simpa using this.2⟩
  · rintro ⟨a, b⟩; rw [a, b]
set_option maxRecDepth 100000 in
set_option maxHeartbeats 1000000 in
theorem equal_any (a1 a2 : Option Addr) (cap1 cap2 : Nat) (l1 l2 : List Int) (w : World) (hl1 : l1.length ≤ 100000) (hl2 : l2.length ≤ 100000) (hs1 : IntsAt w a1 l1) (hs2 : IntsAt w a2 l2) :
    Calls Tryz.prog 11 #[.slice a1 l1.length cap1, .slice a2 l2.length cap2] w fun e w' => e = .returned (.bool (decide (l1 = l2))) ∧ Below w.heap.size w w' := by
  have HS1 := Lib.hid hs1
  have HS2 := Lib.hid hs2
  obtain ⟨n1, hn1⟩ : ∃ n, n = l1.length := ⟨_, rfl⟩
  obtain ⟨n2, hn2⟩ : ∃ n, n = l2.length := ⟨_, rfl⟩
  rw [← hn1] at hl1 ⊢
  rw [← hn2] at hl2 ⊢
  have HN1 := Lib.hid hn1
  have HN2 := Lib.hid hn2
  clear hs1 hs2 hn1 hn2
  by_cases hlen : n1 = n2
  case neg =>
    have HF : Hid (decide (l1 = l2) = false) := by
      rw [Hid, decide_eq_false_iff_not]; intro e; exact hlen (by rw [HN1.out, HN2.out, e])
    go_enter Tryz.func11, Tryz.ntmps11
    go_wp2
    go_ret
    exact ⟨by rw [HF.out]; rfl, Below.refl _ _⟩
  case pos =>
    subst hlen
    go_enter Tryz.func11, Tryz.ntmps11
    go_wp2_with fail
    go_loopw [13] (fun ti wr => ∃ k : Nat, k ≤ n1 ∧ ti = .int .i64 k ∧ Hid (l1.take k = l2.take k) ∧ Hid (Below w.heap.size w wr)) (fun ti _ => n1 - (intOf ti).toNat)
    case atStart => exact ⟨0, by omega, rfl, rfl, Below.refl _ _⟩
    case round =>
      obtain ⟨k, hk, rfl, HT, HB⟩ := hrel
      by_cases hlt : k < n1
      · have hk1 : k < l1.length := by rw [← HN1.out]; exact hlt
        have hk2 : k < l2.length := by rw [← HN2.out]; exact hlt
        have HST := Lib.hid (take_eq_step hk1 hk2)
        obtain ⟨b1, o1, rfl, hb1, c1⟩ := (HS1.out.below HB.out).at hk1
        obtain ⟨b2, o2, rfl, hb2, c2⟩ := (HS2.out.below HB.out).at hk2
        have HC : Hid (∀ W, Old wr.drew W → W.cell? ⟨b1, o1 + k, none⟩ = some (.int .i64 l1[k]) ∧ W.cell? ⟨b2, o2 + k, none⟩ = some (.int .i64 l2[k])) := fun W h => ⟨by rw [Below.cell h (by exact hb1)]; exact c1, by rw [Below.cell h (by exact hb2)]; exact c2⟩
        clear c1 c2 hb1 hb2
        have HE : Hid (l1[k] ≠ l2[k] → decide (l1 = l2) = false) := fun hne => by
          rw [decide_eq_false_iff_not]; intro e; subst e; exact hne rfl
        obtain ⟨x, hx⟩ : ∃ x, x = l1[k] := ⟨_, rfl⟩
        obtain ⟨y, hy⟩ : ∃ y, y = l2[k] := ⟨_, rfl⟩
        rw [← hx, ← hy] at HC HST HE
        clear hx hy hk1 hk2
        have t1 : decide (k < n1) = true := decide_eq_true hlt
        obtain ⟨p, hp⟩ : ∃ p, p = !decide (x = y) := ⟨_, rfl⟩
        have HP := Lib.hid hp
        clear hp
        go_upto_region 6 with (fail)
        refine wp_region_old 9 26 (by kernel_rfl) (by kernel_rfl) (by rfl) ?_
        simp only [List.take_succ_cons, List.take_zero, List.drop_succ_cons, List.drop_zero, List.drop_nil]
        refine chain_move (.slice (some ⟨b1, o1, none⟩) n1 cap1) _ (fun _ _ => Below.refl _ _) rfl rfl (by kernel_rfl) (by kernel_rfl) rfl ?_
        refine chain_move (.int .i64 k) _ (fun _ _ => Below.refl _ _) rfl rfl (by kernel_rfl) (by kernel_rfl) rfl ?_
        refine chain_idx (.pointer (some ⟨b1, o1 + k, none⟩)) _ _ _ (.slice (some ⟨b1, o1, none⟩) n1 cap1) (.int .i64 k) (fun _ _ => Below.refl _ _) rfl rfl (by kernel_rfl) (by kernel_rfl) rfl rfl (fun w1 => idx_i64 _ _ _ _ _ hlt w1) ?_
        refine chain_load (.int .i64 x) _ _ _ (fun _ _ => Below.refl _ _) rfl rfl (by kernel_rfl) (by kernel_rfl) rfl (fun w1 hC => load_i64 (HC.out _ hC).1) ?_
        refine chain_move (.slice (some ⟨b2, o2, none⟩) n1 cap2) _ (fun _ _ => Below.refl _ _) rfl rfl (by kernel_rfl) (by kernel_rfl) rfl ?_
        refine chain_move (.int .i64 k) _ (fun _ _ => Below.refl _ _) rfl rfl (by kernel_rfl) (by kernel_rfl) rfl ?_
        refine chain_idx (.pointer (some ⟨b2, o2 + k, none⟩)) _ _ _ (.slice (some ⟨b2, o2, none⟩) n1 cap2) (.int .i64 k) (fun _ _ => Below.refl _ _) rfl rfl (by kernel_rfl) (by kernel_rfl) rfl rfl (fun w1 => idx_i64 _ _ _ _ _ hlt w1) ?_
        refine chain_load (.int .i64 y) _ _ _ (fun _ _ => Below.refl _ _) rfl rfl (by kernel_rfl) (by kernel_rfl) rfl (fun w1 hC => load_i64 (HC.out _ hC).2) ?_
        refine chain_bin (.bool p) _ _ _ _ _ (.int .i64 x) (.int .i64 y) (fun _ _ => Below.refl _ _) rfl rfl (by kernel_rfl) (by kernel_rfl) rfl rfl (fun w1 => neq_i64 _ _ _ _ _ _ HP.out w1) ?_
        refine chain_end (by rfl) ?_
        intro xs w6 hCw6 hrew6
        simp only [layE, List.foldr_cons, List.foldr_nil, List.set_cons_succ, List.set_cons_zero]
        have HB6 := Lib.hid (old_end HB.out hCw6 HB.out.size)
        clear HC hCw6 hrew6
        cases p
        · have hxy : x = y := by simpa using HP.out
          have HN : Hid (l1.take (k + 1) = l2.take (k + 1)) := HST.out.2 ⟨HT.out, hxy⟩
          clear hxy
          go_wp2_with fail
          exact ⟨⟨k + 1, by omega, by simp, HN.out, HB6.out⟩, by simp [intOf]; omega⟩
        · have hxy : x ≠ y := by simpa using HP.out
          have HF := Lib.hid (HE.out hxy)
          clear hxy
          go_wp2_with fail
          go_ret
          exact ⟨by rw [HF.out]; rfl, HB6.out⟩
      · have HF : Hid (decide (l1 = l2) = true) := by
          have := HT.out
          rw [List.take_of_length_le (by rw [← HN1.out]; omega), List.take_of_length_le (by rw [← HN2.out]; omega)] at this
          rw [Hid, decide_eq_true_eq]; exact this
        have t1 : decide (k < n1) = false := decide_eq_false hlt
        go_wp2_with fail
        go_ret
        exact ⟨by rw [HF.out]; rfl, HB.out⟩
end Go.Proofs.YteojbichibdhjacGreatDoor
