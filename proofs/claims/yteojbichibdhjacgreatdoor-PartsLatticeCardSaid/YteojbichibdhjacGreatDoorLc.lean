/- Layer 6: slices.Index of pairs, and the program's normal form of them. -/
import Derived.Test.YteojbichibdhjacGreatDoorLb
namespace Go.Proofs.YteojbichibdhjacGreatDoor
set_option linter.unusedSimpArgs false
set_option linter.unusedVariables false
open Go Go.RowKit

set_option maxRecDepth 100000 in
set_option maxHeartbeats 2000000 in
theorem indexP_any (x : Int) (a : Option Addr) (cap : Nat) (ls : List Int) (w : World) (hl : ls.length ≤ 100000) (hs : CdAt w a ls) :
    Calls Tryz.prog 58 #[.slice a ls.length cap, pV x] w fun e w' => e = .returned (.int .i64 (ixI ls x)) ∧ Below w.heap.size w w' := by
  have HS := Lib.hid hs
  obtain ⟨n, hn⟩ : ∃ n, n = ls.length := ⟨_, rfl⟩
  rw [← hn] at hl ⊢
  have HN := Lib.hid hn
  clear hs hn
  obtain ⟨R, hR⟩ : ∃ R, R = ixI ls x := ⟨_, rfl⟩
  have HRR := Lib.hid hR
  rw [← hR]
  clear hR
  go_enter Tryz.func58, Tryz.ntmps58
  simp only [pV]
  go_wp2_with fail
  go_loopw [8] (fun ti wr => ∃ k : Nat, k ≤ n ∧ ti = .int .i64 k ∧ Hid (ixF ls x 0 = ixF (ls.drop k) x k) ∧ Hid (Blk wr w.heap.size [.int .i64 (cA x), .int .i64 (cB x)] 81) ∧ Hid (Below w.heap.size w wr)) (fun ti _ => n - (intOf ti).toNat)
  case atStart => exact ⟨0, by omega, rfl, by rw [Hid, List.drop_zero], Blk.new w _ _, (Below.refl _ _).alloc (Nat.le_refl _) _⟩
  case round =>
    obtain ⟨k, hk, rfl, HI, HK, HB⟩ := hrel
    by_cases hlt : k < n
    · have hkl : k < ls.length := by rw [← HN.out]; exact hlt
      obtain ⟨lb, lo, rfl, hlb, c0, c1⟩ := (HS.out.below HB.out).at hkl
      have HD := Lib.hid (ixF_drop (x := x) hkl)
      obtain ⟨y, hy⟩ : ∃ y, y = ls[k] := ⟨_, rfl⟩
      rw [Hid, ← hy] at HD
      rw [← hy] at c0 c1
      obtain ⟨b3, hb3⟩ : ∃ b3, b3 = w.heap.size := ⟨_, rfl⟩
      have HB3 := Lib.hid hb3
      rw [← hb3] at HK ⊢
      have HX : Hid (∀ W, (clOld wr.drew).C W → (Instr.loadAt 81 (.pointer (some ⟨b3, 0, none⟩))).run Tryz.prog W = .ok (pV x) W ∧ (Instr.loadAt 81 (.pointer (some ⟨lb, lo + k * 2, none⟩))).run Tryz.prog W = .ok (pV y) W) := fun W hC => by
        have hb : Below wr.heap.size wr W := old_end (Below.refl _ _) hC (Nat.le_refl _)
        have k3 := HK.out.below hb
        exact ⟨load_p (k3.cell rfl) (k3.cell rfl), load_p (by rw [hb.cell (by exact hlb)]; exact c0) (by rw [hb.cell (by exact hlb)]; exact c1)⟩
      have HLT : Hid (k < n) := hlt
      clear hy hkl c0 c1 hlb hb3
      have t3 : decide (k < n) = true := decide_eq_true hlt
      by_cases hxy : x = y
      · have HR : Hid (R = (k : Int)) := by
          have h1 := HI.out
          rw [HD, if_pos hxy] at h1
          rw [Hid, HRR.out, ixI, h1]
        have HQ : Hid (true = decide (x = y)) := (decide_eq_true hxy).symm
        clear HD HI hxy
        go_upto_region 4 with (fail)
        refine wp_region_old 6 19 (by kernel_rfl) (by kernel_rfl) (by rfl) ?_
        simp only [List.take_succ_cons, List.take_zero, List.drop_succ_cons, List.drop_zero, List.drop_nil]
        refine chain_load (pV x) _ _ _ (fun _ _ => Below.refl _ _) rfl rfl (by kernel_rfl) (by kernel_rfl) rfl (fun w1 hC => (HX.out w1 hC).1) ?_
        refine chain_move (.slice (some ⟨lb, lo, none⟩) n cap) _ (fun _ _ => Below.refl _ _) rfl rfl (by kernel_rfl) (by kernel_rfl) rfl ?_
        refine chain_move (.int .i64 k) _ (fun _ _ => Below.refl _ _) rfl rfl (by kernel_rfl) (by kernel_rfl) rfl ?_
        refine chain_idx (.pointer (some ⟨lb, lo + k * 2, none⟩)) _ _ _ (.slice (some ⟨lb, lo, none⟩) n cap) (.int .i64 k) (fun _ _ => Below.refl _ _) rfl rfl (by kernel_rfl) (by kernel_rfl) rfl rfl (fun w1 => idx_p _ _ _ _ _ HLT.out w1) ?_
        refine chain_load (pV y) _ _ _ (fun _ _ => Below.refl _ _) rfl rfl (by kernel_rfl) (by kernel_rfl) rfl (fun w1 hC => (HX.out w1 hC).2) ?_
        refine chain_bin (.bool true) _ _ _ _ _ (pV x) (pV y) (fun _ _ => Below.refl _ _) rfl rfl (by kernel_rfl) (by kernel_rfl) rfl rfl (fun w1 => eql_p _ _ _ _ _ HQ.out w1) ?_
        refine chain_end (by rfl) ?_
        intro xs w1 hCw1 hrew1
        simp only [layE, List.foldr_cons, List.foldr_nil, List.set_cons_succ, List.set_cons_zero]
        have HB1 := Lib.hid (old_end HB.out hCw1 HB.out.size)
        clear hCw1 hrew1 HX
        go_wp2_with fail
        go_ret
        exact ⟨by rw [HR.out]; rfl, HB1.out⟩
      · have HNX : Hid (ixF ls x 0 = ixF (ls.drop (k + 1)) x (k + 1)) := by
          have h1 := HI.out
          rw [HD, if_neg hxy] at h1
          exact h1
        have HQ : Hid (false = decide (x = y)) := (decide_eq_false hxy).symm
        clear HD HI hxy
        go_upto_region 4 with (fail)
        refine wp_region_old 6 19 (by kernel_rfl) (by kernel_rfl) (by rfl) ?_
        simp only [List.take_succ_cons, List.take_zero, List.drop_succ_cons, List.drop_zero, List.drop_nil]
        refine chain_load (pV x) _ _ _ (fun _ _ => Below.refl _ _) rfl rfl (by kernel_rfl) (by kernel_rfl) rfl (fun w1 hC => (HX.out w1 hC).1) ?_
        refine chain_move (.slice (some ⟨lb, lo, none⟩) n cap) _ (fun _ _ => Below.refl _ _) rfl rfl (by kernel_rfl) (by kernel_rfl) rfl ?_
        refine chain_move (.int .i64 k) _ (fun _ _ => Below.refl _ _) rfl rfl (by kernel_rfl) (by kernel_rfl) rfl ?_
        refine chain_idx (.pointer (some ⟨lb, lo + k * 2, none⟩)) _ _ _ (.slice (some ⟨lb, lo, none⟩) n cap) (.int .i64 k) (fun _ _ => Below.refl _ _) rfl rfl (by kernel_rfl) (by kernel_rfl) rfl rfl (fun w1 => idx_p _ _ _ _ _ HLT.out w1) ?_
        refine chain_load (pV y) _ _ _ (fun _ _ => Below.refl _ _) rfl rfl (by kernel_rfl) (by kernel_rfl) rfl (fun w1 hC => (HX.out w1 hC).2) ?_
        refine chain_bin (.bool false) _ _ _ _ _ (pV x) (pV y) (fun _ _ => Below.refl _ _) rfl rfl (by kernel_rfl) (by kernel_rfl) rfl rfl (fun w1 => eql_p _ _ _ _ _ HQ.out w1) ?_
        refine chain_end (by rfl) ?_
        intro xs w1 hCw1 hrew1
        simp only [layE, List.foldr_cons, List.foldr_nil, List.set_cons_succ, List.set_cons_zero]
        have HB1 := Lib.hid (old_end HB.out hCw1 HB.out.size)
        have HK1 := Lib.hid (HK.out.below (show Below wr.heap.size wr w1 from old_end (Below.refl _ _) hCw1 (Nat.le_refl _)))
        clear hCw1 hrew1 HX
        go_wp2_with fail
        rw [HB3.out] at *
        exact ⟨⟨k + 1, by omega, by simp, HNX.out, HK1.out, HB1.out⟩, by simp [intOf]; omega⟩
    · have HR : Hid (R = -1) := by
        have h1 := HI.out
        rw [List.drop_of_length_le (by rw [← HN.out]; omega)] at h1
        rw [Hid, HRR.out, ixI, h1]; rfl
      have t3 : decide (k < n) = false := decide_eq_false hlt
      go_wp2_with fail
      go_ret
      exact ⟨by rw [HR.out]; rfl, HB.out⟩
end Go.Proofs.YteojbichibdhjacGreatDoor
