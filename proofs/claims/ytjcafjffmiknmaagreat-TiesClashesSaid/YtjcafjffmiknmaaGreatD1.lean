/- Layer 4: the specification's Clashes. -/
import Derived.Test.YtjcafjffmiknmaaGreatCn
import Derived.Test.YtjcafjffmiknmaaGreatKd
namespace Go.Proofs.YtjcafjffmiknmaaGreat
set_option linter.unusedSimpArgs false
set_option linter.unusedVariables false
open Go Go.RowKit

set_option maxRecDepth 100000 in
set_option maxHeartbeats 4000000 in
theorem rClashes_any (k : Nat) (a : Option Addr) (cap : Nat) (ts : List TieD) (w : World) (hk : k ≤ 32) (hl : ts.length ≤ 512) (hv : ∀ t ∈ ts, tieB t k = true) (hs : TiesAt w a ts) :
    Calls Tryz.prog 21 #[.agg #[.int .i64 k, .slice a ts.length cap]] w fun e w' => e = .returned (.bool (conF k ts)) ∧ Below w.heap.size w w' := by
  have HGR : Hid (∀ W, Below w.heap.size w W → Calls Tryz.prog 41 #[.agg #[.int .i64 k, .slice a ts.length cap]] W fun e w' => ∃ g, e = .returned (.slice (some ⟨g, 0, none⟩) k k) ∧ NB w' g (grpL k ts) ∧ Below W.heap.size W w') := fun W hb => (rGroups_any k a cap ts W hk hl hv (hs.below hb)).mono fun e w' ⟨g, h1, _, h3, h4⟩ => ⟨g, h1, h3, h4⟩
  have HS := Lib.hid hs
  have HV := Lib.hid hv
  obtain ⟨m, hm⟩ : ∃ m, m = ts.length := ⟨_, rfl⟩
  have HM := Lib.hid hm
  have hLk : (grpL k ts).length = k := grpL_len k ts
  obtain ⟨E, hE⟩ : ∃ E, E = conF k ts := ⟨_, rfl⟩
  have HE : Hid (E = ts.any (wrB (grpL k ts))) := hE
  obtain ⟨L, hL⟩ : ∃ L, L = grpL k ts := ⟨_, rfl⟩
  rw [← hL] at HGR HE hLk
  have HLK := Lib.hid hLk
  rw [← hm] at HGR hl ⊢
  rw [← hE]
  have FB := Lib.hid (FA.new w [.int .i64 k, .slice a m cap])
  have HKK := Lib.hid hk
  clear hs hv hm hE hL hLk hk
  go_enter Tryz.func21, Tryz.ntmps21
  go_wp2_with (first | (go_at_call 41; go_loud (refine (HGR.out _ FB.out.2).mono ?_; rintro e w1 ⟨g, rfl, hg, hb⟩; clear HGR; replace FB := Lib.hid (FB.out.below hb); have HG := Lib.hid hg; clear hb hg)))
  have HN0 : Hid ((ts.take 0).any (wrB L) = false) := rfl
  go_loopg [4] m (fun gk t4 wr => ∃ j : Nat, j + gk = m ∧ t4 = .int .i64 j ∧ Hid ((ts.take j).any (wrB L) = false) ∧ Hid (NB wr g L) ∧ Hid (FA w wr [.int .i64 k, .slice a m cap]))
  case atStart => exact ⟨0, by omega, rfl, HN0, HG, FB⟩
  case round =>
    clear HN0 HG FB
    obtain ⟨j, hjg, rfl, HN, HG, FB⟩ := hrel
    have c1 := FB.out.1.cell (i := 1) rfl
    by_cases hlt : j < m
    · have hjl : j < ts.length := by rw [← HM.out]; exact hlt
      obtain ⟨t, ht⟩ : ∃ t, t = ts[j] := ⟨_, rfl⟩
      have htm : t ∈ ts := by rw [ht]; exact List.getElem_mem hjl
      have HST : Hid ((ts.take (j + 1)).any (wrB L) = wrB L t) := by rw [Hid, any_step hjl, HN.out, ← ht]; rfl
      have HBD : Hid (wrB L t = true → E = true) := fun h => by rw [HE.out]; exact List.any_eq_true.2 ⟨t, htm, h⟩
      obtain ⟨lb, lo, rfl, hlb, c0, c2, c3, c4, c5⟩ := (HS.out.below FB.out.2).at hjl
      rw [← ht] at c0 c2 c3 c4 c5
      obtain ⟨g0, _, g1, _, g2, g3⟩ := tieB_in (HV.out t htm)
      clear hjl ht htm
      obtain ⟨za, zb, zk, zs, zr⟩ := t
      simp only at c0 c2 c3 c4 c5 g0 g1 g2 g3
      obtain ⟨xa, rfl⟩ := Int.eq_ofNat_of_zero_le g0
      obtain ⟨xb, rfl⟩ := Int.eq_ofNat_of_zero_le g1
      have HXB : Hid (xa < k ∧ xb < k) := ⟨by omega, by omega⟩
      have pa1 := HG.out.cell (atI_some (l := L) (i := (xa : Int)) (by rw [HLK.out]; omega))
      have pb1 := HG.out.cell (atI_some (l := L) (i := (xb : Int)) (by rw [HLK.out]; omega))
      rw [Int.toNat_natCast] at pa1 pb1
      have HWR : Hid (wrB L ⟨xa, xb, zk, zs, zr⟩ = (zk == 1 && atI L xa == atI L xb)) := rfl
      generalize atI L xa = u at *
      generalize atI L xb = v at *
      have HC0 := Lib.hid c0
      have HC2 := Lib.hid c2
      have HC3 := Lib.hid c3
      have HPA := Lib.hid pa1
      have HPB := Lib.hid pb1
      have HPL := Lib.hid HG.out.lt
      have HLL := Lib.hid hlb
      have HJM := Lib.hid hlt
      clear g0 g1 g2 g3 pa1 pb1 c0 c2 c3 c4 c5 hlb
      have HOWD : Hid (∀ w1, (clOld wr.drew).C w1 → Below wr.heap.size wr w1) := fun w1 hC => old_end (Below.refl _ _) hC (Nat.le_refl _)
      have HPX : Hid (∀ w1 x y, (clOld wr.drew).C w1 → wr.cell? ⟨g, x, none⟩ = some y → w1.cell? ⟨g, x, none⟩ = some y) := fun w1 x y hC h => by rw [Below.cell (HOWD.out w1 hC) (by exact HPL.out)]; exact h
      have HLX : Hid (∀ w1 x y, (clOld wr.drew).C w1 → wr.cell? ⟨lb, x, none⟩ = some y → w1.cell? ⟨lb, x, none⟩ = some y) := fun w1 x y hC h => by rw [Below.cell (HOWD.out w1 hC) (by exact HLL.out)]; exact h
      go_upto_region 5 with (fail)
      clear c1
      by_cases hk1 : zk = 1
      · have HDK : Hid (true = decide (zk = 1)) := by simp [Hid, hk1]
        by_cases hd : u = v
        · have HDD : Hid (true = decide (u = v)) := by simp [Hid, hd]
          have HBAD : Hid (E = true) := HBD.out (by rw [HWR.out]; simp [hk1, hd])
          clear hd hk1 HST HBD
          refine wp_region_old 28 42 (by kernel_rfl) (by kernel_rfl) (by rfl) ?_
          simp only [List.take_succ_cons, List.take_zero, List.drop_succ_cons, List.drop_zero, List.drop_nil]
          refine chain_val (.pointer (some ⟨w.heap.size, 1, none⟩)) (fun _ _ => Below.refl _ _) rfl (by intro cs b h; cases h) (by kernel_rfl) (by kernel_rfl) (fun w1 _ => by simp [execOp, evE, lk_cons, lk_nil, slotL, go_sem]) ?_
          refine chain_load (.slice (some ⟨lb, lo, none⟩) m cap) _ _ _ (fun _ _ => Below.refl _ _) rfl rfl (by kernel_rfl) (by kernel_rfl) rfl (fun w1 hC => load_slt ((FB.out.1.below (HOWD.out w1 hC)).cell rfl)) ?_
          refine chain_move (.int .i64 j) _ (fun _ _ => Below.refl _ _) rfl rfl (by kernel_rfl) (by kernel_rfl) rfl ?_
          refine chain_idx (.pointer (some ⟨lb, lo + j * 5, none⟩)) _ _ _ (.slice (some ⟨lb, lo, none⟩) m cap) (.int .i64 j) (fun _ _ => Below.refl _ _) rfl rfl (by kernel_rfl) (by kernel_rfl) rfl rfl (fun w1 => idx_tie _ _ _ _ _ HJM.out w1) ?_
          refine chain_val (.pointer (some ⟨lb, lo + j * 5 + 2, none⟩)) (fun _ _ => Below.refl _ _) rfl (by intro cs b h; cases h) (by kernel_rfl) (by kernel_rfl) (fun w1 _ => by simp [execOp, evE, lk_cons, lk_nil, slotL, go_sem]) ?_
          refine chain_load (.int .i64 zk) _ _ _ (fun _ _ => Below.refl _ _) rfl rfl (by kernel_rfl) (by kernel_rfl) rfl (fun w1 hC => load_i64 (HLX.out w1 _ _ hC HC3.out)) ?_
          refine chain_bin (.bool true) _ _ _ _ _ (.int .i64 zk) (.int .i64 1) (fun _ _ => Below.refl _ _) rfl rfl (by kernel_rfl) (by kernel_rfl) rfl rfl (fun w1 => eql_i64 _ _ _ _ _ _ HDK.out w1) ?_
          refine chain_move (.bool true) _ (fun _ _ => Below.refl _ _) rfl rfl (by kernel_rfl) (by kernel_rfl) rfl ?_
          refine chain_move (.slice (some ⟨g, 0, none⟩) k k) _ (fun _ _ => Below.refl _ _) rfl rfl (by kernel_rfl) (by kernel_rfl) rfl ?_
          refine chain_val (.pointer (some ⟨w.heap.size, 1, none⟩)) (fun _ _ => Below.refl _ _) rfl (by intro cs b h; cases h) (by kernel_rfl) (by kernel_rfl) (fun w1 _ => by simp [execOp, evE, lk_cons, lk_nil, slotL, go_sem]) ?_
          refine chain_load (.slice (some ⟨lb, lo, none⟩) m cap) _ _ _ (fun _ _ => Below.refl _ _) rfl rfl (by kernel_rfl) (by kernel_rfl) rfl (fun w1 hC => load_slt ((FB.out.1.below (HOWD.out w1 hC)).cell rfl)) ?_
          refine chain_move (.int .i64 j) _ (fun _ _ => Below.refl _ _) rfl rfl (by kernel_rfl) (by kernel_rfl) rfl ?_
          refine chain_idx (.pointer (some ⟨lb, lo + j * 5, none⟩)) _ _ _ (.slice (some ⟨lb, lo, none⟩) m cap) (.int .i64 j) (fun _ _ => Below.refl _ _) rfl rfl (by kernel_rfl) (by kernel_rfl) rfl rfl (fun w1 => idx_tie _ _ _ _ _ HJM.out w1) ?_
          refine chain_val (.pointer (some ⟨lb, lo + j * 5, none⟩)) (fun _ _ => Below.refl _ _) rfl (by intro cs b h; cases h) (by kernel_rfl) (by kernel_rfl) (fun w1 _ => by simp [execOp, evE, lk_cons, lk_nil, slotL, go_sem]) ?_
          refine chain_load (.int .i64 xa) _ _ _ (fun _ _ => Below.refl _ _) rfl rfl (by kernel_rfl) (by kernel_rfl) rfl (fun w1 hC => load_i64 (HLX.out w1 _ _ hC HC0.out)) ?_
          refine chain_idx (.pointer (some ⟨g, 0 + xa, none⟩)) _ _ _ (.slice (some ⟨g, 0, none⟩) k k) (.int .i64 xa) (fun _ _ => Below.refl _ _) rfl rfl (by kernel_rfl) (by kernel_rfl) rfl rfl (fun w1 => idx_i64 _ _ _ _ _ HXB.out.1 w1) ?_
          refine chain_load (.int .i64 u) _ _ _ (fun _ _ => Below.refl _ _) rfl rfl (by kernel_rfl) (by kernel_rfl) rfl (fun w1 hC => load_i64 (by rw [Nat.zero_add]; exact HPX.out w1 _ _ hC HPA.out)) ?_
          refine chain_move (.slice (some ⟨g, 0, none⟩) k k) _ (fun _ _ => Below.refl _ _) rfl rfl (by kernel_rfl) (by kernel_rfl) rfl ?_
          refine chain_val (.pointer (some ⟨w.heap.size, 1, none⟩)) (fun _ _ => Below.refl _ _) rfl (by intro cs b h; cases h) (by kernel_rfl) (by kernel_rfl) (fun w1 _ => by simp [execOp, evE, lk_cons, lk_nil, slotL, go_sem]) ?_
          refine chain_load (.slice (some ⟨lb, lo, none⟩) m cap) _ _ _ (fun _ _ => Below.refl _ _) rfl rfl (by kernel_rfl) (by kernel_rfl) rfl (fun w1 hC => load_slt ((FB.out.1.below (HOWD.out w1 hC)).cell rfl)) ?_
          refine chain_move (.int .i64 j) _ (fun _ _ => Below.refl _ _) rfl rfl (by kernel_rfl) (by kernel_rfl) rfl ?_
          refine chain_idx (.pointer (some ⟨lb, lo + j * 5, none⟩)) _ _ _ (.slice (some ⟨lb, lo, none⟩) m cap) (.int .i64 j) (fun _ _ => Below.refl _ _) rfl rfl (by kernel_rfl) (by kernel_rfl) rfl rfl (fun w1 => idx_tie _ _ _ _ _ HJM.out w1) ?_
          refine chain_val (.pointer (some ⟨lb, lo + j * 5 + 1, none⟩)) (fun _ _ => Below.refl _ _) rfl (by intro cs b h; cases h) (by kernel_rfl) (by kernel_rfl) (fun w1 _ => by simp [execOp, evE, lk_cons, lk_nil, slotL, go_sem]) ?_
          refine chain_load (.int .i64 xb) _ _ _ (fun _ _ => Below.refl _ _) rfl rfl (by kernel_rfl) (by kernel_rfl) rfl (fun w1 hC => load_i64 (HLX.out w1 _ _ hC HC2.out)) ?_
          refine chain_idx (.pointer (some ⟨g, 0 + xb, none⟩)) _ _ _ (.slice (some ⟨g, 0, none⟩) k k) (.int .i64 xb) (fun _ _ => Below.refl _ _) rfl rfl (by kernel_rfl) (by kernel_rfl) rfl rfl (fun w1 => idx_i64 _ _ _ _ _ HXB.out.2 w1) ?_
          refine chain_load (.int .i64 v) _ _ _ (fun _ _ => Below.refl _ _) rfl rfl (by kernel_rfl) (by kernel_rfl) rfl (fun w1 hC => load_i64 (by rw [Nat.zero_add]; exact HPX.out w1 _ _ hC HPB.out)) ?_
          refine chain_bin (.bool true) _ _ _ _ _ (.int .i64 u) (.int .i64 v) (fun _ _ => Below.refl _ _) rfl rfl (by kernel_rfl) (by kernel_rfl) rfl rfl (fun w1 => eql_i64 _ _ _ _ _ _ HDD.out w1) ?_
          refine chain_pick (.bool true) _ _ _ true (fun _ _ => Below.refl _ _) rfl rfl (by kernel_rfl) (by kernel_rfl) rfl rfl ?_
          refine chain_end (by rfl) ?_
          intro xs w5 hCw5 hrew5
          simp only [layE, List.foldr_cons, List.foldr_nil, List.set_cons_succ, List.set_cons_zero]
          have HY := Lib.hid (HOWD.out w5 hCw5)
          clear hCw5 hrew5 HOWD HPX HLX
          go_wp2_with fail
          go_ret
          exact ⟨by rw [HBAD.out]; rfl, FB.out.2.trans (HY.out.mono FB.out.2.size)⟩
        · have HDD : Hid (false = decide (u = v)) := by simp [Hid, hd]
          have HST2 : Hid ((ts.take (j + 1)).any (wrB L) = false) := by rw [Hid, HST.out, HWR.out]; simp [hd]
          clear hd hk1 HST HWR HBD
          refine wp_region_old 28 42 (by kernel_rfl) (by kernel_rfl) (by rfl) ?_
          simp only [List.take_succ_cons, List.take_zero, List.drop_succ_cons, List.drop_zero, List.drop_nil]
          refine chain_val (.pointer (some ⟨w.heap.size, 1, none⟩)) (fun _ _ => Below.refl _ _) rfl (by intro cs b h; cases h) (by kernel_rfl) (by kernel_rfl) (fun w1 _ => by simp [execOp, evE, lk_cons, lk_nil, slotL, go_sem]) ?_
          refine chain_load (.slice (some ⟨lb, lo, none⟩) m cap) _ _ _ (fun _ _ => Below.refl _ _) rfl rfl (by kernel_rfl) (by kernel_rfl) rfl (fun w1 hC => load_slt ((FB.out.1.below (HOWD.out w1 hC)).cell rfl)) ?_
          refine chain_move (.int .i64 j) _ (fun _ _ => Below.refl _ _) rfl rfl (by kernel_rfl) (by kernel_rfl) rfl ?_
          refine chain_idx (.pointer (some ⟨lb, lo + j * 5, none⟩)) _ _ _ (.slice (some ⟨lb, lo, none⟩) m cap) (.int .i64 j) (fun _ _ => Below.refl _ _) rfl rfl (by kernel_rfl) (by kernel_rfl) rfl rfl (fun w1 => idx_tie _ _ _ _ _ HJM.out w1) ?_
          refine chain_val (.pointer (some ⟨lb, lo + j * 5 + 2, none⟩)) (fun _ _ => Below.refl _ _) rfl (by intro cs b h; cases h) (by kernel_rfl) (by kernel_rfl) (fun w1 _ => by simp [execOp, evE, lk_cons, lk_nil, slotL, go_sem]) ?_
          refine chain_load (.int .i64 zk) _ _ _ (fun _ _ => Below.refl _ _) rfl rfl (by kernel_rfl) (by kernel_rfl) rfl (fun w1 hC => load_i64 (HLX.out w1 _ _ hC HC3.out)) ?_
          refine chain_bin (.bool true) _ _ _ _ _ (.int .i64 zk) (.int .i64 1) (fun _ _ => Below.refl _ _) rfl rfl (by kernel_rfl) (by kernel_rfl) rfl rfl (fun w1 => eql_i64 _ _ _ _ _ _ HDK.out w1) ?_
          refine chain_move (.bool true) _ (fun _ _ => Below.refl _ _) rfl rfl (by kernel_rfl) (by kernel_rfl) rfl ?_
          refine chain_move (.slice (some ⟨g, 0, none⟩) k k) _ (fun _ _ => Below.refl _ _) rfl rfl (by kernel_rfl) (by kernel_rfl) rfl ?_
          refine chain_val (.pointer (some ⟨w.heap.size, 1, none⟩)) (fun _ _ => Below.refl _ _) rfl (by intro cs b h; cases h) (by kernel_rfl) (by kernel_rfl) (fun w1 _ => by simp [execOp, evE, lk_cons, lk_nil, slotL, go_sem]) ?_
          refine chain_load (.slice (some ⟨lb, lo, none⟩) m cap) _ _ _ (fun _ _ => Below.refl _ _) rfl rfl (by kernel_rfl) (by kernel_rfl) rfl (fun w1 hC => load_slt ((FB.out.1.below (HOWD.out w1 hC)).cell rfl)) ?_
          refine chain_move (.int .i64 j) _ (fun _ _ => Below.refl _ _) rfl rfl (by kernel_rfl) (by kernel_rfl) rfl ?_
          refine chain_idx (.pointer (some ⟨lb, lo + j * 5, none⟩)) _ _ _ (.slice (some ⟨lb, lo, none⟩) m cap) (.int .i64 j) (fun _ _ => Below.refl _ _) rfl rfl (by kernel_rfl) (by kernel_rfl) rfl rfl (fun w1 => idx_tie _ _ _ _ _ HJM.out w1) ?_
          refine chain_val (.pointer (some ⟨lb, lo + j * 5, none⟩)) (fun _ _ => Below.refl _ _) rfl (by intro cs b h; cases h) (by kernel_rfl) (by kernel_rfl) (fun w1 _ => by simp [execOp, evE, lk_cons, lk_nil, slotL, go_sem]) ?_
          refine chain_load (.int .i64 xa) _ _ _ (fun _ _ => Below.refl _ _) rfl rfl (by kernel_rfl) (by kernel_rfl) rfl (fun w1 hC => load_i64 (HLX.out w1 _ _ hC HC0.out)) ?_
          refine chain_idx (.pointer (some ⟨g, 0 + xa, none⟩)) _ _ _ (.slice (some ⟨g, 0, none⟩) k k) (.int .i64 xa) (fun _ _ => Below.refl _ _) rfl rfl (by kernel_rfl) (by kernel_rfl) rfl rfl (fun w1 => idx_i64 _ _ _ _ _ HXB.out.1 w1) ?_
          refine chain_load (.int .i64 u) _ _ _ (fun _ _ => Below.refl _ _) rfl rfl (by kernel_rfl) (by kernel_rfl) rfl (fun w1 hC => load_i64 (by rw [Nat.zero_add]; exact HPX.out w1 _ _ hC HPA.out)) ?_
          refine chain_move (.slice (some ⟨g, 0, none⟩) k k) _ (fun _ _ => Below.refl _ _) rfl rfl (by kernel_rfl) (by kernel_rfl) rfl ?_
          refine chain_val (.pointer (some ⟨w.heap.size, 1, none⟩)) (fun _ _ => Below.refl _ _) rfl (by intro cs b h; cases h) (by kernel_rfl) (by kernel_rfl) (fun w1 _ => by simp [execOp, evE, lk_cons, lk_nil, slotL, go_sem]) ?_
          refine chain_load (.slice (some ⟨lb, lo, none⟩) m cap) _ _ _ (fun _ _ => Below.refl _ _) rfl rfl (by kernel_rfl) (by kernel_rfl) rfl (fun w1 hC => load_slt ((FB.out.1.below (HOWD.out w1 hC)).cell rfl)) ?_
          refine chain_move (.int .i64 j) _ (fun _ _ => Below.refl _ _) rfl rfl (by kernel_rfl) (by kernel_rfl) rfl ?_
          refine chain_idx (.pointer (some ⟨lb, lo + j * 5, none⟩)) _ _ _ (.slice (some ⟨lb, lo, none⟩) m cap) (.int .i64 j) (fun _ _ => Below.refl _ _) rfl rfl (by kernel_rfl) (by kernel_rfl) rfl rfl (fun w1 => idx_tie _ _ _ _ _ HJM.out w1) ?_
          refine chain_val (.pointer (some ⟨lb, lo + j * 5 + 1, none⟩)) (fun _ _ => Below.refl _ _) rfl (by intro cs b h; cases h) (by kernel_rfl) (by kernel_rfl) (fun w1 _ => by simp [execOp, evE, lk_cons, lk_nil, slotL, go_sem]) ?_
          refine chain_load (.int .i64 xb) _ _ _ (fun _ _ => Below.refl _ _) rfl rfl (by kernel_rfl) (by kernel_rfl) rfl (fun w1 hC => load_i64 (HLX.out w1 _ _ hC HC2.out)) ?_
          refine chain_idx (.pointer (some ⟨g, 0 + xb, none⟩)) _ _ _ (.slice (some ⟨g, 0, none⟩) k k) (.int .i64 xb) (fun _ _ => Below.refl _ _) rfl rfl (by kernel_rfl) (by kernel_rfl) rfl rfl (fun w1 => idx_i64 _ _ _ _ _ HXB.out.2 w1) ?_
          refine chain_load (.int .i64 v) _ _ _ (fun _ _ => Below.refl _ _) rfl rfl (by kernel_rfl) (by kernel_rfl) rfl (fun w1 hC => load_i64 (by rw [Nat.zero_add]; exact HPX.out w1 _ _ hC HPB.out)) ?_
          refine chain_bin (.bool false) _ _ _ _ _ (.int .i64 u) (.int .i64 v) (fun _ _ => Below.refl _ _) rfl rfl (by kernel_rfl) (by kernel_rfl) rfl rfl (fun w1 => eql_i64 _ _ _ _ _ _ HDD.out w1) ?_
          refine chain_pick (.bool false) _ _ _ true (fun _ _ => Below.refl _ _) rfl rfl (by kernel_rfl) (by kernel_rfl) rfl rfl ?_
          refine chain_end (by rfl) ?_
          intro xs w5 hCw5 hrew5
          simp only [layE, List.foldr_cons, List.foldr_nil, List.set_cons_succ, List.set_cons_zero]
          have HY := Lib.hid (HOWD.out w5 hCw5)
          clear hCw5 hrew5 HOWD HPX HLX
          go_wp2_with fail
          go_roundg (gk - 1)
          case measure => omega
          case rel => exact ⟨j + 1, by omega, by simp, HST2, HG.out.block (HY.out.block g HG.out.lt), FB.out.below HY.out⟩
      · have HDK : Hid (false = decide (zk = 1)) := by simp [Hid, hk1]
        have HST2 : Hid ((ts.take (j + 1)).any (wrB L) = false) := by rw [Hid, HST.out, HWR.out]; simp [hk1]
        clear hk1 HST HWR HBD
        refine wp_region_old 28 42 (by kernel_rfl) (by kernel_rfl) (by rfl) ?_
        simp only [List.take_succ_cons, List.take_zero, List.drop_succ_cons, List.drop_zero, List.drop_nil]
        refine chain_val (.pointer (some ⟨w.heap.size, 1, none⟩)) (fun _ _ => Below.refl _ _) rfl (by intro cs b h; cases h) (by kernel_rfl) (by kernel_rfl) (fun w1 _ => by simp [execOp, evE, lk_cons, lk_nil, slotL, go_sem]) ?_
        refine chain_load (.slice (some ⟨lb, lo, none⟩) m cap) _ _ _ (fun _ _ => Below.refl _ _) rfl rfl (by kernel_rfl) (by kernel_rfl) rfl (fun w1 hC => load_slt ((FB.out.1.below (HOWD.out w1 hC)).cell rfl)) ?_
        refine chain_move (.int .i64 j) _ (fun _ _ => Below.refl _ _) rfl rfl (by kernel_rfl) (by kernel_rfl) rfl ?_
        refine chain_idx (.pointer (some ⟨lb, lo + j * 5, none⟩)) _ _ _ (.slice (some ⟨lb, lo, none⟩) m cap) (.int .i64 j) (fun _ _ => Below.refl _ _) rfl rfl (by kernel_rfl) (by kernel_rfl) rfl rfl (fun w1 => idx_tie _ _ _ _ _ HJM.out w1) ?_
        refine chain_val (.pointer (some ⟨lb, lo + j * 5 + 2, none⟩)) (fun _ _ => Below.refl _ _) rfl (by intro cs b h; cases h) (by kernel_rfl) (by kernel_rfl) (fun w1 _ => by simp [execOp, evE, lk_cons, lk_nil, slotL, go_sem]) ?_
        refine chain_load (.int .i64 zk) _ _ _ (fun _ _ => Below.refl _ _) rfl rfl (by kernel_rfl) (by kernel_rfl) rfl (fun w1 hC => load_i64 (HLX.out w1 _ _ hC HC3.out)) ?_
        refine chain_bin (.bool false) _ _ _ _ _ (.int .i64 zk) (.int .i64 1) (fun _ _ => Below.refl _ _) rfl rfl (by kernel_rfl) (by kernel_rfl) rfl rfl (fun w1 => eql_i64 _ _ _ _ _ _ HDK.out w1) ?_
        refine chain_move (.bool false) _ (fun _ _ => Below.refl _ _) rfl rfl (by kernel_rfl) (by kernel_rfl) rfl ?_
        refine chain_skip rfl (by kernel_rfl) ?_
        refine chain_skip rfl (by kernel_rfl) ?_
        refine chain_skip rfl (by kernel_rfl) ?_
        refine chain_skip rfl (by kernel_rfl) ?_
        refine chain_skip rfl (by kernel_rfl) ?_
        refine chain_skip rfl (by kernel_rfl) ?_
        refine chain_skip rfl (by kernel_rfl) ?_
        refine chain_skip rfl (by kernel_rfl) ?_
        refine chain_skip rfl (by kernel_rfl) ?_
        refine chain_skip rfl (by kernel_rfl) ?_
        refine chain_skip rfl (by kernel_rfl) ?_
        refine chain_skip rfl (by kernel_rfl) ?_
        refine chain_skip rfl (by kernel_rfl) ?_
        refine chain_skip rfl (by kernel_rfl) ?_
        refine chain_skip rfl (by kernel_rfl) ?_
        refine chain_skip rfl (by kernel_rfl) ?_
        refine chain_skip rfl (by kernel_rfl) ?_
        refine chain_skip rfl (by kernel_rfl) ?_
        refine chain_skip rfl (by kernel_rfl) ?_
        refine chain_pick (.bool false) _ _ _ false (fun _ _ => Below.refl _ _) rfl rfl (by kernel_rfl) (by kernel_rfl) rfl rfl ?_
        refine chain_end (by rfl) ?_
        intro xs w5 hCw5 hrew5
        simp only [layE, List.foldr_cons, List.foldr_nil, List.set_cons_succ, List.set_cons_zero]
        have HY := Lib.hid (HOWD.out w5 hCw5)
        clear hCw5 hrew5 HOWD HPX HLX
        go_wp2_with fail
        go_roundg (gk - 1)
        case measure => omega
        case rel => exact ⟨j + 1, by omega, by simp, HST2, HG.out.block (HY.out.block g HG.out.lt), FB.out.below HY.out⟩
    · have HF : Hid (E = false) := by
        rw [Hid, HE.out]
        have := HN.out
        rwa [List.take_of_length_le (by rw [← HM.out]; omega)] at this
      go_wp2_with fail
      go_ret
      exact ⟨by rw [HF.out]; rfl, FB.out.2⟩
end Go.Proofs.YtjcafjffmiknmaaGreat
