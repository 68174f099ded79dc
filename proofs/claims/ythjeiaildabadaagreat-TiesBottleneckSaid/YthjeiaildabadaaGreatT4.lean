/- Layer 4: how strong a chain is (the law's own function). -/
import Derived.Test.YthjeiaildabadaaGreatT2
namespace Go.Proofs.YthjeiaildabadaaGreat
set_option linter.unusedSimpArgs false
set_option linter.unusedVariables false
open Go Go.RowKit

theorem lss_i (t : TypeId) (x y : Operand) (a b : Int) (p : Bool) (hp : decide (a < b) = p) (w : World) : (do eqGuard .lss t x y (.int .i64 a) (.int .i64 b); binOp .lss t (.int .i64 a) (.int .i64 b) : Sem Value).run Tryz.prog w = .ok (.bool p) w := by
  subst hp; simp [go_sem]
theorem geq_i (t : TypeId) (x y : Operand) (a b : Int) (p : Bool) (hp : decide (b ≤ a) = p) (w : World) : (do eqGuard .geq t x y (.int .i64 a) (.int .i64 b); binOp .geq t (.int .i64 a) (.int .i64 b) : Sem Value).run Tryz.prog w = .ok (.bool p) w := by
  subst hp; simp [go_sem]
def strAt (ts : List TieD) (i : Int) : Int := ((ts[i.toNat]?).map (·.str)).getD 0
def leF (ts : List TieD) (l : List Int) : Int := l.foldl (fun n i => min n (strAt ts i)) 101
theorem leF_step {ts : List TieD} {l : List Int} {j : Nat} (hj : j < l.length) : leF ts (l.take (j + 1)) = min (leF ts (l.take j)) (strAt ts l[j]) := by
  unfold leF
  rw [← List.take_append_getElem hj, List.foldl_append]
  rfl
set_option maxRecDepth 100000 in
set_option maxHeartbeats 4000000 in
theorem least_any (n : Int) (a : Option Addr) (cap cq : Nat) (ts : List TieD) (r : Option Addr) (l : List Int) (w : World) (hl : ts.length ≤ 1000) (hl2 : l.length ≤ 1000) (hs : TiesAt w a ts) (hr : IntsAt w r l) (hv : ∀ i ∈ l, 0 ≤ i ∧ i < ts.length) :
    Calls Tryz.prog 27 #[gV n a ts.length cap, .slice r l.length cq] w fun e w' => e = .returned (.int .i64 (leF ts l)) ∧ Below w.heap.size w w' := by
  have HS := Lib.hid hs
  have HR := Lib.hid hr
  have HV := Lib.hid hv
  obtain ⟨m, hm⟩ : ∃ m, m = ts.length := ⟨_, rfl⟩
  obtain ⟨q, hq⟩ : ∃ q, q = l.length := ⟨_, rfl⟩
  rw [← hm] at hv
  rw [← hm, ← hq]
  have HM := Lib.hid hm
  have HQ := Lib.hid hq
  have FB := Lib.hid (FA.new w [.int .i64 n, .slice a m cap])
  have H0 : Hid (leF ts (l.take 0) = 101) := rfl
  have hqb : q ≤ 1000 := by omega
  clear hs hr hv hm hq
  go_enter Tryz.func27, Tryz.ntmps27
  simp only [gV]
  go_wp2_with fail
  go_loopg [5, 6] q (fun gk t5 t6 wr => ∃ j : Nat, j + gk = q ∧ t6 = .int .i64 j ∧ t5 = .int .i64 (leF ts (l.take j)) ∧ Hid (FA w wr [.int .i64 n, .slice a m cap]))
  case atStart => exact ⟨0, by omega, rfl, by rw [H0.out], FB⟩
  case round =>
    obtain ⟨j, hjq, rfl, rfl, HB⟩ := hrel
    clear FB H0
    by_cases hlt : j < q
    · have hkl : j < l.length := by rw [← HQ.out]; exact hlt
      obtain ⟨hi0, hi1⟩ := HV.out l[j] (List.getElem_mem hkl)
      obtain ⟨lb, lo, rfl, hlb, c0⟩ := (HR.out.below HB.out.2).at hkl
      obtain ⟨i, hi⟩ := Int.eq_ofNat_of_zero_le hi0
      rw [hi] at hi1 c0
      have hmm := HM.out
      have hik : i < ts.length := by omega
      clear hmm
      obtain ⟨tb, tq, rfl, htb, d0, d1, d2, d3, d4⟩ := (HS.out.below HB.out.2).at hik
      have HST : Hid (leF ts (l.take (j + 1)) = min (leF ts (l.take j)) ts[i].str) := by
        rw [Hid, leF_step hkl, hi, strAt, Int.toNat_natCast, List.getElem?_eq_getElem hik]; rfl
      generalize leF ts (l.take j) = L at *
      generalize ts[i].str = s at *
      have HG := Lib.hid (HB.out.1.cell (i := 1) rfl)
      have HC0 := Lib.hid c0
      have HC3 := Lib.hid d3
      have HLT := Lib.hid hlt
      have HLB := Lib.hid hlb
      have HTB := Lib.hid htb
      clear htb
      have HIK : Hid (i < m) := by rw [Hid, HM.out]; exact hik
      have HK1 : Hid (false = decide ((i : Int) < 0)) := by rw [Hid]; exact (decide_eq_false (by omega)).symm
      have HK2 : Hid (false = decide ((i : Int) ≥ (m : Int))) := by rw [Hid]; exact (decide_eq_false (by have := HIK.out; omega)).symm
      have HOWD : Hid (∀ W, (clOld wr.drew).C W → Below wr.heap.size wr W) := fun W hC => old_end (Below.refl _ _) hC (Nat.le_refl _)
      have HPX : Hid (∀ W, (clOld wr.drew).C W → W.cell? ⟨lb, lo + j, none⟩ = some (.int .i64 i)) := fun W hC => by rw [Below.cell (HOWD.out W hC) (by exact hlb)]; exact HC0.out
      have HPG : Hid (∀ W, (clOld wr.drew).C W → W.cell? ⟨w.heap.size, 1, none⟩ = some (.slice (some ⟨tb, tq, none⟩) m cap)) := fun W hC => (HB.out.1.below (HOWD.out W hC)).cell (i := 1) rfl
      clear hkl hi0 hi1 hi c0 d0 d1 d2 d3 d4 HS HR HV hik
      have t3 : decide ((j : Int) < (q : Int)) = true := decide_eq_true (by omega)
      go_upto_region 5 with (fail)
      refine wp_region_old 15 40 (by kernel_rfl) (by kernel_rfl) (by rfl) ?_
      simp only [List.take_succ_cons, List.take_zero, List.drop_succ_cons, List.drop_zero, List.drop_nil]
      refine chain_move (.slice (some ⟨lb, lo, none⟩) q cq) _ (fun _ _ => Below.refl _ _) rfl rfl (by kernel_rfl) (by kernel_rfl) rfl ?_
      refine chain_move (.int .i64 j) _ (fun _ _ => Below.refl _ _) rfl rfl (by kernel_rfl) (by kernel_rfl) rfl ?_
      refine chain_idx (.pointer (some ⟨lb, lo + j, none⟩)) _ _ _ (.slice (some ⟨lb, lo, none⟩) q cq) (.int .i64 j) (fun _ _ => Below.refl _ _) rfl rfl (by kernel_rfl) (by kernel_rfl) rfl rfl (fun w1 => idx_i64 _ _ _ _ _ HLT.out w1) ?_
      refine chain_load (.int .i64 i) _ _ _ (fun _ _ => Below.refl _ _) rfl rfl (by kernel_rfl) (by kernel_rfl) rfl (fun w1 hC => load_i64 (HPX.out w1 hC)) ?_
      refine chain_bin (.bool false) _ _ _ _ _ (.int .i64 i) (.int .i64 0) (fun _ _ => Below.refl _ _) rfl rfl (by kernel_rfl) (by kernel_rfl) rfl rfl (fun w1 => lss_i _ _ _ _ _ _ HK1.out.symm w1) ?_
      refine chain_move (.bool false) _ (fun _ _ => Below.refl _ _) rfl rfl (by kernel_rfl) (by kernel_rfl) rfl ?_
      refine chain_move (.slice (some ⟨lb, lo, none⟩) q cq) _ (fun _ _ => Below.refl _ _) rfl rfl (by kernel_rfl) (by kernel_rfl) rfl ?_
      refine chain_move (.int .i64 j) _ (fun _ _ => Below.refl _ _) rfl rfl (by kernel_rfl) (by kernel_rfl) rfl ?_
      refine chain_idx (.pointer (some ⟨lb, lo + j, none⟩)) _ _ _ (.slice (some ⟨lb, lo, none⟩) q cq) (.int .i64 j) (fun _ _ => Below.refl _ _) rfl rfl (by kernel_rfl) (by kernel_rfl) rfl rfl (fun w1 => idx_i64 _ _ _ _ _ HLT.out w1) ?_
      refine chain_load (.int .i64 i) _ _ _ (fun _ _ => Below.refl _ _) rfl rfl (by kernel_rfl) (by kernel_rfl) rfl (fun w1 hC => load_i64 (HPX.out w1 hC)) ?_
      refine chain_val (.pointer (some ⟨w.heap.size, 1, none⟩)) (fun _ _ => Below.refl _ _) rfl (by intro cs b h; cases h) (by kernel_rfl) (by kernel_rfl) (fun w1 _ => by simp [execOp, evE, lk_cons, lk_nil, slotL, go_sem]) ?_
      refine chain_load (.slice (some ⟨tb, tq, none⟩) m cap) _ _ _ (fun _ _ => Below.refl _ _) rfl rfl (by kernel_rfl) (by kernel_rfl) rfl (fun w1 hC => load_slq (HPG.out w1 hC)) ?_
      refine chain_val (.int .i64 m) (fun _ _ => Below.refl _ _) rfl (by intro cs b h; cases h) (by kernel_rfl) (by kernel_rfl) (fun w1 _ => by simp [execOp, evE, lk_cons, lk_nil, slotL, go_sem]) ?_
      refine chain_bin (.bool false) _ _ _ _ _ (.int .i64 i) (.int .i64 m) (fun _ _ => Below.refl _ _) rfl rfl (by kernel_rfl) (by kernel_rfl) rfl rfl (fun w1 => geq_i _ _ _ _ _ _ HK2.out.symm w1) ?_
      refine chain_pick (.bool false) _ _ _ false (fun _ _ => Below.refl _ _) rfl rfl (by kernel_rfl) (by kernel_rfl) rfl rfl ?_
      refine chain_end (by rfl) ?_
      intro xs w5 hCw5 hrew5
      simp only [layE, List.foldr_cons, List.foldr_nil, List.set_cons_succ, List.set_cons_zero]
      have HY := Lib.hid (HOWD.out w5 hCw5)
      clear hCw5 hrew5 HOWD HPX HPG
      replace HB := Lib.hid (HB.out.below HY.out)
      have c0 : w5.cell? ⟨lb, lo + j, none⟩ = some (.int .i64 i) := by rw [Below.cell HY.out (by exact HLB.out)]; exact HC0.out
      have c3 : w5.cell? ⟨tb, tq + i * 5 + 3, none⟩ = some (.int .i64 s) := by rw [Below.cell HY.out (by exact HTB.out)]; exact HC3.out
      have g1 := HB.out.1.cell (i := 1) rfl
      have hik := HIK.out
      go_upto_region 7 with (fail)
      have HOWD2 : Hid (∀ W, (clOld w5.drew).C W → Below w5.heap.size w5 W) := fun W hC => old_end (Below.refl _ _) hC (Nat.le_refl _)
      have HB5 : Hid (lb < w5.heap.size ∧ tb < w5.heap.size) := ⟨Nat.lt_of_lt_of_le HLB.out HY.out.size, Nat.lt_of_lt_of_le HTB.out HY.out.size⟩
      have HX0 : Hid (∀ W, (clOld w5.drew).C W → W.cell? ⟨lb, lo + j, none⟩ = some (.int .i64 i)) := fun W hC => by rw [Below.cell (HOWD2.out W hC) (by exact HB5.out.1)]; exact c0
      have HX3 : Hid (∀ W, (clOld w5.drew).C W → W.cell? ⟨tb, tq + i * 5 + 3, none⟩ = some (.int .i64 s)) := fun W hC => by rw [Below.cell (HOWD2.out W hC) (by exact HB5.out.2)]; exact c3
      have HXG : Hid (∀ W, (clOld w5.drew).C W → W.cell? ⟨w.heap.size, 1, none⟩ = some (.slice (some ⟨tb, tq, none⟩) m cap)) := fun W hC => (HB.out.1.below (HOWD2.out W hC)).cell (i := 1) rfl
      clear c0 c3 g1 hik
      refine wp_region_old 11 40 (by kernel_rfl) (by kernel_rfl) (by rfl) ?_
      simp only [List.take_succ_cons, List.take_zero, List.drop_succ_cons, List.drop_zero, List.drop_nil]
      refine chain_move (.int .i64 L) _ (fun _ _ => Below.refl _ _) rfl rfl (by kernel_rfl) (by kernel_rfl) rfl ?_
      refine chain_val (.pointer (some ⟨w.heap.size, 1, none⟩)) (fun _ _ => Below.refl _ _) rfl (by intro cs b h; cases h) (by kernel_rfl) (by kernel_rfl) (fun w1 _ => by simp [execOp, evE, lk_cons, lk_nil, slotL, go_sem]) ?_
      refine chain_load (.slice (some ⟨tb, tq, none⟩) m cap) _ _ _ (fun _ _ => Below.refl _ _) rfl rfl (by kernel_rfl) (by kernel_rfl) rfl (fun w1 hC => load_slq (HXG.out w1 hC)) ?_
      refine chain_move (.slice (some ⟨lb, lo, none⟩) q cq) _ (fun _ _ => Below.refl _ _) rfl rfl (by kernel_rfl) (by kernel_rfl) rfl ?_
      refine chain_move (.int .i64 j) _ (fun _ _ => Below.refl _ _) rfl rfl (by kernel_rfl) (by kernel_rfl) rfl ?_
      refine chain_idx (.pointer (some ⟨lb, lo + j, none⟩)) _ _ _ (.slice (some ⟨lb, lo, none⟩) q cq) (.int .i64 j) (fun _ _ => Below.refl _ _) rfl rfl (by kernel_rfl) (by kernel_rfl) rfl rfl (fun w1 => idx_i64 _ _ _ _ _ HLT.out w1) ?_
      refine chain_load (.int .i64 i) _ _ _ (fun _ _ => Below.refl _ _) rfl rfl (by kernel_rfl) (by kernel_rfl) rfl (fun w1 hC => load_i64 (HX0.out w1 hC)) ?_
      refine chain_idx (.pointer (some ⟨tb, tq + i * 5, none⟩)) _ _ _ (.slice (some ⟨tb, tq, none⟩) m cap) (.int .i64 i) (fun _ _ => Below.refl _ _) rfl rfl (by kernel_rfl) (by kernel_rfl) rfl rfl (fun w1 => idx_tie _ _ _ _ _ HIK.out w1) ?_
      refine chain_val (.pointer (some ⟨tb, tq + i * 5 + 3, none⟩)) (fun _ _ => Below.refl _ _) rfl (by intro cs b h; cases h) (by kernel_rfl) (by kernel_rfl) (fun w1 _ => by simp [execOp, evE, lk_cons, lk_nil, slotL, go_sem]) ?_
      refine chain_load (.int .i64 s) _ _ _ (fun _ _ => Below.refl _ _) rfl rfl (by kernel_rfl) (by kernel_rfl) rfl (fun w1 hC => load_i64 (HX3.out w1 hC)) ?_
      refine chain_val (.int .i64 (min L s)) (fun _ _ => Below.refl _ _) rfl (by intro cs b h; cases h) (by kernel_rfl) (by kernel_rfl) (fun w1 _ => by simp [execOp, evE, lk_cons, lk_nil, slotL, go_sem, Int.min_def]) ?_
      refine chain_end (by rfl) ?_
      intro xs w6 hCw6 hrew6
      simp only [layE, List.foldr_cons, List.foldr_nil, List.set_cons_succ, List.set_cons_zero]
      have HY2 := Lib.hid (HOWD2.out w6 hCw6)
      clear hCw6 hrew6 HOWD2 HX0 HX3 HXG
      have hjb : j ≤ 1000 := by omega
      go_wp2_with fail
      go_roundg (gk - 1)
      case measure => omega
      case rel => exact ⟨j + 1, by omega, by simp, by rw [HST.out], HB.out.below HY2.out⟩
    · have e : j = q := by omega
      subst e
      have HE : Hid (l.take j = l) := List.take_of_length_le (by rw [← HQ.out]; exact Nat.le_refl _)
      clear HS HR HV
      go_wp2_with fail
      go_ret
      exact ⟨by rw [HE.out]; rfl, HB.out.2⟩
end Go.Proofs.YthjeiaildabadaaGreat
