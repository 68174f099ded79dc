/- Layer 4: the specification's SameGraphs. -/
import Derived.Test.YtlllmoafhfjbbaaGreatEn
namespace Go.Proofs.YtlllmoafhfjbbaaGreat
set_option linter.unusedSimpArgs false
set_option linter.unusedVariables false
open Go Go.RowKit

set_option maxHeartbeats 2000000 in
theorem neq_tie (x y : Operand) (c d : TieD) (p : Bool) (hp : p = !decide (c = d)) (w : World) : (do eqGuard .neq 33 x y (tieV c) (tieV d); binOp .neq 33 (tieV c) (tieV d) : Sem Value).run Tryz.prog w = .ok (.bool p) w := by
  rw [← tieE_dec] at hp
  subst hp
  simp [go_sem, tieV]
  unfold tieE
  by_cases h0 : c.a = d.a <;> by_cases h1 : c.b = d.b <;> by_cases h2 : c.kind = d.kind <;> by_cases h3 : c.str = d.str <;> by_cases h4 : c.src = d.src <;> simp [h0, h1, h2, h3, h4]
def sameG (n : Int) (ts : List TieD) (n' : Int) (us : List TieD) : Bool := decide (n = n' ∧ ts = us)
set_option maxRecDepth 100000 in
set_option maxHeartbeats 4000000 in
theorem rSameG_any (n n' : Int) (a b : Option Addr) (cap cap' : Nat) (ts us : List TieD) (w : World) (hl : ts.length ≤ 100000) (hl' : us.length ≤ 100000) (hs : TiesAt w a ts) (ht : TiesAt w b us) :
    Calls Tryz.prog 24 #[gV n a ts.length cap, gV n' b us.length cap'] w fun e w' => e = .returned (.bool (sameG n ts n' us)) ∧ Below w.heap.size w w' := by
  have HS := Lib.hid hs
  have HT := Lib.hid ht
  obtain ⟨R, hR⟩ : ∃ R, R = sameG n ts n' us := ⟨_, rfl⟩
  have HR := Lib.hid hR
  rw [← hR]
  obtain ⟨m, hm⟩ : ∃ m, m = ts.length := ⟨_, rfl⟩
  obtain ⟨q, hq⟩ : ∃ q, q = us.length := ⟨_, rfl⟩
  have HL : Hid (m = ts.length ∧ q = us.length) := ⟨hm, hq⟩
  rw [← hm] at hl ⊢
  rw [← hq] at hl' ⊢
  clear hR hm hq hs ht
  have hB2 : Below w.heap.size w ((w.alloc (.cells #[.int .i64 n, .slice a m cap] 24)).alloc (.cells #[.int .i64 n', .slice b q cap'] 24)) := ((Below.refl _ _).alloc (Nat.le_refl _) _).alloc (by simp) _
  have K1 : Blk ((w.alloc (.cells #[.int .i64 n, .slice a m cap] 24)).alloc (.cells #[.int .i64 n', .slice b q cap'] 24)) w.heap.size [.int .i64 n, .slice a m cap] 24 := (Blk.new w [.int .i64 n, .slice a m cap] 24).block (Below.heap_alloc _ _ _ (by simp))
  have K2 : Blk ((w.alloc (.cells #[.int .i64 n, .slice a m cap] 24)).alloc (.cells #[.int .i64 n', .slice b q cap'] 24)) (w.heap.size + 1) [.int .i64 n', .slice b q cap'] 24 := by
    have := Blk.new (w.alloc (.cells #[.int .i64 n, .slice a m cap] 24)) [.int .i64 n', .slice b q cap'] 24
    simpa using this
  have HB2 := Lib.hid hB2
  have HK1 := Lib.hid K1
  have HK2 := Lib.hid K2
  have c0 := K1.cell (i := 0) rfl
  have c1 := K1.cell (i := 1) rfl
  have g0 := K2.cell (i := 0) rfl
  have g1 := K2.cell (i := 1) rfl
  clear K1 K2 hB2
  by_cases hn : n = n'
  case neg =>
    have hRR : R = false := by rw [HR.out]; unfold sameG; exact decide_eq_false fun h => hn h.1
    subst hRR
    have t1 : (n != n') = true := by simpa using hn
    clear hn
    go_enter Tryz.func24, Tryz.ntmps24
    simp only [gV]
    go_wp2_with fail
    go_ret
    exact ⟨rfl, HB2.out⟩
  have t1 : (n != n') = false := by simpa using hn
  have HN := Lib.hid hn
  clear hn
  by_cases hmq : m = q
  case neg =>
    have hRR : R = false := by
      rw [HR.out]; unfold sameG
      refine decide_eq_false fun h => hmq ?_
      have := HL.out; rw [this.1, this.2, h.2]
    subst hRR
    have t2 : ((m : Int) != (q : Int)) = true := by simp; omega
    have t3 : (m != q) = true := by simpa using hmq
    clear hmq
    go_enter Tryz.func24, Tryz.ntmps24
    simp only [gV]
    go_wp2_with fail
    go_ret
    exact ⟨rfl, HB2.out⟩
  have HMQ := Lib.hid hmq
  have t2 : ((m : Int) != (q : Int)) = false := by simp; omega
  have t3 : (m != q) = false := by simpa using hmq
  clear hmq
  have HRS : Hid (R = decide (ts = us)) := by
    rw [Hid, HR.out]; unfold sameG
    rw [Bool.eq_iff_iff]; simp [HN.out]
  go_enter Tryz.func24, Tryz.ntmps24
  simp only [gV]
  go_wp2_with fail
  obtain ⟨b1, hb1⟩ : ∃ b1, b1 = w.heap.size := ⟨_, rfl⟩
  have HB1 := Lib.hid hb1
  rw [← hb1] at HK1 HK2 ⊢
  obtain ⟨b2, hb2⟩ : ∃ b2, b2 = b1 + 1 := ⟨_, rfl⟩
  rw [← hb2] at HK2 ⊢
  clear c0 c1 g0 g1 hb1 hb2
  go_loopg [5] m (fun gk t5 wr => ∃ k : Nat, k + gk = m ∧ t5 = .int .i64 k ∧ Hid (∀ i, i < k → ts[i]? = us[i]?) ∧ Hid (Blk wr b1 [.int .i64 n, .slice a m cap] 24) ∧ Hid (Blk wr b2 [.int .i64 n', .slice b q cap'] 24) ∧ Hid (Below w.heap.size w wr))
  case atStart => exact ⟨0, by omega, rfl, fun i hi => absurd hi (Nat.not_lt_zero i), HK1, HK2, HB2⟩
  case round =>
    clear HK1 HK2 HB2
    obtain ⟨k, hkg, rfl, HA, HK1, HK2, HB⟩ := hrel
    have e1 := HK1.out.cell (i := 1) rfl
    by_cases hlt : k < m
    · have t4 : decide (k < m) = true := decide_eq_true hlt
      have hkl : k < ts.length := by rw [← HL.out.1]; exact hlt
      have hku : k < us.length := by have h1 := HL.out; have h2 := HMQ.out; omega
      obtain ⟨lb, lo, rfl, hlb, x0, x1, x2, x3, x4⟩ := (HS.out.below HB.out).at hkl
      obtain ⟨ub, uo, rfl, hub, y0, y1, y2, y3, y4⟩ := (HT.out.below HB.out).at hku
      have HXX : Hid (ts[k]? = some ts[k] ∧ us[k]? = some us[k]) := ⟨List.getElem?_eq_getElem hkl, List.getElem?_eq_getElem hku⟩
      obtain ⟨x, hx⟩ : ∃ x, x = ts[k] := ⟨_, rfl⟩
      obtain ⟨y, hy⟩ : ∃ y, y = us[k] := ⟨_, rfl⟩
      rw [← hx] at x0 x1 x2 x3 x4 HXX
      rw [← hy] at y0 y1 y2 y3 y4 HXX
      have HLD : Hid (∀ W, (clOld wr.drew).C W → (Instr.loadAt 33 (.pointer (some ⟨lb, lo + k * 5, none⟩))).run Tryz.prog W = .ok (tieV x) W ∧ (Instr.loadAt 33 (.pointer (some ⟨ub, uo + k * 5, none⟩))).run Tryz.prog W = .ok (tieV y) W) := fun W hC => by
        have hb : Below wr.heap.size wr W := old_end (Below.refl _ _) hC (Nat.le_refl _)
        exact ⟨load_tie (by rw [hb.cell (by exact hlb)]; exact x0) (by rw [hb.cell (by exact hlb)]; exact x1) (by rw [hb.cell (by exact hlb)]; exact x2) (by rw [hb.cell (by exact hlb)]; exact x3) (by rw [hb.cell (by exact hlb)]; exact x4), load_tie (by rw [hb.cell (by exact hub)]; exact y0) (by rw [hb.cell (by exact hub)]; exact y1) (by rw [hb.cell (by exact hub)]; exact y2) (by rw [hb.cell (by exact hub)]; exact y3) (by rw [hb.cell (by exact hub)]; exact y4)⟩
      have HLT : Hid (k < m) := hlt
      have HLU : Hid (k < q) := by have h2 := HMQ.out; rw [Hid]; omega
      clear hx hy hkl hku hlb hub x0 x1 x2 x3 x4 y0 y1 y2 y3 y4
      cases hp : decide (x = y) with
      | true =>
        have HQ : Hid (false = !decide (x = y)) := by rw [hp]; rfl
        have HAN : Hid (∀ i, i < k + 1 → ts[i]? = us[i]?) := fun i hi => by
          by_cases h : i = k
          · rw [h, HXX.out.1, HXX.out.2, of_decide_eq_true hp]
          · exact HA.out i (by omega)
        clear hp
        go_upto_region 6 with (fail)
        refine wp_region_old 11 38 (by kernel_rfl) (by kernel_rfl) (by rfl) ?_
        simp only [List.take_succ_cons, List.take_zero, List.drop_succ_cons, List.drop_zero, List.drop_nil]
        refine chain_val (.pointer (some ⟨b1, 1, none⟩)) (fun _ _ => Below.refl _ _) rfl (by intro cs b h; cases h) (by kernel_rfl) (by kernel_rfl) (fun w1 _ => by simp [execOp, evE, lk_cons, lk_nil, slotL, go_sem]) ?_
        refine chain_load (.slice (some ⟨lb, lo, none⟩) m cap) _ _ _ (fun _ _ => Below.refl _ _) rfl rfl (by kernel_rfl) (by kernel_rfl) rfl (fun w1 hC => load_slt ((HK1.out.below (show Below wr.heap.size wr w1 from old_end (Below.refl _ _) hC (Nat.le_refl _))).cell rfl)) ?_
        refine chain_move (.int .i64 k) _ (fun _ _ => Below.refl _ _) rfl rfl (by kernel_rfl) (by kernel_rfl) rfl ?_
        refine chain_idx (.pointer (some ⟨lb, lo + k * 5, none⟩)) _ _ _ (.slice (some ⟨lb, lo, none⟩) m cap) (.int .i64 k) (fun _ _ => Below.refl _ _) rfl rfl (by kernel_rfl) (by kernel_rfl) rfl rfl (fun w1 => idx_tie _ _ _ _ _ HLT.out w1) ?_
        refine chain_load (tieV x) _ _ _ (fun _ _ => Below.refl _ _) rfl rfl (by kernel_rfl) (by kernel_rfl) rfl (fun w1 hC => (HLD.out w1 hC).1) ?_
        refine chain_val (.pointer (some ⟨b2, 1, none⟩)) (fun _ _ => Below.refl _ _) rfl (by intro cs b h; cases h) (by kernel_rfl) (by kernel_rfl) (fun w1 _ => by simp [execOp, evE, lk_cons, lk_nil, slotL, go_sem]) ?_
        refine chain_load (.slice (some ⟨ub, uo, none⟩) q cap') _ _ _ (fun _ _ => Below.refl _ _) rfl rfl (by kernel_rfl) (by kernel_rfl) rfl (fun w1 hC => load_slt ((HK2.out.below (show Below wr.heap.size wr w1 from old_end (Below.refl _ _) hC (Nat.le_refl _))).cell rfl)) ?_
        refine chain_move (.int .i64 k) _ (fun _ _ => Below.refl _ _) rfl rfl (by kernel_rfl) (by kernel_rfl) rfl ?_
        refine chain_idx (.pointer (some ⟨ub, uo + k * 5, none⟩)) _ _ _ (.slice (some ⟨ub, uo, none⟩) q cap') (.int .i64 k) (fun _ _ => Below.refl _ _) rfl rfl (by kernel_rfl) (by kernel_rfl) rfl rfl (fun w1 => idx_tie _ _ _ _ _ HLU.out w1) ?_
        refine chain_load (tieV y) _ _ _ (fun _ _ => Below.refl _ _) rfl rfl (by kernel_rfl) (by kernel_rfl) rfl (fun w1 hC => (HLD.out w1 hC).2) ?_
        refine chain_bin (.bool false) _ _ _ _ _ (tieV x) (tieV y) (fun _ _ => Below.refl _ _) rfl rfl (by kernel_rfl) (by kernel_rfl) rfl rfl (fun w1 => neq_tie _ _ _ _ _ HQ.out w1) ?_
        refine chain_end (by rfl) ?_
        intro xs w1 hCw1 hrew1
        simp only [layE, List.foldr_cons, List.foldr_nil, List.set_cons_succ, List.set_cons_zero]
        have HO : Hid (Below wr.heap.size wr w1) := old_end (Below.refl wr.heap.size wr) hCw1 (Nat.le_refl _)
        clear hCw1 hrew1 e1
        go_wp2_with fail
        go_roundg (gk - 1)
        case measure => omega
        case rel => exact ⟨k + 1, by omega, by simp, HAN, HK1.out.below HO.out, HK2.out.below HO.out, HB.out.trans (HO.out.mono HB.out.size)⟩
      | false =>
        have HQ : Hid (true = !decide (x = y)) := by rw [hp]; rfl
        have hRR : R = false := by
          rw [HRS.out]
          refine decide_eq_false fun h => of_decide_eq_false hp ?_
          have h1 := HXX.out.1; rw [h, HXX.out.2] at h1
          exact (Option.some.inj h1).symm
        subst hRR
        clear hp
        go_upto_region 6 with (fail)
        refine wp_region_old 11 38 (by kernel_rfl) (by kernel_rfl) (by rfl) ?_
        simp only [List.take_succ_cons, List.take_zero, List.drop_succ_cons, List.drop_zero, List.drop_nil]
        refine chain_val (.pointer (some ⟨b1, 1, none⟩)) (fun _ _ => Below.refl _ _) rfl (by intro cs b h; cases h) (by kernel_rfl) (by kernel_rfl) (fun w1 _ => by simp [execOp, evE, lk_cons, lk_nil, slotL, go_sem]) ?_
        refine chain_load (.slice (some ⟨lb, lo, none⟩) m cap) _ _ _ (fun _ _ => Below.refl _ _) rfl rfl (by kernel_rfl) (by kernel_rfl) rfl (fun w1 hC => load_slt ((HK1.out.below (show Below wr.heap.size wr w1 from old_end (Below.refl _ _) hC (Nat.le_refl _))).cell rfl)) ?_
        refine chain_move (.int .i64 k) _ (fun _ _ => Below.refl _ _) rfl rfl (by kernel_rfl) (by kernel_rfl) rfl ?_
        refine chain_idx (.pointer (some ⟨lb, lo + k * 5, none⟩)) _ _ _ (.slice (some ⟨lb, lo, none⟩) m cap) (.int .i64 k) (fun _ _ => Below.refl _ _) rfl rfl (by kernel_rfl) (by kernel_rfl) rfl rfl (fun w1 => idx_tie _ _ _ _ _ HLT.out w1) ?_
        refine chain_load (tieV x) _ _ _ (fun _ _ => Below.refl _ _) rfl rfl (by kernel_rfl) (by kernel_rfl) rfl (fun w1 hC => (HLD.out w1 hC).1) ?_
        refine chain_val (.pointer (some ⟨b2, 1, none⟩)) (fun _ _ => Below.refl _ _) rfl (by intro cs b h; cases h) (by kernel_rfl) (by kernel_rfl) (fun w1 _ => by simp [execOp, evE, lk_cons, lk_nil, slotL, go_sem]) ?_
        refine chain_load (.slice (some ⟨ub, uo, none⟩) q cap') _ _ _ (fun _ _ => Below.refl _ _) rfl rfl (by kernel_rfl) (by kernel_rfl) rfl (fun w1 hC => load_slt ((HK2.out.below (show Below wr.heap.size wr w1 from old_end (Below.refl _ _) hC (Nat.le_refl _))).cell rfl)) ?_
        refine chain_move (.int .i64 k) _ (fun _ _ => Below.refl _ _) rfl rfl (by kernel_rfl) (by kernel_rfl) rfl ?_
        refine chain_idx (.pointer (some ⟨ub, uo + k * 5, none⟩)) _ _ _ (.slice (some ⟨ub, uo, none⟩) q cap') (.int .i64 k) (fun _ _ => Below.refl _ _) rfl rfl (by kernel_rfl) (by kernel_rfl) rfl rfl (fun w1 => idx_tie _ _ _ _ _ HLU.out w1) ?_
        refine chain_load (tieV y) _ _ _ (fun _ _ => Below.refl _ _) rfl rfl (by kernel_rfl) (by kernel_rfl) rfl (fun w1 hC => (HLD.out w1 hC).2) ?_
        refine chain_bin (.bool true) _ _ _ _ _ (tieV x) (tieV y) (fun _ _ => Below.refl _ _) rfl rfl (by kernel_rfl) (by kernel_rfl) rfl rfl (fun w1 => neq_tie _ _ _ _ _ HQ.out w1) ?_
        refine chain_end (by rfl) ?_
        intro xs w1 hCw1 hrew1
        simp only [layE, List.foldr_cons, List.foldr_nil, List.set_cons_succ, List.set_cons_zero]
        have HO : Hid (Below wr.heap.size wr w1) := old_end (Below.refl wr.heap.size wr) hCw1 (Nat.le_refl _)
        clear hCw1 hrew1 e1
        go_wp2_with fail
        go_ret
        exact ⟨rfl, HB.out.trans (HO.out.mono HB.out.size)⟩
    · have e : k = m := by omega
      have t4 : decide (k < m) = false := decide_eq_false hlt
      have hRR : R = true := by
        rw [HRS.out]
        refine decide_eq_true (List.ext_getElem? fun i => ?_)
        by_cases hi : i < k
        · exact HA.out i hi
        · have h1 := HL.out; have h2 := HMQ.out
          rw [List.getElem?_eq_none (by omega), List.getElem?_eq_none (by omega)]
      subst hRR
      clear e
      go_wp2_with fail
      go_ret
      exact ⟨rfl, HB.out⟩
end Go.Proofs.YtlllmoafhfjbbaaGreat
