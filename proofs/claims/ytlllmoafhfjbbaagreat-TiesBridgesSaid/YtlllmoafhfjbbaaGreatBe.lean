/- Layer 4: a graph without one tie. -/
import Derived.Test.YtlllmoafhfjbbaaGreatBd
namespace Go.Proofs.YtlllmoafhfjbbaaGreat
set_option linter.unusedSimpArgs false
set_option linter.unusedVariables false
open Go Go.RowKit

theorem eras_step {ts : List TieD} {k i : Nat} (hk : k < ts.length) : (k ≠ i → (ts.take (k + 1)).eraseIdx i = (ts.take k).eraseIdx i ++ [ts[k]]) ∧ (k = i → (ts.take (k + 1)).eraseIdx i = (ts.take k).eraseIdx i) := by
  have hl : (ts.take k).length = k := by rw [List.length_take]; omega
  rw [← List.take_append_getElem hk]
  refine ⟨fun h => ?_, fun h => ?_⟩
  · rcases Nat.lt_or_ge i k with h' | h'
    · rw [List.eraseIdx_append_of_lt_length (by omega)]
    · rw [List.eraseIdx_of_length_le (by simp; omega), List.eraseIdx_of_length_le (by omega)]
  · subst h
    rw [List.eraseIdx_append_of_length_le (by omega), hl, Nat.sub_self, List.eraseIdx_of_length_le (l := ts.take k) (by omega)]
    simp
set_option maxRecDepth 100000 in
set_option maxHeartbeats 4000000 in
theorem left_any (n : Int) (a : Option Addr) (cap i : Nat) (ts : List TieD) (w : World) (hl : ts.length ≤ 1000) (hs : TiesAt w a ts) :
    Calls Tryz.prog 9 #[gV n a ts.length cap, .int .i64 (i : Int)] w fun e w' => ∃ v, e = .returned (.agg #[.int .i64 n, v]) ∧ w'.ownsRow w.heap.size 33 5 v (ts.eraseIdx i).length (tvL (ts.eraseIdx i)) ∧ Below w.heap.size w w' := by
  have HS := Lib.hid hs
  obtain ⟨m, hm⟩ : ∃ m, m = ts.length := ⟨_, rfl⟩
  rw [← hm] at hl ⊢
  have HM := Lib.hid hm
  clear hs hm
  go_enter Tryz.func9, Tryz.ntmps9
  simp only [gV]
  go_upto_region 2 with (fail)
  refine named (fun V => Hid (Below w.heap.size w V) ∧ Hid (Blk V w.heap.size [.int .i64 n, .slice a m cap] 24) ∧ Hid (Blk V (w.heap.size + 1) [.int .i64 0, .slice none 0 0] 24) ∧ Hid (Blk V (w.heap.size + 1 + 1) [.int .i64 n, .slice none 0 0] 24) ∧ Hid (w.heap.size + 3 ≤ V.heap.size)) ?_ ?_
  · have b1 := Blk.new w [.int .i64 n, .slice a m cap] 24
    have b2 := Blk.new (w.alloc (.cells #[.int .i64 n, .slice a m cap] 24)) [.int .i64 0, .slice none 0 0] 24
    have b3 := Blk.new ((w.alloc (.cells #[.int .i64 n, .slice a m cap] 24)).alloc (.cells #[.int .i64 0, .slice none 0 0] 24)) [.int .i64 n, .slice none 0 0] 24
    refine ⟨(((Below.refl _ _).alloc (Nat.le_refl _) _).alloc (by simp) _).alloc (by simp; omega) _, (b1.block (Below.heap_alloc _ _ _ (by simp))).block (Below.heap_alloc _ _ _ (by simp; omega)), ?_, ?_, by simp [Hid]⟩
    · have := b2.block (Below.heap_alloc _ (.cells #[.int .i64 n, .slice none 0 0] 24) _ b2.lt)
      simpa [Hid] using this
    · simpa [Hid] using b3
  rintro W0 ⟨FB, K1, K4, K5, HZ⟩
  generalize hb1 : w.heap.size = b1 at K1 K4 K5 HZ ⊢
  generalize hb4 : b1 + 1 = b4 at K4 K5 ⊢
  generalize hb5 : b4 + 1 = b5 at K5 ⊢
  have HBB : Hid (w.heap.size = b1 ∧ b1 < b4 ∧ b4 < b5) := ⟨hb1, by omega, by omega⟩
  have HZ5 : Hid (b5 + 1 ≤ W0.heap.size) := by have := HZ.out; rw [Hid]; omega
  clear hb1 hb4 hb5 HZ
  have HS0 : Hid (HGr w (b5 + 1) b5 n ((ts.take 0).eraseIdx i) W0) := ⟨⟨.slice none 0 0, World.ownsRow_nil _ _ _ _, K5.out⟩, FB.out⟩
  go_wp2_with fail
  go_loopg [6] m (fun gk t6 wr => ∃ k : Nat, k + gk = m ∧ t6 = .int .i64 k ∧ Hid (HGr w (b5 + 1) b5 n ((ts.take k).eraseIdx i) wr) ∧ Hid (Blk wr b1 [.int .i64 n, .slice a m cap] 24) ∧ Hid (Blk wr b4 [.int .i64 0, .slice none 0 0] 24) ∧ Hid (b5 + 1 ≤ wr.heap.size))
  case atStart => exact ⟨0, by omega, rfl, HS0, K1, K4, HZ5⟩
  case round =>
    obtain ⟨k, hkg, rfl, H, H1, H4, HZ⟩ := hrel
    clear HS0 K1 K4 K5 HZ5 FB
    have c1 := H1.out.cell (i := 1) rfl
    by_cases hlt : k < m
    · have hkl : k < ts.length := by rw [← HM.out]; exact hlt
      obtain ⟨lb, lo, rfl, hlb, x0, x1, x2, x3, x4⟩ := (HS.out.below H.out.old).at hkl
      obtain ⟨st1, st2⟩ := eras_step (i := i) hkl
      have hlen : ((ts.take k).eraseIdx i).length ≤ 1000 := by have h1 := List.length_eraseIdx_le (ts.take k) i; rw [List.length_take] at h1; omega
      obtain ⟨y, hy⟩ : ∃ y, y = ts[k] := ⟨_, rfl⟩
      rw [← hy] at x0 x1 x2 x3 x4 st1
      obtain ⟨pre, hpre⟩ : ∃ pre, pre = (ts.take k).eraseIdx i := ⟨_, rfl⟩
      rw [← hpre] at H st1 st2 hlen
      clear hkl hy hpre
      have t1 : decide (k < m) = true := decide_eq_true hlt
      have HLT : Hid (k < m) := hlt
      by_cases hki : k = i
      · have HST := Lib.hid (st2 hki)
        have t2 : ((k : Int) != (i : Int)) = false := by simp [hki]
        have t3 : (k != i) = false := by simp [hki]
        clear hki
        clear st1 st2 x0 x1 x2 x3 x4
        go_wp2_with fail
        go_roundg (gk - 1)
        case measure => omega
        case rel => exact ⟨k + 1, by omega, by simp, by rw [HST.out]; exact H, H1, H4, HZ⟩
      · have HST := Lib.hid (st1 hki)
        have t2 : ((k : Int) != (i : Int)) = true := by simp; omega
        have t3 : (k != i) = true := by simp [hki]
        clear hki
        clear st1 st2
        have HLD : Hid (∀ W, Old wr.drew W → (Instr.loadAt 33 (.pointer (some ⟨lb, lo + k * 5, none⟩))).run Tryz.prog W = .ok (tieV y) W) := fun W h => load_tie (by rw [Below.cell h (by exact hlb)]; exact x0) (by rw [Below.cell h (by exact hlb)]; exact x1) (by rw [Below.cell h (by exact hlb)]; exact x2) (by rw [Below.cell h (by exact hlb)]; exact x3) (by rw [Below.cell h (by exact hlb)]; exact x4)
        obtain ⟨tv, hown, hblk⟩ := H.out.own
        obtain ⟨fa, fc, rfl, hm0, hfi⟩ := own_ties hown
        obtain ⟨q, hq⟩ : ∃ q, q = pre.length := ⟨_, rfl⟩
        rw [← hq] at hown hblk hlen
        have HO := Lib.hid hown
        have HBK := Lib.hid hblk
        have HQL := Lib.hid hq
        clear hown hblk hm0 hfi hq x0 x1 x2 x3 x4 hlb
        go_upto_region 6 with (fail)
        have HOLD : Hid (∀ w1, (clOld wr.drew).C w1 → Below wr.heap.size wr w1) := fun w1 hC => old_end (Below.refl _ _) hC (Nat.le_refl _)
        refine wp_region_late_old 10 31 8 [9] (by kernel_rfl) (by kernel_rfl) (by rfl) ?_
        simp only [List.take_succ_cons, List.take_zero, List.eraseIdx_cons_succ, List.eraseIdx_cons_zero]
        refine chain_val (.pointer (some ⟨b5, 1, none⟩)) (fun _ _ => Below.refl _ _) rfl (by intro cs b h; cases h) (by kernel_rfl) (by kernel_rfl) (fun w1 _ => by simp [execOp, evE, lk_cons, lk_nil, slotL, go_sem]) ?_
        refine chain_load (.slice fa q fc) _ _ _ (fun _ _ => Below.refl _ _) rfl rfl (by kernel_rfl) (by kernel_rfl) rfl (fun w1 hC => load_slq ((HBK.out.below (HOLD.out w1 hC)).cell rfl)) ?_
        refine chain_val (.pointer (some ⟨b1, 1, none⟩)) (fun _ _ => Below.refl _ _) rfl (by intro cs b h; cases h) (by kernel_rfl) (by kernel_rfl) (fun w1 _ => by simp [execOp, evE, lk_cons, lk_nil, slotL, go_sem]) ?_
        refine chain_load (.slice (some ⟨lb, lo, none⟩) m cap) _ _ _ (fun _ _ => Below.refl _ _) rfl rfl (by kernel_rfl) (by kernel_rfl) rfl (fun w1 hC => load_slq ((H1.out.below (HOLD.out w1 hC)).cell rfl)) ?_
        refine chain_move (.int .i64 k) _ (fun _ _ => Below.refl _ _) rfl rfl (by kernel_rfl) (by kernel_rfl) rfl ?_
        refine chain_idx (.pointer (some ⟨lb, lo + k * 5, none⟩)) _ _ _ (.slice (some ⟨lb, lo, none⟩) m cap) (.int .i64 k) (fun _ _ => Below.refl _ _) rfl rfl (by kernel_rfl) (by kernel_rfl) rfl rfl (fun w1 => idx_tie _ _ _ _ _ HLT.out w1) ?_
        refine chain_load (tieV y) _ _ _ (fun _ _ => Below.refl _ _) rfl rfl (by kernel_rfl) (by kernel_rfl) rfl (fun w1 hC => HLD.out w1 hC) ?_
        refine chain_new (tieW y) (tieW_lasts _) rfl (by intro cs b h; cases h) (by kernel_rfl) (by kernel_rfl) (fun w1 hC => new_tie (by simp [execOp, evE, lk_cons, lk_nil, go_sem, Instr.buildSlice, tieV]) hC) ?_
        refine chain_val (.pointer (some ⟨b5, 1, none⟩)) (fun _ _ => Below.refl _ _) rfl (by intro cs b h; cases h) (by kernel_rfl) (by kernel_rfl) (fun w1 _ => by simp [execOp, evE, lk_cons, lk_nil, slotL, go_sem]) ?_
        refine after_app 21 27 (by rfl) (by rfl) (by rfl) (by rfl) (by kernel_rfl) (by kernel_rfl) ?_
        intro x z w1 hC hx hz
        replace hx : x = .slice fa q fc := hx
        subst hx
        replace hz : tieW y z w1 := hz
        obtain ⟨b9, rfl, hta⟩ := hz
        have hb1 := HOLD.out w1 hC
        obtain ⟨f2, c2, w6, hrun, hown, hgrow⟩ := own_app w1 (b5 + 1) q 22 fa fc pre b9 y (own_below HO.out hb1) hta (by omega) (Nat.le_trans HZ.out hb1.size)
        refine ⟨.slice f2 (q + 1) c2, w6, hrun, ?_, ?_⟩
        · intro i hi p' e' hp' he'
          obtain rfl : i = 9 := by simpa using hi
          cases hp'
          cases he'
          exact obl_at (.pointer (some ⟨b5, 1, none⟩)) (by intro cs b h; cases h) (by kernel_rfl) (by kernel_rfl) rfl (by simp [execOp, evE, lk_cons, lk_nil, weak, weak1, slotL, go_sem])
        have K6O := Lib.hid hown
        have K6K : Hid (Blk w6 b5 [.int .i64 n, .slice fa q fc] 24) := (HBK.out.below hb1).block (hgrow.block _ (HBK.out.below hb1).lt (fun e => own_ne (own_below HO.out hb1) (HBK.out.below hb1) e.symm))
        have K61 : Hid (Blk w6 b1 [.int .i64 n, .slice (some ⟨lb, lo, none⟩) m cap] 24) := (H1.out.below hb1).block (hgrow.block _ (H1.out.below hb1).lt (fun e => own_ne (own_below HO.out hb1) (H1.out.below hb1) e.symm))
        have K64 : Hid (Blk w6 b4 [.int .i64 0, .slice none 0 0] 24) := (H4.out.below hb1).block (hgrow.block _ (H4.out.below hb1).lt (fun e => own_ne (own_below HO.out hb1) (H4.out.below hb1) e.symm))
        have K6S : Hid (b5 + 1 ≤ w6.heap.size) := Nat.le_trans HZ.out (Nat.le_trans hb1.size hgrow.size)
        have K6W : Hid (Below w.heap.size w w6) := (H.out.old.trans (hb1.mono H.out.old.size)).grown hgrow (by have := H.out.old.size; have := hb1.size; omega) (fun q' hq' => by have := (World.ownsRow.lt HO.out q' hq').1; have := HBB.out; omega)
        clear hrun hown hgrow hta hb1 hC
        refine chain_end (by rfl) ?_
        intro xs w7 hw7 hre
        obtain rfl : w7 = w6 := hw7
        clear hre
        simp only [layE, weak, weak1, List.foldr_cons, List.foldr_nil, List.set_cons_succ, List.set_cons_zero]
        have n1 := K6K.out.cell (i := 1) rfl
        have f1 := K6K.out.frozen 1
        have H7 : Hid (HGr w (b5 + 1) b5 n ((ts.take (k + 1)).eraseIdx i) (w7.setCell ⟨b5, 1, none⟩ (.slice f2 (q + 1) c2))) := by
          refine ⟨⟨_, ?_, K6K.out.set_ 1 _⟩, K6W.out.setCell (by have := HBB.out; show w.heap.size ≤ b5; omega) _⟩
          rw [HST.out, List.length_append, ← HQL.out]
          exact ownsRow_setCell_below K6O.out (Nat.lt_succ_self _) _
        have o1 : Only b5 w7 (w7.setCell ⟨b5, 1, none⟩ (.slice f2 (q + 1) c2)) := (Only.refl b5 w7).set_ 1 _
        have H71 : Hid (Blk (w7.setCell ⟨b5, 1, none⟩ (.slice f2 (q + 1) c2)) b1 [.int .i64 n, .slice (some ⟨lb, lo, none⟩) m cap] 24) := K61.out.only o1 (by have := HBB.out; omega)
        have H74 : Hid (Blk (w7.setCell ⟨b5, 1, none⟩ (.slice f2 (q + 1) c2)) b4 [.int .i64 0, .slice none 0 0] 24) := K64.out.only o1 (by have := HBB.out; omega)
        have H7S : Hid (b5 + 1 ≤ (w7.setCell ⟨b5, 1, none⟩ (.slice f2 (q + 1) c2)).heap.size) := Nat.le_trans K6S.out o1.2
        clear o1 K6O K6K K61 K64 K6S K6W
        go_wp2_with fail
        go_roundg (gk - 1)
        case measure => omega
        case rel => exact ⟨k + 1, by omega, by simp, H7, H71, H74, H7S⟩
    · have e : m = k := by omega
      subst e
      have t1 : decide (m < m) = false := by simp
      have hts : ts.take m = ts := List.take_of_length_le (by rw [← HM.out]; omega)
      rw [hts] at H
      clear hts
      obtain ⟨tv, hown, hblk⟩ := H.out.own
      obtain ⟨fa, fc, rfl, hm0, hfi⟩ := own_ties hown
      have HOW := Lib.hid hown
      generalize hF : ts.eraseIdx i = F at *
      have c50 := hblk.cell (i := 0) rfl
      have c51 := hblk.cell (i := 1) rfl
      have d0 := H4.out.cell (i := 0) rfl
      have d1 := H4.out.cell (i := 1) rfl
      have f0 := H4.out.frozen 0
      have f1 := H4.out.frozen 1
      have HOLD := Lib.hid H.out.old
      have HFF := Lib.hid hF
      clear hown hblk hm0 hfi hF H
      go_wp2_with fail
      refine named (fun V => Blk V b4 [.int .i64 n, .slice fa F.length fc] 24 ∧ V.ownsRow w.heap.size 33 5 (.slice fa F.length fc) F.length (tvL F) ∧ Below w.heap.size w V) ?_ ?_
      · have hq4 : w.heap.size ≤ b4 := by have := HBB.out; omega
        refine ⟨(H4.out.set_ 0 _).set_ 1 _, ?_, (HOLD.out.setCell hq4 _).setCell hq4 _⟩
        have hb : b4 < b5 + 1 := by have := HBB.out; omega
        exact own_mono (ownsRow_setCell_below (ownsRow_setCell_below HOW.out (a := ⟨b4, 0, none⟩) hb (.int .i64 n)) (a := ⟨b4, 1, none⟩) hb (.slice fa F.length fc)) (by have := HBB.out; omega)
      rintro V ⟨V1, V2, V3⟩
      have e0 := V1.cell (i := 0) rfl
      have e1 := V1.cell (i := 1) rfl
      refine bodyPost_ret (v := .agg #[.int .i64 n, .slice fa F.length fc]) (by simp [results, Tryz.results9, go_sem, e0, e1]) rfl ?_
      exact ⟨_, rfl, by rw [HFF.out]; exact V2, V3⟩
theorem slice_run (ty : TypeId) (a : Option Addr) (len cap : Nat) (lo hi : Option Value) (v : Value) (w : World) (h : ∀ s, ((sizeOf 33).run Tryz.prog w = .ok s w) → (Instr.slice 22 (.slice a len cap) lo hi none).run Tryz.prog w = .ok v w) : (Instr.slice 22 (.slice a len cap) lo hi none).run Tryz.prog w = .ok v w := by
  obtain ⟨i0, hi0, hz0, hz1, hz2⟩ := info_parts infoT
  exact h 5 (by simp [sizeOf, typeInfo, hi0, hz1])
theorem slice_take (b o cap m i : Nat) (hi : i < m) (hc : m ≤ cap) : ∃ a' c', (∀ w, (Instr.sliceAt 22 (.slice (some ⟨b, o, none⟩) m cap) none (some (.int .i64 (i : Int))) none).run Tryz.prog w = .ok (.slice a' i c') w) ∧ ∀ W (ts : List TieD), ts.length = m → TiesAt W (some ⟨b, o, none⟩) ts → TiesAt W a' (ts.take i) := by
  obtain ⟨i0, hi0, hz0, hz1, hz2⟩ := info_parts infoT
  have hs : ∀ w, (sizeOf (Tryz.prog.elem 22)).run Tryz.prog w = .ok 5 w := fun w => by
    rw [show Tryz.prog.elem 22 = 33 from by kernel_rfl]; simp [sizeOf, typeInfo, hi0, hz1]
  refine ⟨some ⟨b, o, none⟩, cap, fun w => ?_, fun W ts hl hT => ?_⟩
  · rw [run_sliceAt_slice w 22 _ _ _ _ (by kernel_rfl), run_slice_h w 22 (some ⟨b, o, none⟩) m cap (by kernel_rfl) .i64 (i : Int) (by omega) (by omega), hs]
    have hcap : ¬ cap = 0 := by omega
    simp [Result.andThen, sliced, hcap, addr_plain]
  · rcases hT with rfl | ⟨b', o', e, hlt, h⟩
    · simp at hl; omega
    · exact .inr ⟨b', o', e, hlt, fun k t hk => h k t (by
        rw [List.getElem?_take] at hk
        split at hk
        · exact hk
        · cases hk)⟩
theorem slice_drop (b o cap m i : Nat) (hi : i < m) (hc : m ≤ cap) : ∃ a' c', (∀ w, (Instr.sliceAt 22 (.slice (some ⟨b, o, none⟩) m cap) (some (.int .i64 ((i : Int) + 1))) none none).run Tryz.prog w = .ok (.slice a' (m - (i + 1)) c') w) ∧ ∀ W (ts : List TieD), ts.length = m → TiesAt W (some ⟨b, o, none⟩) ts → TiesAt W a' (ts.drop (i + 1)) := by
  obtain ⟨i0, hi0, hz0, hz1, hz2⟩ := info_parts infoT
  have hs : ∀ w, (sizeOf (Tryz.prog.elem 22)).run Tryz.prog w = .ok 5 w := fun w => by
    rw [show Tryz.prog.elem 22 = 33 from by kernel_rfl]; simp [sizeOf, typeInfo, hi0, hz1]
  have hr : ∀ w, (Instr.sliceAt 22 (.slice (some ⟨b, o, none⟩) m cap) (some (.int .i64 ((i : Int) + 1))) none none).run Tryz.prog w = .ok (sliced (some ⟨b, o, none⟩) (i + 1) m cap 5) w := fun w => by
    rw [run_sliceAt_slice w 22 _ _ _ _ (by kernel_rfl), run_slice_l w 22 (some ⟨b, o, none⟩) m cap (by kernel_rfl) .i64 ((i : Int) + 1) (by omega) (by omega), hs]
    simp [Result.andThen]
  by_cases hcap : cap = i + 1
  · refine ⟨some ⟨b, o, none⟩, cap - (i + 1), fun w => by rw [hr w]; simp [sliced, hcap], fun W ts hl hT => .inl ?_⟩
    exact List.drop_eq_nil_of_le (by omega)
  · refine ⟨some ⟨b, o + (i + 1) * 5, none⟩, cap - (i + 1), fun w => by rw [hr w]; simp [sliced, hcap, addr_plain], fun W ts hl hT => ?_⟩
    rcases hT with rfl | ⟨b', o', e, hlt, h⟩
    · simp at hl; omega
    · simp only [Option.some.injEq, Addr.mk.injEq, and_true] at e
      obtain ⟨rfl, rfl⟩ := e
      refine .inr ⟨b, o + (i + 1) * 5, rfl, hlt, fun k t hk => ?_⟩
      rw [List.getElem?_drop] at hk
      have := h (i + 1 + k) t hk
      rw [show o + (i + 1) * 5 + k * 5 = o + (i + 1 + k) * 5 by omega]; exact this
end Go.Proofs.YtlllmoafhfjbbaaGreat
