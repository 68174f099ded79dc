/- Layer 4: the specification's kept. -/
import Derived.Test.YtmnabonhilkkbaaGreatEt
import Derived.Test.YtmnabonhilkkbaaGreatIx
namespace Go.Proofs.YtmnabonhilkkbaaGreat
set_option linter.unusedSimpArgs false
set_option linter.unusedVariables false
open Go Go.RowKit

/-- An append of one tie to a row of one's own. -/
theorem own_app (w : World) (base q : Nat) (ty : TypeId) (fa : Option Addr) (fc : Nat) (pre : List TieD) (b9 : Nat) (t : TieD) (hown : w.ownsRow base 26 5 (.slice fa q fc) q (tvL pre)) (ht : TieAt w b9 t) (hq : q ≤ 5000) (hb : base ≤ w.heap.size) :
    ∃ f2 c2 w', (Builtin.append_ #[22, 22] ty #[.slice fa q fc, .slice (some ⟨b9, 0, none⟩) 1 1]).run Tryz.prog w = .ok (.slice f2 (q + 1) c2) w' ∧ w'.ownsRow base 26 5 (.slice f2 (q + 1) c2) (q + 1) (tvL (pre ++ [t])) ∧ w.grownBy w' (Value.ownBlock (.slice fa q fc)) := by
  obtain ⟨i0, hi0, hz0, hz1, hz2⟩ := info_parts infoT
  obtain ⟨v', w', h1, h2, h3, _⟩ := run_append_own w base 22 ty 26 i0 _ 5 40 Tryz.underlying22 hi0 hz0 hz1 hz2 rfl (by decide) (.slice fa q fc) q (tvL pre) hown ⟨b9, 0, none⟩ 1 1 (tvC t) rfl (tie_cells ht) (by simp [tvC, Value.oneCell']) (by simp only [maxLen]; omega) (by omega) hb
  obtain ⟨f2, c2, rfl⟩ := own_slice h2
  exact ⟨f2, c2, w', h1, by rw [tvL_snoc]; exact h2, h3⟩
theorem new_tie {w0 w : World} {t : TieD} {ρ : Operand → Value} {o : Oper} (h : (execOp ρ o).run Tryz.prog w = .ok (.value (.slice (some ⟨w.heap.size, 0, none⟩) 1 1)) (w.alloc (.cells #[.int .i64 t.a, .int .i64 t.b, .int .i64 t.kind, .int .i64 t.str, .int .i64 t.src] 26))) (hC : (clOld w0).C w) :
    ∃ u w', (execOp ρ o).run Tryz.prog w = .ok (.value u) w' ∧ (clOld w0).R w w' ∧ tieW t u w' := tieW_new h hC
set_option maxRecDepth 100000 in
set_option maxHeartbeats 4000000 in
theorem keptOwn : KeptOwn := by
  intro p n a cap g ts w hl hs hg
  have HS := Lib.hid hs
  have HG := Lib.hid hg
  obtain ⟨m, hm⟩ : ∃ m, m = ts.length := ⟨_, rfl⟩
  rw [← hm] at hl ⊢
  have HM := Lib.hid hm
  clear hs hm hg
  go_enter Tryz.func35, Tryz.ntmps35
  simp only [gV]
  go_upto_region 2 with (fail)
  refine named (fun V => Hid (Below w.heap.size w V) ∧ Hid (Blk V w.heap.size [.int .i64 n, .slice a m cap] 24) ∧ Hid (Blk V (w.heap.size + 1) [.int .i64 0, .slice none 0 0] 24) ∧ Hid (Blk V (w.heap.size + 1 + 1) [.int .i64 n, .slice none 0 0] 24) ∧ Hid (w.heap.size + 3 ≤ V.heap.size)) ?_ ?_
  · have b1 := Blk.new w [.int .i64 n, .slice a m cap] 24
    have b2 := Blk.new (w.alloc (.cells #[.int .i64 n, .slice a m cap] 24)) [.int .i64 0, .slice none 0 0] 24
    have b3 := Blk.new ((w.alloc (.cells #[.int .i64 n, .slice a m cap] 24)).alloc (.cells #[.int .i64 0, .slice none 0 0] 24)) [.int .i64 n, .slice none 0 0] 24
    refine ⟨(((Below.refl _ _).alloc (Nat.le_refl _) _).alloc (by simp) _).alloc (by simp; omega) _, (b1.block (Below.heap_alloc _ _ _ (by simp))).block (Below.heap_alloc _ _ _ (by simp; omega)), ?_, ?_, by simp [Hid]⟩
    · have := b2.block (Below.heap_alloc _ (.cells #[.int .i64 n, .slice none 0 0] 24) _ b2.lt)
      simpa [Hid] using this
    · simpa [Hid] using b3
  rintro W0 ⟨FB, K1, K4, K5, HZ⟩
  generalize hb1 : w.heap.size = b1 at K1 K4 K5 HZ ⊢
  generalize hb4 : b1 + 1 = b4 at K4 K5 ⊢
  generalize hb5 : b4 + 1 = b5 at K5 ⊢
  have HBB : Hid (w.heap.size = b1 ∧ b1 < b4 ∧ b4 < b5) := ⟨hb1, by omega, by omega⟩
  have HZ5 : Hid (b5 + 1 ≤ W0.heap.size) := by have := HZ.out; rw [Hid]; omega
  have HGL : Hid (g < b1) := by have := HG.out.lt; rw [hb1] at this; exact this
  clear hb1 hb4 hb5 HZ
  have HS0 : Hid (HGr w (b5 + 1) b5 n ((ts.take 0).filter p) W0) := ⟨⟨.slice none 0 0, World.ownsRow_nil _ _ _ _, K5.out⟩, FB.out⟩
  go_wp2_with fail
  go_loopg [6] m (fun gk t6 wr => ∃ k : Nat, k + gk = m ∧ t6 = .int .i64 k ∧ Hid (HGr w (b5 + 1) b5 n ((ts.take k).filter p) wr) ∧ Hid (Blk wr b1 [.int .i64 n, .slice a m cap] 24) ∧ Hid (Blk wr b4 [.int .i64 0, .slice none 0 0] 24) ∧ Hid (b5 + 1 ≤ wr.heap.size))
  case atStart => exact ⟨0, by omega, rfl, HS0, K1, K4, HZ5⟩
  case round =>
    obtain ⟨k, hkg, rfl, H, H1, H4, HZ⟩ := hrel
    clear HS0 K1 K4 K5 HZ5 FB
    have HGW := Lib.hid (HG.out.below H.out.old)
    have c1 := H1.out.cell (i := 1) rfl
    by_cases hlt : k < m
    · have hkl : k < ts.length := by rw [← HM.out]; exact hlt
      obtain ⟨lb, lo, rfl, hlb, x0, x1, x2, x3, x4⟩ := (HS.out.below H.out.old).at hkl
      obtain ⟨st1, st2⟩ := filt_step (p := p) hkl
      have hlen : ((ts.take k).filter p).length ≤ 1000 := by have h1 := List.length_filter_le p (ts.take k); rw [List.length_take] at h1; omega
      have hgc := HGW.out.cell (bvL_get (l := ts.map p) (show (ts.map p)[k]? = some (p ts[k]) by simp [hkl]))
      obtain ⟨y, hy⟩ : ∃ y, y = ts[k] := ⟨_, rfl⟩
      rw [← hy] at x0 x1 x2 x3 x4 st1 st2 hgc
      obtain ⟨pre, hpre⟩ : ∃ pre, pre = (ts.take k).filter p := ⟨_, rfl⟩
      rw [← hpre] at H st1 st2 hlen
      obtain ⟨v, hv⟩ : ∃ v, v = p y := ⟨_, rfl⟩
      rw [← hv] at st1 st2 hgc
      clear hkl hy hpre hv
      have t1 : decide (k < m) = true := decide_eq_true hlt
      have HLT : Hid (k < m) := hlt
      cases v with
      | false =>
        have HST := Lib.hid (st2 rfl)
        clear st1 st2 x0 x1 x2 x3 x4
        go_wp2_with fail
        go_roundg (gk - 1)
        case measure => omega
        case rel => exact ⟨k + 1, by omega, by simp, by rw [HST.out]; exact H, H1, H4, HZ⟩
      | true =>
        have HST := Lib.hid (st1 rfl)
        clear st1 st2
        have HLD : Hid (∀ W, Old wr.drew W → (Instr.loadAt 26 (.pointer (some ⟨lb, lo + k * 5, none⟩))).run Tryz.prog W = .ok (tieV y) W) := fun W h => load_tie (by rw [Below.cell h (by exact hlb)]; exact x0) (by rw [Below.cell h (by exact hlb)]; exact x1) (by rw [Below.cell h (by exact hlb)]; exact x2) (by rw [Below.cell h (by exact hlb)]; exact x3) (by rw [Below.cell h (by exact hlb)]; exact x4)
        obtain ⟨tv, hown, hblk⟩ := H.out.own
        obtain ⟨fa, fc, rfl, hm0, hfi⟩ := own_ties hown
        obtain ⟨q, hq⟩ : ∃ q, q = pre.length := ⟨_, rfl⟩
        rw [← hq] at hown hblk hlen
        have HO := Lib.hid hown
        have HBK := Lib.hid hblk
        have HQL := Lib.hid hq
        clear hown hblk hm0 hfi hq x0 x1 x2 x3 x4 hlb
        go_upto_region 6 with (fail)
        have HOLD : Hid (∀ w1, (clOld wr.drew).C w1 → Below wr.heap.size wr w1) := fun w1 hC => old_end (Below.refl _ _) hC (Nat.le_refl _)
        refine wp_region_late_old 10 32 8 [9] (by kernel_rfl) (by kernel_rfl) (by rfl) ?_
        simp only [List.take_succ_cons, List.take_zero, List.eraseIdx_cons_succ, List.eraseIdx_cons_zero]
        refine chain_val (.pointer (some ⟨b5, 1, none⟩)) (fun _ _ => Below.refl _ _) rfl (by intro cs b h; cases h) (by kernel_rfl) (by kernel_rfl) (fun w1 _ => by simp [execOp, evE, lk_cons, lk_nil, slotL, go_sem]) ?_
        refine chain_load (.slice fa q fc) _ _ _ (fun _ _ => Below.refl _ _) rfl rfl (by kernel_rfl) (by kernel_rfl) rfl (fun w1 hC => load_slq ((HBK.out.below (HOLD.out w1 hC)).cell rfl)) ?_
        refine chain_val (.pointer (some ⟨b1, 1, none⟩)) (fun _ _ => Below.refl _ _) rfl (by intro cs b h; cases h) (by kernel_rfl) (by kernel_rfl) (fun w1 _ => by simp [execOp, evE, lk_cons, lk_nil, slotL, go_sem]) ?_
        refine chain_load (.slice (some ⟨lb, lo, none⟩) m cap) _ _ _ (fun _ _ => Below.refl _ _) rfl rfl (by kernel_rfl) (by kernel_rfl) rfl (fun w1 hC => load_slq ((H1.out.below (HOLD.out w1 hC)).cell rfl)) ?_
        refine chain_move (.int .i64 k) _ (fun _ _ => Below.refl _ _) rfl rfl (by kernel_rfl) (by kernel_rfl) rfl ?_
        refine chain_idx (.pointer (some ⟨lb, lo + k * 5, none⟩)) _ _ _ (.slice (some ⟨lb, lo, none⟩) m cap) (.int .i64 k) (fun _ _ => Below.refl _ _) rfl rfl (by kernel_rfl) (by kernel_rfl) rfl rfl (fun w1 => idx_tie _ _ _ _ _ HLT.out w1) ?_
        refine chain_load (tieV y) _ _ _ (fun _ _ => Below.refl _ _) rfl rfl (by kernel_rfl) (by kernel_rfl) rfl (fun w1 hC => HLD.out w1 hC) ?_
        refine chain_new (tieW y) (tieW_lasts _) rfl (by intro cs b h; cases h) (by kernel_rfl) (by kernel_rfl) (fun w1 hC => new_tie (by simp [execOp, evE, lk_cons, lk_nil, go_sem, Instr.buildSlice, tieV]) hC) ?_
        refine chain_val (.pointer (some ⟨b5, 1, none⟩)) (fun _ _ => Below.refl _ _) rfl (by intro cs b h; cases h) (by kernel_rfl) (by kernel_rfl) (fun w1 _ => by simp [execOp, evE, lk_cons, lk_nil, slotL, go_sem]) ?_
        refine after_app 22 28 (by rfl) (by rfl) (by rfl) (by rfl) (by kernel_rfl) (by kernel_rfl) ?_
        intro x z w1 hC hx hz
        replace hx : x = .slice fa q fc := hx
        subst hx
        replace hz : tieW y z w1 := hz
        obtain ⟨b9, rfl, hta⟩ := hz
        have hb1 := HOLD.out w1 hC
        obtain ⟨f2, c2, w6, hrun, hown, hgrow⟩ := own_app w1 (b5 + 1) q 22 fa fc pre b9 y (own_below HO.out hb1) hta (by omega) (Nat.le_trans HZ.out hb1.size)
        refine ⟨.slice f2 (q + 1) c2, w6, hrun, ?_, ?_⟩
        · intro i hi p' e' hp' he'
          obtain rfl : i = 9 := by simpa using hi
          cases hp'
          cases he'
          exact obl_at (.pointer (some ⟨b5, 1, none⟩)) (by intro cs b h; cases h) (by kernel_rfl) (by kernel_rfl) rfl (by simp [execOp, evE, lk_cons, lk_nil, weak, weak1, slotL, go_sem])
        have K6O := Lib.hid hown
        have K6K : Hid (Blk w6 b5 [.int .i64 n, .slice fa q fc] 24) := (HBK.out.below hb1).block (hgrow.block _ (HBK.out.below hb1).lt (fun e => own_ne (own_below HO.out hb1) (HBK.out.below hb1) e.symm))
        have K61 : Hid (Blk w6 b1 [.int .i64 n, .slice (some ⟨lb, lo, none⟩) m cap] 24) := (H1.out.below hb1).block (hgrow.block _ (H1.out.below hb1).lt (fun e => own_ne (own_below HO.out hb1) (H1.out.below hb1) e.symm))
        have K64 : Hid (Blk w6 b4 [.int .i64 0, .slice none 0 0] 24) := (H4.out.below hb1).block (hgrow.block _ (H4.out.below hb1).lt (fun e => own_ne (own_below HO.out hb1) (H4.out.below hb1) e.symm))
        have K6S : Hid (b5 + 1 ≤ w6.heap.size) := Nat.le_trans HZ.out (Nat.le_trans hb1.size hgrow.size)
        have K6W : Hid (Below w.heap.size w w6) := (H.out.old.trans (hb1.mono H.out.old.size)).grown hgrow (by have := H.out.old.size; have := hb1.size; omega) (fun q' hq' => by have := (World.ownsRow.lt HO.out q' hq').1; have := HBB.out; omega)
        clear hrun hown hgrow hta hb1 hC
        refine chain_end (by rfl) ?_
        intro xs w7 hw7 hre
        obtain rfl : w7 = w6 := hw7
        clear hre
        simp only [layE, weak, weak1, List.foldr_cons, List.foldr_nil, List.set_cons_succ, List.set_cons_zero]
        have n1 := K6K.out.cell (i := 1) rfl
        have f1 := K6K.out.frozen 1
        have H7 : Hid (HGr w (b5 + 1) b5 n ((ts.take (k + 1)).filter p) (w7.setCell ⟨b5, 1, none⟩ (.slice f2 (q + 1) c2))) := by
          refine ⟨⟨_, ?_, K6K.out.set_ 1 _⟩, K6W.out.setCell (by have := HBB.out; show w.heap.size ≤ b5; omega) _⟩
          rw [HST.out, List.length_append, ← HQL.out]
          exact ownsRow_setCell_below K6O.out (Nat.lt_succ_self _) _
        have o1 : Only b5 w7 (w7.setCell ⟨b5, 1, none⟩ (.slice f2 (q + 1) c2)) := (Only.refl b5 w7).set_ 1 _
        have H71 : Hid (Blk (w7.setCell ⟨b5, 1, none⟩ (.slice f2 (q + 1) c2)) b1 [.int .i64 n, .slice (some ⟨lb, lo, none⟩) m cap] 24) := K61.out.only o1 (by have := HBB.out; omega)
        have H74 : Hid (Blk (w7.setCell ⟨b5, 1, none⟩ (.slice f2 (q + 1) c2)) b4 [.int .i64 0, .slice none 0 0] 24) := K64.out.only o1 (by have := HBB.out; omega)
        have H7S : Hid (b5 + 1 ≤ (w7.setCell ⟨b5, 1, none⟩ (.slice f2 (q + 1) c2)).heap.size) := Nat.le_trans K6S.out o1.2
        clear o1 K6O K6K K61 K64 K6S K6W
        go_wp2_with fail
        go_roundg (gk - 1)
        case measure => omega
        case rel => exact ⟨k + 1, by omega, by simp, H7, H71, H74, H7S⟩
    · have e : m = k := by omega
      subst e
      have t1 : decide (m < m) = false := by simp
      have hts : ts.take m = ts := List.take_of_length_le (by rw [← HM.out]; omega)
      rw [hts] at H
      clear hts
      obtain ⟨tv, hown, hblk⟩ := H.out.own
      obtain ⟨fa, fc, rfl, hm0, hfi⟩ := own_ties hown
      have HOW := Lib.hid hown
      generalize hF : ts.filter p = F at *
      have c50 := hblk.cell (i := 0) rfl
      have c51 := hblk.cell (i := 1) rfl
      have d0 := H4.out.cell (i := 0) rfl
      have d1 := H4.out.cell (i := 1) rfl
      have f0 := H4.out.frozen 0
      have f1 := H4.out.frozen 1
      have HOLD := Lib.hid H.out.old
      have HFF := Lib.hid hF
      clear hown hblk hm0 hfi hF H
      go_wp2_with fail
      refine named (fun V => Blk V b4 [.int .i64 n, .slice fa F.length fc] 24 ∧ V.ownsRow w.heap.size 26 5 (.slice fa F.length fc) F.length (tvL F) ∧ Below w.heap.size w V) ?_ ?_
      · have hq4 : w.heap.size ≤ b4 := by have := HBB.out; omega
        refine ⟨(H4.out.set_ 0 _).set_ 1 _, ?_, (HOLD.out.setCell hq4 _).setCell hq4 _⟩
        have hb : b4 < b5 + 1 := by have := HBB.out; omega
        exact own_mono (ownsRow_setCell_below (ownsRow_setCell_below HOW.out (a := ⟨b4, 0, none⟩) hb (.int .i64 n)) (a := ⟨b4, 1, none⟩) hb (.slice fa F.length fc)) (by have := HBB.out; omega)
      rintro V ⟨V1, V2, V3⟩
      have e0 := V1.cell (i := 0) rfl
      have e1 := V1.cell (i := 1) rfl
      refine bodyPost_ret (v := .agg #[.int .i64 n, .slice fa F.length fc]) (by simp [results, Tryz.results35, go_sem, e0, e1]) rfl ?_
      exact ⟨_, rfl, by rw [HFF.out]; exact V2, V3⟩
end Go.Proofs.YtmnabonhilkkbaaGreat
