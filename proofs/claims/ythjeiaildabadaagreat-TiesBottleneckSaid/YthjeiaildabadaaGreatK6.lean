/- Layer 4: the specification's kept. / Layer 4: Add of the program. / A queue in a row of one's own: a slice that loses its first elements and gets others behind it. -/
import Derived.Test.YthjeiaildabadaaGreatK5
import Derived.Test.YthjeiaildabadaaGreatIx
/- Layer 4: the specification's kept. -/
namespace Go.Proofs.YthjeiaildabadaaGreat
set_option linter.unusedSimpArgs false
set_option linter.unusedVariables false
open Go Go.RowKit

/-- An append of one tie to a row of one's own. -/
theorem own_app (w : World) (base q : Nat) (ty : TypeId) (fa : Option Addr) (fc : Nat) (pre : List TieD) (b9 : Nat) (t : TieD) (hown : w.ownsRow base 54 5 (.slice fa q fc) q (tvL pre)) (ht : TieAt w b9 t) (hq : q ≤ 5000) (hb : base ≤ w.heap.size) :
    ∃ f2 c2 w', (Builtin.append_ #[22, 22] ty #[.slice fa q fc, .slice (some ⟨b9, 0, none⟩) 1 1]).run Tryz.prog w = .ok (.slice f2 (q + 1) c2) w' ∧ w'.ownsRow base 54 5 (.slice f2 (q + 1) c2) (q + 1) (tvL (pre ++ [t])) ∧ w.grownBy w' (Value.ownBlock (.slice fa q fc)) := by
  obtain ⟨i0, hi0, hz0, hz1, hz2⟩ := info_parts infoT
  obtain ⟨v', w', h1, h2, h3, _⟩ := run_append_own w base 22 ty 54 i0 _ 5 40 Tryz.underlying22 hi0 hz0 hz1 hz2 rfl (by decide) (.slice fa q fc) q (tvL pre) hown ⟨b9, 0, none⟩ 1 1 (tvC t) rfl (tie_cells ht) (by simp [tvC, Value.oneCell']) (by simp only [maxLen]; omega) (by omega) hb
  obtain ⟨f2, c2, rfl⟩ := own_slice h2
  exact ⟨f2, c2, w', h1, by rw [tvL_snoc]; exact h2, h3⟩
theorem new_tie {w0 w : World} {t : TieD} {ρ : Operand → Value} {o : Oper} (h : (execOp ρ o).run Tryz.prog w = .ok (.value (.slice (some ⟨w.heap.size, 0, none⟩) 1 1)) (w.alloc (.cells #[.int .i64 t.a, .int .i64 t.b, .int .i64 t.kind, .int .i64 t.str, .int .i64 t.src] 54))) (hC : (clOld w0).C w) :
    ∃ u w', (execOp ρ o).run Tryz.prog w = .ok (.value u) w' ∧ (clOld w0).R w w' ∧ tieW t u w' := tieW_new h hC
set_option maxRecDepth 100000 in
set_option maxHeartbeats 4000000 in
theorem keptOwn : KeptOwn := by
  intro p n a cap g ts w hl hs hg
  have HS := Lib.hid hs
  have HG := Lib.hid hg
  obtain ⟨m, hm⟩ : ∃ m, m = ts.length := ⟨_, rfl⟩
  rw [← hm] at hl ⊢
  have HM := Lib.hid hm
  clear hs hm hg
  go_enter Tryz.func48, Tryz.ntmps48
  simp only [gV]
  go_upto_region 2 with (fail)
  refine named (fun V => Hid (Below w.heap.size w V) ∧ Hid (Blk V w.heap.size [.int .i64 n, .slice a m cap] 24) ∧ Hid (Blk V (w.heap.size + 1) [.int .i64 0, .slice none 0 0] 24) ∧ Hid (Blk V (w.heap.size + 1 + 1) [.int .i64 n, .slice none 0 0] 24) ∧ Hid (w.heap.size + 3 ≤ V.heap.size)) ?_ ?_
  · have b1 := Blk.new w [.int .i64 n, .slice a m cap] 24
    have b2 := Blk.new (w.alloc (.cells #[.int .i64 n, .slice a m cap] 24)) [.int .i64 0, .slice none 0 0] 24
    have b3 := Blk.new ((w.alloc (.cells #[.int .i64 n, .slice a m cap] 24)).alloc (.cells #[.int .i64 0, .slice none 0 0] 24)) [.int .i64 n, .slice none 0 0] 24
    refine ⟨(((Below.refl _ _).alloc (Nat.le_refl _) _).alloc (by simp) _).alloc (by simp; omega) _, (b1.block (Below.heap_alloc _ _ _ (by simp))).block (Below.heap_alloc _ _ _ (by simp; omega)), ?_, ?_, by simp [Hid]⟩
    · have := b2.block (Below.heap_alloc _ (.cells #[.int .i64 n, .slice none 0 0] 24) _ b2.lt)
      simpa [Hid] using this
    · simpa [Hid] using b3
  rintro W0 ⟨FB, K1, K4, K5, HZ⟩
  generalize hb1 : w.heap.size = b1 at K1 K4 K5 HZ ⊢
  generalize hb4 : b1 + 1 = b4 at K4 K5 ⊢
  generalize hb5 : b4 + 1 = b5 at K5 ⊢
  have HBB : Hid (w.heap.size = b1 ∧ b1 < b4 ∧ b4 < b5) := ⟨hb1, by omega, by omega⟩
  have HZ5 : Hid (b5 + 1 ≤ W0.heap.size) := by have := HZ.out; rw [Hid]; omega
  have HGL : Hid (g < b1) := by have := HG.out.lt; rw [hb1] at this; exact this
  clear hb1 hb4 hb5 HZ
  have HS0 : Hid (HGr w (b5 + 1) b5 n ((ts.take 0).filter p) W0) := ⟨⟨.slice none 0 0, World.ownsRow_nil _ _ _ _, K5.out⟩, FB.out⟩
  go_wp2_with fail
  go_loopg [6] m (fun gk t6 wr => ∃ k : Nat, k + gk = m ∧ t6 = .int .i64 k ∧ Hid (HGr w (b5 + 1) b5 n ((ts.take k).filter p) wr) ∧ Hid (Blk wr b1 [.int .i64 n, .slice a m cap] 24) ∧ Hid (Blk wr b4 [.int .i64 0, .slice none 0 0] 24) ∧ Hid (b5 + 1 ≤ wr.heap.size))
  case atStart => exact ⟨0, by omega, rfl, HS0, K1, K4, HZ5⟩
  case round =>
    obtain ⟨k, hkg, rfl, H, H1, H4, HZ⟩ := hrel
    clear HS0 K1 K4 K5 HZ5 FB
    have HGW := Lib.hid (HG.out.below H.out.old)
    have c1 := H1.out.cell (i := 1) rfl
    by_cases hlt : k < m
    · have hkl : k < ts.length := by rw [← HM.out]; exact hlt
      obtain ⟨lb, lo, rfl, hlb, x0, x1, x2, x3, x4⟩ := (HS.out.below H.out.old).at hkl
      obtain ⟨st1, st2⟩ := filt_step (p := p) hkl
      have hlen : ((ts.take k).filter p).length ≤ 1000 := by have h1 := List.length_filter_le p (ts.take k); rw [List.length_take] at h1; omega
      have hgc := HGW.out.cell (bvL_get (l := ts.map p) (show (ts.map p)[k]? = some (p ts[k]) by simp [hkl]))
      obtain ⟨y, hy⟩ : ∃ y, y = ts[k] := ⟨_, rfl⟩
      rw [← hy] at x0 x1 x2 x3 x4 st1 st2 hgc
      obtain ⟨pre, hpre⟩ : ∃ pre, pre = (ts.take k).filter p := ⟨_, rfl⟩
      rw [← hpre] at H st1 st2 hlen
      obtain ⟨v, hv⟩ : ∃ v, v = p y := ⟨_, rfl⟩
      rw [← hv] at st1 st2 hgc
      clear hkl hy hpre hv
      have t1 : decide (k < m) = true := decide_eq_true hlt
      have HLT : Hid (k < m) := hlt
      cases v with
      | false =>
        have HST := Lib.hid (st2 rfl)
        clear st1 st2 x0 x1 x2 x3 x4
        go_wp2_with fail
        go_roundg (gk - 1)
        case measure => omega
        case rel => exact ⟨k + 1, by omega, by simp, by rw [HST.out]; exact H, H1, H4, HZ⟩
      | true =>
        have HST := Lib.hid (st1 rfl)
        clear st1 st2
        have HLD : Hid (∀ W, Old wr.drew W → (Instr.loadAt 54 (.pointer (some ⟨lb, lo + k * 5, none⟩))).run Tryz.prog W = .ok (tieV y) W) := fun W h => load_tie (by rw [Below.cell h (by exact hlb)]; exact x0) (by rw [Below.cell h (by exact hlb)]; exact x1) (by rw [Below.cell h (by exact hlb)]; exact x2) (by rw [Below.cell h (by exact hlb)]; exact x3) (by rw [Below.cell h (by exact hlb)]; exact x4)
        obtain ⟨tv, hown, hblk⟩ := H.out.own
        obtain ⟨fa, fc, rfl, hm0, hfi⟩ := own_ties hown
        obtain ⟨q, hq⟩ : ∃ q, q = pre.length := ⟨_, rfl⟩
        rw [← hq] at hown hblk hlen
        have HO := Lib.hid hown
        have HBK := Lib.hid hblk
        have HQL := Lib.hid hq
        clear hown hblk hm0 hfi hq x0 x1 x2 x3 x4 hlb
        go_upto_region 6 with (fail)
        have HOLD : Hid (∀ w1, (clOld wr.drew).C w1 → Below wr.heap.size wr w1) := fun w1 hC => old_end (Below.refl _ _) hC (Nat.le_refl _)
        refine wp_region_late_old 10 32 8 [9] (by kernel_rfl) (by kernel_rfl) (by rfl) ?_
        simp only [List.take_succ_cons, List.take_zero, List.eraseIdx_cons_succ, List.eraseIdx_cons_zero]
        refine chain_val (.pointer (some ⟨b5, 1, none⟩)) (fun _ _ => Below.refl _ _) rfl (by intro cs b h; cases h) (by kernel_rfl) (by kernel_rfl) (fun w1 _ => by simp [execOp, evE, lk_cons, lk_nil, slotL, go_sem]) ?_
        refine chain_load (.slice fa q fc) _ _ _ (fun _ _ => Below.refl _ _) rfl rfl (by kernel_rfl) (by kernel_rfl) rfl (fun w1 hC => load_slq ((HBK.out.below (HOLD.out w1 hC)).cell rfl)) ?_
        refine chain_val (.pointer (some ⟨b1, 1, none⟩)) (fun _ _ => Below.refl _ _) rfl (by intro cs b h; cases h) (by kernel_rfl) (by kernel_rfl) (fun w1 _ => by simp [execOp, evE, lk_cons, lk_nil, slotL, go_sem]) ?_
        refine chain_load (.slice (some ⟨lb, lo, none⟩) m cap) _ _ _ (fun _ _ => Below.refl _ _) rfl rfl (by kernel_rfl) (by kernel_rfl) rfl (fun w1 hC => load_slq ((H1.out.below (HOLD.out w1 hC)).cell rfl)) ?_
        refine chain_move (.int .i64 k) _ (fun _ _ => Below.refl _ _) rfl rfl (by kernel_rfl) (by kernel_rfl) rfl ?_
        refine chain_idx (.pointer (some ⟨lb, lo + k * 5, none⟩)) _ _ _ (.slice (some ⟨lb, lo, none⟩) m cap) (.int .i64 k) (fun _ _ => Below.refl _ _) rfl rfl (by kernel_rfl) (by kernel_rfl) rfl rfl (fun w1 => idx_tie _ _ _ _ _ HLT.out w1) ?_
        refine chain_load (tieV y) _ _ _ (fun _ _ => Below.refl _ _) rfl rfl (by kernel_rfl) (by kernel_rfl) rfl (fun w1 hC => HLD.out w1 hC) ?_
        refine chain_new (tieW y) (tieW_lasts _) rfl (by intro cs b h; cases h) (by kernel_rfl) (by kernel_rfl) (fun w1 hC => new_tie (by simp [execOp, evE, lk_cons, lk_nil, go_sem, Instr.buildSlice, tieV]) hC) ?_
        refine chain_val (.pointer (some ⟨b5, 1, none⟩)) (fun _ _ => Below.refl _ _) rfl (by intro cs b h; cases h) (by kernel_rfl) (by kernel_rfl) (fun w1 _ => by simp [execOp, evE, lk_cons, lk_nil, slotL, go_sem]) ?_
        refine after_app 22 28 (by rfl) (by rfl) (by rfl) (by rfl) (by kernel_rfl) (by kernel_rfl) ?_
        intro x z w1 hC hx hz
        replace hx : x = .slice fa q fc := hx
        subst hx
        replace hz : tieW y z w1 := hz
        obtain ⟨b9, rfl, hta⟩ := hz
        have hb1 := HOLD.out w1 hC
        obtain ⟨f2, c2, w6, hrun, hown, hgrow⟩ := own_app w1 (b5 + 1) q 22 fa fc pre b9 y (own_below HO.out hb1) hta (by omega) (Nat.le_trans HZ.out hb1.size)
        refine ⟨.slice f2 (q + 1) c2, w6, hrun, ?_, ?_⟩
        · intro i hi p' e' hp' he'
          obtain rfl : i = 9 := by simpa using hi
          cases hp'
          cases he'
          exact obl_at (.pointer (some ⟨b5, 1, none⟩)) (by intro cs b h; cases h) (by kernel_rfl) (by kernel_rfl) rfl (by simp [execOp, evE, lk_cons, lk_nil, weak, weak1, slotL, go_sem])
        have K6O := Lib.hid hown
        have K6K : Hid (Blk w6 b5 [.int .i64 n, .slice fa q fc] 24) := (HBK.out.below hb1).block (hgrow.block _ (HBK.out.below hb1).lt (fun e => own_ne (own_below HO.out hb1) (HBK.out.below hb1) e.symm))
        have K61 : Hid (Blk w6 b1 [.int .i64 n, .slice (some ⟨lb, lo, none⟩) m cap] 24) := (H1.out.below hb1).block (hgrow.block _ (H1.out.below hb1).lt (fun e => own_ne (own_below HO.out hb1) (H1.out.below hb1) e.symm))
        have K64 : Hid (Blk w6 b4 [.int .i64 0, .slice none 0 0] 24) := (H4.out.below hb1).block (hgrow.block _ (H4.out.below hb1).lt (fun e => own_ne (own_below HO.out hb1) (H4.out.below hb1) e.symm))
        have K6S : Hid (b5 + 1 ≤ w6.heap.size) := Nat.le_trans HZ.out (Nat.le_trans hb1.size hgrow.size)
        have K6W : Hid (Below w.heap.size w w6) := (H.out.old.trans (hb1.mono H.out.old.size)).grown hgrow (by have := H.out.old.size; have := hb1.size; omega) (fun q' hq' => by have := (World.ownsRow.lt HO.out q' hq').1; have := HBB.out; omega)
        clear hrun hown hgrow hta hb1 hC
        refine chain_end (by rfl) ?_
        intro xs w7 hw7 hre
        obtain rfl : w7 = w6 := hw7
        clear hre
        simp only [layE, weak, weak1, List.foldr_cons, List.foldr_nil, List.set_cons_succ, List.set_cons_zero]
        have n1 := K6K.out.cell (i := 1) rfl
        have f1 := K6K.out.frozen 1
        have H7 : Hid (HGr w (b5 + 1) b5 n ((ts.take (k + 1)).filter p) (w7.setCell ⟨b5, 1, none⟩ (.slice f2 (q + 1) c2))) := by
          refine ⟨⟨_, ?_, K6K.out.set_ 1 _⟩, K6W.out.setCell (by have := HBB.out; show w.heap.size ≤ b5; omega) _⟩
          rw [HST.out, List.length_append, ← HQL.out]
          exact ownsRow_setCell_below K6O.out (Nat.lt_succ_self _) _
        have o1 : Only b5 w7 (w7.setCell ⟨b5, 1, none⟩ (.slice f2 (q + 1) c2)) := (Only.refl b5 w7).set_ 1 _
        have H71 : Hid (Blk (w7.setCell ⟨b5, 1, none⟩ (.slice f2 (q + 1) c2)) b1 [.int .i64 n, .slice (some ⟨lb, lo, none⟩) m cap] 24) := K61.out.only o1 (by have := HBB.out; omega)
        have H74 : Hid (Blk (w7.setCell ⟨b5, 1, none⟩ (.slice f2 (q + 1) c2)) b4 [.int .i64 0, .slice none 0 0] 24) := K64.out.only o1 (by have := HBB.out; omega)
        have H7S : Hid (b5 + 1 ≤ (w7.setCell ⟨b5, 1, none⟩ (.slice f2 (q + 1) c2)).heap.size) := Nat.le_trans K6S.out o1.2
        clear o1 K6O K6K K61 K64 K6S K6W
        go_wp2_with fail
        go_roundg (gk - 1)
        case measure => omega
        case rel => exact ⟨k + 1, by omega, by simp, H7, H71, H74, H7S⟩
    · have e : m = k := by omega
      subst e
      have t1 : decide (m < m) = false := by simp
      have hts : ts.take m = ts := List.take_of_length_le (by rw [← HM.out]; omega)
      rw [hts] at H
      clear hts
      obtain ⟨tv, hown, hblk⟩ := H.out.own
      obtain ⟨fa, fc, rfl, hm0, hfi⟩ := own_ties hown
      have HOW := Lib.hid hown
      generalize hF : ts.filter p = F at *
      have c50 := hblk.cell (i := 0) rfl
      have c51 := hblk.cell (i := 1) rfl
      have d0 := H4.out.cell (i := 0) rfl
      have d1 := H4.out.cell (i := 1) rfl
      have f0 := H4.out.frozen 0
      have f1 := H4.out.frozen 1
      have HOLD := Lib.hid H.out.old
      have HFF := Lib.hid hF
      clear hown hblk hm0 hfi hF H
      go_wp2_with fail
      refine named (fun V => Blk V b4 [.int .i64 n, .slice fa F.length fc] 24 ∧ V.ownsRow w.heap.size 54 5 (.slice fa F.length fc) F.length (tvL F) ∧ Below w.heap.size w V) ?_ ?_
      · have hq4 : w.heap.size ≤ b4 := by have := HBB.out; omega
        refine ⟨(H4.out.set_ 0 _).set_ 1 _, ?_, (HOLD.out.setCell hq4 _).setCell hq4 _⟩
        have hb : b4 < b5 + 1 := by have := HBB.out; omega
        exact own_mono (ownsRow_setCell_below (ownsRow_setCell_below HOW.out (a := ⟨b4, 0, none⟩) hb (.int .i64 n)) (a := ⟨b4, 1, none⟩) hb (.slice fa F.length fc)) (by have := HBB.out; omega)
      rintro V ⟨V1, V2, V3⟩
      have e0 := V1.cell (i := 0) rfl
      have e1 := V1.cell (i := 1) rfl
      refine bodyPost_ret (v := .agg #[.int .i64 n, .slice fa F.length fc]) (by simp [results, Tryz.results48, go_sem, e0, e1]) rfl ?_
      exact ⟨_, rfl, by rw [HFF.out]; exact V2, V3⟩
end Go.Proofs.YthjeiaildabadaaGreat
/- Layer 4: Add of the program. -/
namespace Go.Proofs.YthjeiaildabadaaGreat
set_option linter.unusedSimpArgs false
set_option linter.unusedVariables false
open Go Go.RowKit

def ownW (B m : Nat) (xs : List Value) : Word := fun u w => w.ownsRow B 54 5 u m xs
theorem ownW_lasts {w0 : World} (B m : Nat) (xs : List Value) : lasts (clOld w0) (ownW B m xs) := fun v w w' _ hR h => own_below h hR
set_option maxRecDepth 100000 in
set_option maxHeartbeats 4000000 in
theorem tAdd_any (t : TieD) (n : Int) (a : Option Addr) (cap : Nat) (ts : List TieD) (w : World) (hl : ts.length ≤ 9223372036854775807) (hs : TiesAt w a ts) :
    Calls Tryz.prog 37 #[gV n a ts.length cap, tieV t] w (GRes' (addR n ts t) w) := by
  have HC : Hid (∀ W, Below w.heap.size w W → Calls Tryz.prog 24 #[gV n a ts.length cap] W fun e w' => e = .returned (.int .i64 (errG n ts)) ∧ Below W.heap.size W w') := fun W hb => tCheck_any n a cap ts W hl (hs.below hb)
  have HV : Hid (okG n ts = true → ∀ W, Calls Tryz.prog 73 #[tieV t, .int .i64 n] W fun e w' => e = .returned (.bool (tieB t n)) ∧ Below W.heap.size W w') := fun h W => tTie_any t n W (by unfold okG at h; simp only [Bool.and_eq_true] at h; have h1 := h.1.1; unfold ftB at h1; simpa using h1)
  unfold errG at HC
  unfold GRes' GRes addR
  obtain ⟨m, hm⟩ : ∃ m, m = ts.length := ⟨_, rfl⟩
  have HM := Lib.hid hm
  have HS := Lib.hid hs
  rw [← hm] at hl HC ⊢
  have HN0 := Lib.hid (KA.new w n a m cap t)
  obtain ⟨ya, yb, yk, ys, yr⟩ := t
  clear hm hs
  simp only [gV, tieV] at HC HV HN0 ⊢
  cases hok : okG n ts with
  | false =>
    rw [hok] at HC
    clear HV hok
    simp only [Bool.false_eq_true, if_false] at HC ⊢
    go_enter Tryz.func37, Tryz.ntmps37
    go_wp2_with (first | (go_at_call 24; refine (HC.out _ HN0.out.2.2.2).mono ?_; rintro e w1 ⟨rfl, hb⟩; clear HC; have HY := Lib.hid (HN0.out.below hb); clear hb HN0; have d0 := HY.out.2.2.1.cell (i := 0) rfl; have d1 := HY.out.2.2.1.cell (i := 1) rfl; have f0 := HY.out.2.2.1.frozen 0; have f1 := HY.out.2.2.1.frozen 1))
    refine named (fun V => Blk V (w.heap.size + 1 + 1) [.int .i64 0, .slice none 0 0] 24 ∧ Below w.heap.size w V) ⟨(HY.out.2.2.1.set_ 0 _).set_ 1 _, (HY.out.2.2.2.setCell (by show w.heap.size ≤ w.heap.size + 1 + 1; omega) _).setCell (by show w.heap.size ≤ w.heap.size + 1 + 1; omega) _⟩ ?_
    rintro V ⟨V1, V3⟩
    have e0 := V1.cell (i := 0) rfl
    have e1 := V1.cell (i := 1) rfl
    refine bodyPost_ret (v := .tuple #[.agg #[.int .i64 0, .slice none 0 0], .int .i64 40]) (by simp [results, Tryz.results37, go_sem, e0, e1]) rfl ?_
    exact gres_zero3 (b4 := 0) V3
  | true =>
    rw [hok] at HC
    replace HV := Lib.hid (HV.out hok)
    have H512 : Hid (m ≤ 512) := by have := okG_len hok; have := HM.out; rw [Hid]; omega
    clear hok
    simp only [if_true] at HC ⊢
    cases htb : tieB ⟨ya, yb, yk, ys, yr⟩ n with
    | false =>
      rw [htb] at HV
      clear htb
      simp only [Bool.false_eq_true, if_false]
      go_enter Tryz.func37, Tryz.ntmps37
      go_wp2_with (first | (go_at_call 24; refine (HC.out _ HN0.out.2.2.2).mono ?_; rintro e w1 ⟨rfl, hb⟩; clear HC; have HY := Lib.hid (HN0.out.below hb); clear hb HN0; have c0 := HY.out.1.cell (i := 0) rfl; have c1 := HY.out.1.cell (i := 1) rfl; have y0 := HY.out.2.1.cell (i := 0) rfl; have y1 := HY.out.2.1.cell (i := 1) rfl; have y2 := HY.out.2.1.cell (i := 2) rfl; have y3 := HY.out.2.1.cell (i := 3) rfl; have y4 := HY.out.2.1.cell (i := 4) rfl) | (go_at_call 73; refine (HV.out _).mono ?_; rintro e w2 ⟨rfl, hb⟩; clear HV c0 c1 y0 y1 y2 y3 y4; replace HY := Lib.hid (HY.out.below hb); clear hb; have c0 := HY.out.1.cell (i := 0) rfl; have c1 := HY.out.1.cell (i := 1) rfl; have d0 := HY.out.2.2.1.cell (i := 0) rfl; have d1 := HY.out.2.2.1.cell (i := 1) rfl; have f0 := HY.out.2.2.1.frozen 0; have f1 := HY.out.2.2.1.frozen 1))
      refine named (fun V => Blk V (w.heap.size + 1 + 1) [.int .i64 0, .slice none 0 0] 24 ∧ Below w.heap.size w V) ⟨(HY.out.2.2.1.set_ 0 _).set_ 1 _, (HY.out.2.2.2.setCell (by show w.heap.size ≤ w.heap.size + 1 + 1; omega) _).setCell (by show w.heap.size ≤ w.heap.size + 1 + 1; omega) _⟩ ?_
      rintro V ⟨V1, V3⟩
      have e0 := V1.cell (i := 0) rfl
      have e1 := V1.cell (i := 1) rfl
      refine bodyPost_ret (v := .tuple #[.agg #[.int .i64 0, .slice none 0 0], .int .i64 1]) (by simp [results, Tryz.results37, go_sem, e0, e1]) rfl ?_
      exact gres_zero3 (b4 := 0) V3
    | true =>
      rw [htb] at HV
      clear htb
      simp only [if_true]
      by_cases hbig : m = 512
      · rw [if_pos hbig]
        have t2 : ((m : Int) == 512) = true := by have : (m : Int) = 512 := by omega
                                                  simpa using this
        have t3 : (m == 512) = true := by simpa using hbig
        clear hbig
        go_enter Tryz.func37, Tryz.ntmps37
        go_wp2_with (first | (go_at_call 24; refine (HC.out _ HN0.out.2.2.2).mono ?_; rintro e w1 ⟨rfl, hb⟩; clear HC; have HY := Lib.hid (HN0.out.below hb); clear hb HN0; have c0 := HY.out.1.cell (i := 0) rfl; have c1 := HY.out.1.cell (i := 1) rfl; have y0 := HY.out.2.1.cell (i := 0) rfl; have y1 := HY.out.2.1.cell (i := 1) rfl; have y2 := HY.out.2.1.cell (i := 2) rfl; have y3 := HY.out.2.1.cell (i := 3) rfl; have y4 := HY.out.2.1.cell (i := 4) rfl) | (go_at_call 73; refine (HV.out _).mono ?_; rintro e w2 ⟨rfl, hb⟩; clear HV c0 c1 y0 y1 y2 y3 y4; replace HY := Lib.hid (HY.out.below hb); clear hb; have c0 := HY.out.1.cell (i := 0) rfl; have c1 := HY.out.1.cell (i := 1) rfl; have d0 := HY.out.2.2.1.cell (i := 0) rfl; have d1 := HY.out.2.2.1.cell (i := 1) rfl; have f0 := HY.out.2.2.1.frozen 0; have f1 := HY.out.2.2.1.frozen 1))
        refine named (fun V => Blk V (w.heap.size + 1 + 1) [.int .i64 0, .slice none 0 0] 24 ∧ Below w.heap.size w V) ⟨(HY.out.2.2.1.set_ 0 _).set_ 1 _, (HY.out.2.2.2.setCell (by show w.heap.size ≤ w.heap.size + 1 + 1; omega) _).setCell (by show w.heap.size ≤ w.heap.size + 1 + 1; omega) _⟩ ?_
        rintro V ⟨V1, V3⟩
        have e0 := V1.cell (i := 0) rfl
        have e1 := V1.cell (i := 1) rfl
        refine bodyPost_ret (v := .tuple #[.agg #[.int .i64 0, .slice none 0 0], .int .i64 2]) (by simp [results, Tryz.results37, go_sem, e0, e1]) rfl ?_
        exact gres_zero3 (b4 := 0) V3
      · rw [if_neg hbig]
        have t2 : ((m : Int) == 512) = false := by
          have : ¬ (m : Int) = 512 := by omega
          simpa using this
        have t3 : (m == 512) = false := by simpa using hbig
        clear hbig
        have HCL : Hid (∀ W, Below w.heap.size w W → Calls Tryz.prog 77 #[.slice a m cap] W fun e w' => ∃ v, e = .returned v ∧ w'.ownsRow W.heap.size 54 5 v m (tvL ts) ∧ Below W.heap.size W w') := fun W hb => by
          have h1 := Clone_any a cap ts W (by have := HM.out; have := H512.out; omega) (HS.out.below hb)
          rw [← HM.out] at h1; exact h1
        go_enter Tryz.func37, Tryz.ntmps37
        go_upto_region 8 with (first | (go_at_call 24; refine (HC.out _ HN0.out.2.2.2).mono ?_; rintro e w1 ⟨rfl, hb⟩; clear HC; have HY := Lib.hid (HN0.out.below hb); clear hb HN0; have c0 := HY.out.1.cell (i := 0) rfl; have c1 := HY.out.1.cell (i := 1) rfl; have y0 := HY.out.2.1.cell (i := 0) rfl; have y1 := HY.out.2.1.cell (i := 1) rfl; have y2 := HY.out.2.1.cell (i := 2) rfl; have y3 := HY.out.2.1.cell (i := 3) rfl; have y4 := HY.out.2.1.cell (i := 4) rfl) | (go_at_call 73; refine (HV.out _).mono ?_; rintro e w2 ⟨rfl, hb⟩; clear HV c0 c1 y0 y1 y2 y3 y4; replace HY := Lib.hid (HY.out.below hb); clear hb; have c0 := HY.out.1.cell (i := 0) rfl; have c1 := HY.out.1.cell (i := 1) rfl; have d0 := HY.out.2.2.1.cell (i := 0) rfl; have d1 := HY.out.2.2.1.cell (i := 1) rfl; have f0 := HY.out.2.2.1.frozen 0; have f1 := HY.out.2.2.1.frozen 1))
        have HX : Hid (∀ W, (clOld w2.drew).C W → KA w W [.int .i64 n, .slice a m cap] ⟨ya, yb, yk, ys, yr⟩) := fun W hC => HY.out.below (old_end (Below.refl _ _) hC (Nat.le_refl _))
        clear c0 c1 d0 d1 f0 f1
        refine wp_region_late_old 8 33 7 [0,1] (by kernel_rfl) (by kernel_rfl) (by rfl) ?_
        simp only [List.take_succ_cons, List.take_zero, List.eraseIdx_cons_succ, List.eraseIdx_cons_zero]
        refine chain_val (.pointer (some ⟨w.heap.size, 0, none⟩)) (fun _ _ => Below.refl _ _) rfl (by intro cs b h; cases h) (by kernel_rfl) (by kernel_rfl) (fun w1 _ => by simp [execOp, evE, lk_cons, lk_nil, slotL, go_sem]) ?_
        refine chain_load (.int .i64 n) _ _ _ (fun _ _ => Below.refl _ _) rfl rfl (by kernel_rfl) (by kernel_rfl) rfl (fun w1 hC => load_i64 ((HX.out w1 hC).1.cell rfl)) ?_
        refine chain_val (.pointer (some ⟨w.heap.size, 1, none⟩)) (fun _ _ => Below.refl _ _) rfl (by intro cs b h; cases h) (by kernel_rfl) (by kernel_rfl) (fun w1 _ => by simp [execOp, evE, lk_cons, lk_nil, slotL, go_sem]) ?_
        refine chain_load (.slice a m cap) _ _ _ (fun _ _ => Below.refl _ _) rfl rfl (by kernel_rfl) (by kernel_rfl) rfl (fun w1 hC => load_slq ((HX.out w1 hC).1.cell rfl)) ?_
        refine chain_call_re (ownW w.heap.size m (tvL ts)) 77 [.slice a m cap] _ _ (ownW_lasts _ _ _) (enters_of Tryz.func77 (by kernel_rfl) rfl) rfl rfl rfl (by kernel_rfl) (by kernel_rfl) rfl rfl (fun w1 hC => (HCL.out w1 (HX.out w1 hC).2.2.2).mono fun e w' ⟨v, he, ho, hb⟩ => ⟨_, he, hb, own_mono ho (HX.out w1 hC).2.2.2.size⟩) ?_
        refine chain_load (tieV ⟨ya, yb, yk, ys, yr⟩) _ _ _ (fun _ _ => Below.refl _ _) rfl rfl (by kernel_rfl) (by kernel_rfl) rfl (fun w1 hC => load_tie (o := 0) ((HX.out w1 hC).2.1.cell rfl) ((HX.out w1 hC).2.1.cell rfl) ((HX.out w1 hC).2.1.cell rfl) ((HX.out w1 hC).2.1.cell rfl) ((HX.out w1 hC).2.1.cell rfl)) ?_
        refine chain_new (tieW ⟨ya, yb, yk, ys, yr⟩) (tieW_lasts _) rfl (by intro cs b h; cases h) (by kernel_rfl) (by kernel_rfl) (fun w1 hC => new_tie (by simp [execOp, evE, lk_cons, lk_nil, go_sem, Instr.buildSlice, tieV]) hC) ?_
        refine after_app 28 30 (by rfl) (by rfl) (by rfl) (by rfl) (by kernel_rfl) (by kernel_rfl) ?_
        intro x z w1 hC hx hz
        replace hx : ownW w.heap.size m (tvL ts) x w1 := hx
        obtain ⟨fa, fc, rfl⟩ := own_slice hx
        replace hz : tieW ⟨ya, yb, yk, ys, yr⟩ z w1 := hz
        obtain ⟨b9, rfl, hta⟩ := hz
        have hK := HX.out w1 hC
        have hx' : w1.ownsRow w.heap.size 54 5 (.slice fa m fc) m (tvL ts) := hx
        obtain ⟨f2, c2, w6, hrun, hown, hgrow⟩ := own_app w1 w.heap.size m 22 fa fc ts b9 ⟨ya, yb, yk, ys, yr⟩ hx' hta (by have := H512.out; omega) hK.2.2.2.size
        have K6O := Lib.hid hown
        have K60 : Hid (Blk w6 w.heap.size [.int .i64 n, .slice a m cap] 24) := hK.1.block (hgrow.block _ hK.1.lt (fun e => own_ne hx' hK.1 e.symm))
        have K6Z : Hid (Blk w6 (w.heap.size + 1 + 1) [.int .i64 0, .slice none 0 0] 24) := hK.2.2.1.block (hgrow.block _ hK.2.2.1.lt (fun e => own_ne hx' hK.2.2.1 e.symm))
        have K6W : Hid (Below w.heap.size w w6) := hK.2.2.2.grown hgrow hK.2.2.2.size (fun q' hq' => (World.ownsRow.lt hx' q' hq').1)
        refine ⟨.slice f2 (m + 1) c2, w6, hrun, ?_, ?_⟩
        · have hl6 := load_i64 (K60.out.cell (i := 0) rfl)
          intro i hi p' e' hp' he'
          rcases (by simpa using hi : i = 0 ∨ i = 1) with rfl | rfl
          · cases hp'
            cases he'
            exact obl_at (.pointer (some ⟨w.heap.size, 0, none⟩)) (by intro cs b h; cases h) (by kernel_rfl) (by kernel_rfl) rfl (by simp [execOp, evE, lk_cons, lk_nil, weak, weak1, slotL, go_sem])
          · cases hp'
            cases he'
            exact obl_at (.int .i64 n) (by intro cs b h; cases h) (by kernel_rfl) (by kernel_rfl) rfl (by simp [execOp, evE, lk_cons, lk_nil, weak, weak1, slotL, hl6, Sem.run_bind, Result.andThen])
        clear hrun hown hgrow hta hC hx hx' hK HX HCL HY
        refine chain_end (by rfl) ?_
        intro xs V9 hw7 hre
        obtain rfl : V9 = w6 := hw7
        clear hre
        simp only [layE, weak, weak1, List.foldr_cons, List.foldr_nil, List.set_cons_succ, List.set_cons_zero]
        have d0 := K6Z.out.cell (i := 0) rfl
        have d1 := K6Z.out.cell (i := 1) rfl
        have f0 := K6Z.out.frozen 0
        have f1 := K6Z.out.frozen 1
        go_wp2_with fail
        refine named (fun W => Blk W (w.heap.size + 1 + 1) [.int .i64 n, .slice f2 (m + 1) c2] 24 ∧ W.ownsRow w.heap.size 54 5 (.slice f2 (m + 1) c2) (m + 1) (tvL (ts ++ [⟨ya, yb, yk, ys, yr⟩])) ∧ Below w.heap.size w W) ?_ ?_
        · have o1 : Only (w.heap.size + 1 + 1) V9 ((V9.setCell ⟨w.heap.size + 1 + 1, 0, none⟩ (.int .i64 n)).setCell ⟨w.heap.size + 1 + 1, 1, none⟩ (.slice f2 (m + 1) c2)) := ((Only.refl _ V9).set_ 0 _).set_ 1 _
          exact ⟨(K6Z.out.set_ 0 _).set_ 1 _, own_only K6O.out K6Z.out o1, (K6W.out.setCell (by show w.heap.size ≤ w.heap.size + 1 + 1; omega) _).setCell (by show w.heap.size ≤ w.heap.size + 1 + 1; omega) _⟩
        rintro W ⟨W1, W2, W3⟩
        have e0 := W1.cell (i := 0) rfl
        have e1 := W1.cell (i := 1) rfl
        refine bodyPost_ret (v := .tuple #[.agg #[.int .i64 n, .slice f2 (m + 1) c2], .int .i64 0]) (by simp [results, Tryz.results37, go_sem, e0, e1]) rfl ?_
        obtain ⟨a8, c8, he8, _, hT⟩ := own_tiesN W2
        injection he8 with h1 h2 h3
        subst h1
        exact ⟨f2, c2, by rw [← h2], hT, W3⟩
end Go.Proofs.YthjeiaildabadaaGreat
/- A queue in a row of one's own: a slice that loses its first elements and gets others behind it. -/
namespace Go.Proofs.YthjeiaildabadaaGreat
set_option linter.unusedSimpArgs false
set_option linter.unusedVariables false
open Go Go.RowKit
section
variable {P : Program} (w : World)

/-- A slice with an offset, in a row that nobody else appends to. -/
def QRow (w : World) (base : Nat) (e : TypeId) (size : Nat) (v : Value) (n : Nat) (xs : List Value) : Prop :=
  xs.length = n * size ∧ ∃ g o cap cur, v = .slice (some ⟨g, o, none⟩) n cap ∧ base ≤ g ∧ w.heap[g]? = some (.cells cur e (0, 0)) ∧ n ≤ cap ∧ cap ≤ maxLen ∧ o + cap * size ≤ cur.size ∧ (cur.toList.drop o).take (n * size) = xs
theorem run_append_roomO (t ty e : TypeId) (i : TypeInfo) (ht : P.underlying t = some (.slice e)) (hi : P.info? e = some i)
    (g o sLen sCap : Nat) (cur : Array Value) (hg : w.heap[g]? = some (.cells cur e (0, 0)))
    (a : Addr) (m c : Nat) (news : List Value) (hl : news.length = m * i.size) (hnews : ∀ j u, news[j]? = some u → w.cell? (a.add j) = some u) (h1 : ∀ u ∈ news, u.oneCell' = true)
    (hroom : sLen + m ≤ sCap) (hfit : o + sLen * i.size + news.length ≤ cur.size) :
    (Builtin.append_ #[t, t] ty #[.slice (some ⟨g, o, none⟩) sLen sCap, .slice (some a) m c]).run P w =
      .ok (.slice (some ⟨g, o, none⟩) (sLen + m) sCap) (w.setRow g (cur.toList.take (o + sLen * i.size) ++ news ++ cur.toList.drop (o + sLen * i.size + news.length)).toArray) := by
  have hf := run_firstCells_some (P := P) w i.size m a m c news hl hnews
  have hst := run_storeCells_at P g (o + sLen * i.size) e news 0 cur w hg (by simpa using hfit) h1
  simp only [Nat.add_zero] at hst
  simp [Builtin.append_, run_underlying ht, sizeOf, typeInfo, hi, Builtin.lenOf, hroom, hf, Addr.add_lit, hst]
theorem QRow.lt {w : World} {base n size : Nat} {e : TypeId} {v : Value} {xs : List Value} (h : QRow w base e size v n xs) : ∀ k, v.ownBlock = some k → base ≤ k ∧ k < w.heap.size := by
  obtain ⟨_, g, o, cap, cur, rfl, h1, h2, _⟩ := h
  intro k hk
  have : g = k := by simpa [Value.ownBlock] using hk
  subst this
  exact ⟨h1, (Array.getElem?_eq_some_iff.1 h2).1⟩
theorem QRow.below {w w' : World} {base n size : Nat} {e : TypeId} {v : Value} {xs : List Value} (h : QRow w base e size v n xs) (hb : Below w.heap.size w w') : QRow w' base e size v n xs := by
  obtain ⟨hl, g, o, cap, cur, h0, h1, h2, h3⟩ := h
  exact ⟨hl, g, o, cap, cur, h0, h1, (hb.block g (Array.getElem?_eq_some_iff.1 h2).1).trans h2, h3⟩
theorem QRow.only {w w' : World} {base n size q : Nat} {e : TypeId} {v : Value} {xs : List Value} (h : QRow w base e size v n xs) (hb : Only q w w') (hne : v.ownBlock ≠ some q) : QRow w' base e size v n xs := by
  obtain ⟨hl, g, o, cap, cur, rfl, h1, h2, h3⟩ := h
  exact ⟨hl, g, o, cap, cur, rfl, h1, (hb.1 g (Array.getElem?_eq_some_iff.1 h2).1 (fun e => hne (by simp [Value.ownBlock, e]))).trans h2, h3⟩
theorem QRow.cell {w : World} {base n size : Nat} {e : TypeId} {v : Value} {xs : List Value} (h : QRow w base e size v n xs) : ∃ g o cap, v = .slice (some ⟨g, o, none⟩) n cap ∧ ∀ j u, xs[j]? = some u → w.cell? ⟨g, o + j, none⟩ = some u := by
  obtain ⟨hl, g, o, cap, cur, rfl, h1, h2, h3, h4, h5, h6⟩ := h
  refine ⟨g, o, cap, rfl, fun j u hu => ?_⟩
  rw [← h6, List.getElem?_take] at hu
  split at hu
  · rw [List.getElem?_drop] at hu
    simp only [World.cell?, h2]
    rw [← Array.getElem?_toList]; exact hu
  · cases hu
theorem QRow.tail {w : World} {base n size : Nat} {e : TypeId} {g o cap : Nat} {xs : List Value} (h : QRow w base e size (.slice (some ⟨g, o, none⟩) (n + 1) cap) (n + 1) xs) : QRow w base e size (.slice (if cap = 1 then some ⟨g, o, none⟩ else some ⟨g, o + size, none⟩) n (cap - 1)) n (xs.drop size) := by
  obtain ⟨hl, g', o', cap', cur, e0, h1, h2, h3, h4, h5, h6⟩ := h
  injection e0 with e1 e2 e3
  injection e1 with e1
  injection e1 with e4 e5
  subst e3; subst e4; subst e5
  have hl' : (xs.drop size).length = n * size := by rw [List.length_drop, hl, Nat.add_mul]; omega
  by_cases hc : cap = 1
  · subst hc
    have hn : n = 0 := by omega
    subst hn
    refine ⟨hl', g, o, 0, cur, by simp, h1, h2, by omega, by omega, by omega, ?_⟩
    have : xs.drop size = [] := List.eq_nil_of_length_eq_zero (by rw [hl']; omega)
    rw [this]; simp
  · rw [if_neg hc]
    refine ⟨hl', g, o + size, cap - 1, cur, rfl, h1, h2, by omega, by omega, ?_, ?_⟩
    · have : cap = cap - 1 + 1 := by omega
      rw [this, Nat.add_mul] at h5; omega
    · rw [← h6, List.drop_take, List.drop_drop]
      congr 1
      rw [Nat.add_mul]; omega
theorem run_append_q (base : Nat) (t ty e : TypeId) (i : TypeInfo) (z : Value) (size bytes : Nat) (ht : P.underlying t = some (.slice e)) (hi : P.info? e = some i) (hz : i.zero = some z)
    (hsize : i.size = size) (hby : i.bytes = bytes) (hzs : z.cells.size = size) (hsz : 0 < size)
    (v : Value) (n : Nat) (xs : List Value) (hown : QRow w base e size v n xs)
    (a : Addr) (m c : Nat) (news : List Value) (hm : 0 < m) (hl : news.length = m * size) (hnews : ∀ j u, news[j]? = some u → w.cell? (a.add j) = some u) (h1 : ∀ u ∈ news, u.oneCell' = true)
    (h63 : n + m ≤ maxLen) (hbytes : (n + m) * bytes ≤ 140737488355328) (hbase : base ≤ w.heap.size) :
    ∃ v' w', (Builtin.append_ #[t, t] ty #[v, .slice (some a) m c]).run P w = .ok v' w' ∧ QRow w' base e size v' (n + m) (xs ++ news) ∧ w.grownBy w' v.ownBlock ∧ (v'.ownBlock = v.ownBlock ∨ v'.ownBlock = some w.heap.size) := by
  subst hsize
  subst hby
  have hlen : (xs ++ news).length = (n + m) * i.size := by rw [List.length_append, hown.1, hl, Nat.add_mul]
  obtain ⟨hx, g, o, cap, cur, rfl, hbg, hg, hnc, hcm, hcs, htake⟩ := hown
  by_cases hroom : n + m ≤ cap
  · have hfit : o + n * i.size + news.length ≤ cur.size := by
      have : (n + m) * i.size ≤ cap * i.size := Nat.mul_le_mul_right _ hroom
      rw [Nat.add_mul] at this; omega
    have hr := run_append_roomO (P := P) w t ty e i ht hi g o n cap cur hg a m c news hl hnews h1 hroom hfit
    refine ⟨_, _, hr, ⟨hlen, g, o, cap, _, rfl, hbg, setRow_heap w g cur _ e _ hg, hroom, hcm, ?_, ?_⟩, ⟨rfl, rfl, rfl, by simp, fun k _ hk => setRow_other w g k _ (fun e => hk (by simp [Value.ownBlock, e]))⟩, .inl rfl⟩
    · simp only [List.size_toArray, List.length_append, List.length_take, List.length_drop, Array.length_toList]
      omega
    · have h4 : (cur.toList.take (o + n * i.size)).drop o = xs := by rw [List.drop_take, ← htake]; congr 1; omega
      have h5 : o ≤ (cur.toList.take (o + n * i.size)).length := by rw [List.length_take, Array.length_toList]; omega
      rw [List.append_assoc, List.drop_append_of_le_length h5, h4, ← List.append_assoc, ← hlen]
      exact List.take_left
  · have holds : ∀ j u, xs[j]? = some u → w.cell? ((⟨g, o, none⟩ : Addr).add j) = some u := fun j u hu => by
      rw [addr_plain]
      rw [← htake, List.getElem?_take] at hu
      split at hu
      · rw [List.getElem?_drop] at hu
        simp only [World.cell?, hg]
        rw [← Array.getElem?_toList]; exact hu
      · cases hu
    have hsmall : n + m ≤ 9223372036854775807 := by simp only [maxLen] at h63; omega
    have hr := run_append_grow (P := P) w t ty e i z ht hi hz ⟨g, o, none⟩ n cap xs hx holds a m c news hl hnews (by omega) (by omega) (growslice_fits (by omega) hbytes)
    have hge := grownCap_ge w (n + m) cap e
    have hcm2 : grownCap w (n + m) cap e ≤ maxLen := grownCap_le_maxLen w (n + m) cap e h63
    refine ⟨_, _, hr, ⟨hlen, w.heap.size, 0, _, _, rfl, hbase, heap_alloc_new w.drew _, hge, hcm2, ?_, ?_⟩, ⟨rfl, rfl, rfl, by simp, fun k hk _ => Go.heap_alloc_old w.drew _ hk⟩, .inr rfl⟩
    · simp only [Array.size_append, List.size_toArray, size_zeroCells, hzs, hx, hl, ← Nat.add_mul]
      have : n + m + (grownCap w (n + m) cap e - (n + m)) = grownCap w (n + m) cap e := by omega
      rw [this, Nat.zero_add]; exact Nat.le_refl _
    · simp only [Array.toList_append, List.append_assoc, List.drop_zero]
      rw [← List.append_assoc, ← hlen]
      exact List.take_left
end
end Go.Proofs.YthjeiaildabadaaGreat
