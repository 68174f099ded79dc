/- Layer 4: the joins of a graph. -/
import Derived.Test.YthjeiaildabadaaGreatK3
import Derived.Test.YthjeiaildabadaaGreatF0
namespace Go.Proofs.YthjeiaildabadaaGreat
set_option linter.unusedSimpArgs false
set_option linter.unusedVariables false
open Go Go.RowKit

/-- A graph whose ties lie in a row of one's own. -/
def GOwn (n : Int) (l : List TieD) (w : World) (e : Ending) (w' : World) : Prop := ∃ B r c, e = .returned (.agg #[.int .i64 n, .slice r l.length c]) ∧ w.heap.size ≤ B ∧ B ≤ w'.heap.size ∧ w'.ownsRow B 54 5 (.slice r l.length c) l.length (tvL l) ∧ Below w.heap.size w w'
set_option maxRecDepth 100000 in
set_option maxHeartbeats 4000000 in
theorem having_join (p : TieD → Bool) (n : Int) (a : Option Addr) (cap : Nat) (ts : List TieD) (w : World) (hl : ts.length ≤ 1000) (hs : TiesAt w a ts)
    (hK : ∀ t W, t ∈ ts → Below w.heap.size w W → Calls Tryz.prog 41 #[tieV t] W fun e w' => e = .returned (.bool (p t)) ∧ Below W.heap.size W w') :
    Calls Tryz.prog 51 #[gV n a ts.length cap, .func (.func 41) #[] #[]] w (GOwn n (ts.filter p) w) := by
  have HS := Lib.hid hs
  have HK := Lib.hid hK
  unfold GOwn
  obtain ⟨m, hm⟩ : ∃ m, m = ts.length := ⟨_, rfl⟩
  rw [← hm] at hl ⊢
  have HM := Lib.hid hm
  clear hs hm hK
  obtain ⟨i0, hi0, hz0, hz1, hz2⟩ := info_parts infoT
  go_enter Tryz.func51, Tryz.ntmps51
  simp only [gV]
  go_upto_region 2 with (fail)
  refine named (fun V => Hid (Below w.heap.size w V) ∧ Hid (Blk V w.heap.size [.int .i64 n, .slice a m cap] 24) ∧ Hid (Blk V (w.heap.size + 1) [.int .i64 0, .slice none 0 0] 24) ∧ Hid (Blk V (w.heap.size + 1 + 1) [.int .i64 n, .slice none 0 0] 24) ∧ Hid (w.heap.size + 3 ≤ V.heap.size)) ?_ ?_
  · have b1 := Blk.new w [.int .i64 n, .slice a m cap] 24
    have b2 := Blk.new (w.alloc (.cells #[.int .i64 n, .slice a m cap] 24)) [.int .i64 0, .slice none 0 0] 24
    have b3 := Blk.new ((w.alloc (.cells #[.int .i64 n, .slice a m cap] 24)).alloc (.cells #[.int .i64 0, .slice none 0 0] 24)) [.int .i64 n, .slice none 0 0] 24
    refine ⟨(((Below.refl _ _).alloc (Nat.le_refl _) _).alloc (by simp) _).alloc (by simp; omega) _, (b1.block (Below.heap_alloc _ _ _ (by simp))).block (Below.heap_alloc _ _ _ (by simp; omega)), ?_, ?_, by simp [Hid]⟩
    · have := b2.block (Below.heap_alloc _ (.cells #[.int .i64 n, .slice none 0 0] 24) _ b2.lt)
      simpa [Hid] using this
    · simpa [Hid] using b3
  rintro W0 ⟨FB, K1, K4, K5, HZ⟩
  generalize hb1 : w.heap.size = b1 at K1 K4 K5 HZ ⊢
  generalize hb4 : b1 + 1 = b4 at K4 K5 ⊢
  generalize hb5 : b4 + 1 = b5 at K5 ⊢
  have HBB : Hid (w.heap.size = b1 ∧ b1 < b4 ∧ b4 < b5) := ⟨hb1, by omega, by omega⟩
  have HZ5 : Hid (b5 + 1 ≤ W0.heap.size) := by have := HZ.out; rw [Hid]; omega
  clear hb1 hb4 hb5 HZ
  have HS0 : Hid (HGr w (b5 + 1) b5 n ((ts.take 0).filter p) W0) := ⟨⟨.slice none 0 0, World.ownsRow_nil _ _ _ _, K5.out⟩, FB.out⟩
  have d1 := K1.out.cell (i := 1) rfl
  go_wp2_with fail
  clear d1
  go_loopg [14] m (fun gk t14 wr => ∃ k : Nat, k + gk = m ∧ t14 = .int .i64 k ∧ Hid (HGr w (b5 + 1) b5 n ((ts.take k).filter p) wr) ∧ Hid (Blk wr b4 [.int .i64 0, .slice none 0 0] 24) ∧ Hid (b5 + 1 ≤ wr.heap.size))
  case atStart => exact ⟨0, by omega, rfl, HS0, K4, HZ5⟩
  case round =>
    obtain ⟨k, hkg, rfl, H, H4, HZ⟩ := hrel
    clear HS0 K1 K4 K5 HZ5 FB
    by_cases hlt : k < m
    · have hkl : k < ts.length := by rw [← HM.out]; exact hlt
      obtain ⟨lb, lo, rfl, hlb, c0, c1, c2, c3, c4⟩ := (HS.out.below H.out.old).at hkl
      obtain ⟨st1, st2⟩ := filt_step (p := p) hkl
      have HC : Hid (∀ W, Below wr.heap.size wr W → Calls Tryz.prog 41 #[.agg #[.int .i64 ts[k].a, .int .i64 ts[k].b, .int .i64 ts[k].kind, .int .i64 ts[k].str, .int .i64 ts[k].src]] W fun e w' => e = .returned (.bool (p ts[k])) ∧ Below W.heap.size W w') := fun W hb => HK.out ts[k] W (List.getElem_mem hkl) (H.out.old.trans (hb.mono H.out.old.size))
      have hlen : ((ts.take k).filter p).length ≤ 1000 := by have h1 := List.length_filter_le p (ts.take k); rw [List.length_take] at h1; omega
      obtain ⟨y, hy⟩ : ∃ y, y = ts[k] := ⟨_, rfl⟩
      rw [← hy] at c0 c1 c2 c3 c4 st1 st2 HC
      obtain ⟨pre, hpre⟩ : ∃ pre, pre = (ts.take k).filter p := ⟨_, rfl⟩
      rw [← hpre] at H st1 st2 hlen
      obtain ⟨v, hv⟩ : ∃ v, v = p y := ⟨_, rfl⟩
      rw [← hv] at st1 st2 HC
      clear hkl hy hpre hv
      obtain ⟨ya, yb, yk, ys, yr⟩ := y
      simp only at c0 c1 c2 c3 c4 HC
      have HB2 : Hid (∀ W, Below (wr.heap.size + 1) (wr.alloc (.cells #[.int .i64 ya, .int .i64 yb, .int .i64 yk, .int .i64 ys, .int .i64 yr] 54)) W → Below wr.heap.size wr W ∧ TieAt W wr.heap.size ⟨ya, yb, yk, ys, yr⟩) := fun W hb => by
        have hb' : Below (wr.alloc (.cells #[.int .i64 ya, .int .i64 yb, .int .i64 yk, .int .i64 ys, .int .i64 yr] 54)).heap.size (wr.alloc (.cells #[.int .i64 ya, .int .i64 yb, .int .i64 yk, .int .i64 ys, .int .i64 yr] 54)) W := by simpa using hb
        exact ⟨((Below.refl _ _).alloc (Nat.le_refl _) _).trans (hb.mono (by omega)), (TieAt.new wr ⟨ya, yb, yk, ys, yr⟩ _).below hb'⟩
      cases v with
      | false =>
        have HST := Lib.hid (st2 rfl)
        clear st1 st2
        go_wp2_with (first | (go_at_call 41; refine (HC.out _ ((Below.refl _ _).alloc (Nat.le_refl _) _)).mono ?_; rintro e w1 ⟨rfl, hb1⟩; have HY := Lib.hid (HB2.out w1 (by simpa using hb1)); clear hb1 HC HB2))
        go_roundg (gk - 1)
        case measure => omega
        case rel => exact ⟨k + 1, by omega, by simp, by rw [HST.out]; exact H.out.below HY.out.1, H4.out.below HY.out.1, Nat.le_trans HZ.out HY.out.1.size⟩
      | true =>
        have HST := Lib.hid (st1 rfl)
        clear st1 st2
        obtain ⟨tv, hown, hblk⟩ := H.out.own
        obtain ⟨fa, fc, rfl, hm0, hfi⟩ := own_ties hown
        obtain ⟨q, hq⟩ : ∃ q, q = pre.length := ⟨_, rfl⟩
        rw [← hq] at hown hblk hlen
        have HO := Lib.hid hown
        have HBK := Lib.hid hblk
        have HQL := Lib.hid hq
        clear hown hblk hm0 hfi hq
        go_wp2_with (first | (go_at_call 41; refine (HC.out _ ((Below.refl _ _).alloc (Nat.le_refl _) _)).mono ?_; rintro e w1 ⟨rfl, hb1⟩; have HY := Lib.hid (HB2.out w1 (by simpa using hb1)); clear hb1 HC HB2; obtain ⟨_, e0, e1, e2, e3, e4⟩ := HY.out.2; simp only at e0 e1 e2 e3 e4; have g1 := (HBK.out.below HY.out.1).cell (i := 1) rfl) | (at_builtin; go_loud (refine wpList_append_own _ rfl _ _ 22 rfl (b5 + 1) 54 i0 (.agg #[.int .i64 0, .int .i64 0, .int .i64 0, .int .i64 0, .int .i64 0]) 5 40 Tryz.underlying22 hi0 hz0 hz1 hz2 rfl (by decide) (.slice fa q fc) q (tvL pre) rfl ((own_below HO.out HY.out.1).alloc _) ⟨w1.heap.size, 0, none⟩ 1 1 (tvC ⟨ya, yb, yk, ys, yr⟩) rfl rfl (tie_cells (TieAt.new w1 ⟨ya, yb, yk, ys, yr⟩ _)) (by simp [tvC, Value.oneCell']) (by simp only [maxLen]; omega) (by omega) (by have h1 := HZ.out; have h2 := HY.out.1.size; simp; omega) ?_; intro v2 w6 hown' hgrow _; obtain ⟨f2, c2', rfl⟩ := own_slice hown'; have K6O := Lib.hid hown'; have K6K : Hid (Blk w6 b5 [.int .i64 n, .slice fa q fc] 24) := ((HBK.out.below HY.out.1).block (Below.heap_alloc _ _ _ (HBK.out.below HY.out.1).lt)).block (hgrow.block _ (by have := (HBK.out.below HY.out.1).lt; simp; omega) (fun e => by have := (World.ownsRow.lt HO.out _ e.symm).1; omega)); have K64 : Hid (Blk w6 b4 [.int .i64 0, .slice none 0 0] 24) := ((H4.out.below HY.out.1).block (Below.heap_alloc _ _ _ (H4.out.below HY.out.1).lt)).block (hgrow.block _ (by have := (H4.out.below HY.out.1).lt; simp; omega) (fun e => by have := (World.ownsRow.lt HO.out _ e.symm).1; have := HBB.out; omega)); have K6W : Hid (Below w.heap.size w w6) := ((H.out.old.trans (HY.out.1.mono H.out.old.size)).alloc (by have := H.out.old.size; have := HY.out.1.size; omega) _).grown hgrow (by have := H.out.old.size; have := HY.out.1.size; simp; omega) (fun q hq => by have := (World.ownsRow.lt HO.out q hq).1; have := HBB.out; omega); have K6S : Hid (b5 + 1 ≤ w6.heap.size) := Nat.le_trans (Nat.le_trans HZ.out (Nat.le_trans HY.out.1.size (by simp))) hgrow.size; clear hown' hgrow; have n1 := K6K.out.cell (i := 1) rfl; have f1 := K6K.out.frozen 1)))
        have H7 : Hid (HGr w (b5 + 1) b5 n ((ts.take (k + 1)).filter p) (w6.setCell ⟨b5, 1, none⟩ (.slice f2 (q + 1) c2'))) := by
          refine ⟨⟨_, ?_, K6K.out.set_ 1 _⟩, K6W.out.setCell (by have := HBB.out; show w.heap.size ≤ b5; omega) _⟩
          rw [HST.out, tvL_snoc, List.length_append, ← HQL.out]
          exact ownsRow_setCell_below K6O.out (Nat.lt_succ_self _) _
        have H74 : Hid (Blk (w6.setCell ⟨b5, 1, none⟩ (.slice f2 (q + 1) c2')) b4 [.int .i64 0, .slice none 0 0] 24) := K64.out.only ((Only.refl b5 w6).set_ 1 _) (by have := HBB.out; omega)
        have H7S : Hid (b5 + 1 ≤ (w6.setCell ⟨b5, 1, none⟩ (.slice f2 (q + 1) c2')).heap.size) := by have := K6S.out; simpa [World.setCell, Hid] using this
        go_roundg (gk - 1)
        case measure => omega
        case rel => exact ⟨k + 1, by omega, by simp, H7, H74, H7S⟩
    · have e : m = k := by omega
      subst e
      have hts : ts.take m = ts := List.take_of_length_le (by rw [← HM.out]; omega)
      rw [hts] at H
      clear hts
      obtain ⟨tv, hown, hblk⟩ := H.out.own
      obtain ⟨fa, fc, rfl, hm0, hfi⟩ := own_ties hown
      have HOW := Lib.hid hown
      generalize hF : ts.filter p = F at *
      have HFF := Lib.hid hF
      have c0 := hblk.cell (i := 0) rfl
      have c1 := hblk.cell (i := 1) rfl
      have d0 := H4.out.cell (i := 0) rfl
      have d1 := H4.out.cell (i := 1) rfl
      have f0 := H4.out.frozen 0
      have f1 := H4.out.frozen 1
      have HOLD := Lib.hid H.out.old
      clear hown hblk hm0 hfi hF H
      go_wp2_with fail
      refine named (fun V => Blk V b4 [.int .i64 n, .slice fa F.length fc] 24 ∧ (b5 + 1 ≤ V.heap.size ∧ V.ownsRow (b5 + 1) 54 5 (.slice fa F.length fc) F.length (tvL F)) ∧ Below w.heap.size w V) ?_ ?_
      · have o1 : Only b4 wr ((wr.setCell ⟨b4, 0, none⟩ (.int .i64 n)).setCell ⟨b4, 1, none⟩ (.slice fa F.length fc)) := ((Only.refl b4 wr).set_ 0 _).set_ 1 _
        have hq4 : w.heap.size ≤ b4 := by have := HBB.out; omega
        refine ⟨(H4.out.set_ 0 _).set_ 1 _, ?_, (HOLD.out.setCell hq4 _).setCell hq4 _⟩
        have hb : b4 < b5 + 1 := by have := HBB.out; omega
        exact ⟨by simpa [World.setCell] using HZ.out, ownsRow_setCell_below (ownsRow_setCell_below HOW.out (a := ⟨b4, 0, none⟩) hb (.int .i64 n)) (a := ⟨b4, 1, none⟩) hb (.slice fa F.length fc)⟩
      rintro V ⟨V1, V2, V3⟩
      have e0 := V1.cell (i := 0) rfl
      have e1 := V1.cell (i := 1) rfl
      refine bodyPost_ret (v := .agg #[.int .i64 n, .slice fa F.length fc]) (by simp [results, Tryz.results51, go_sem, e0, e1]) rfl ?_
      exact ⟨b5 + 1, fa, fc, by rw [HFF.out], by have := HBB.out; omega, V2.1, by rw [HFF.out]; exact V2.2, V3⟩
theorem joins_any (n : Int) (a : Option Addr) (cap : Nat) (ts : List TieD) (w : World) (hl : ts.length ≤ 1000) (hs : TiesAt w a ts) :
    Calls Tryz.prog 51 #[gV n a ts.length cap, .func (.func 41) #[] #[]] w (GOwn n (ts.filter (·.kind == 2)) w) :=
  having_join (·.kind == 2) n a cap ts w hl hs fun t W _ _ => tJoin_any t W
end Go.Proofs.YthjeiaildabadaaGreat
