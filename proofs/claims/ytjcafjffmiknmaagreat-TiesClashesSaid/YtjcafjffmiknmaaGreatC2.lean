/- Layer 4: CheckClash of the program. -/
import Derived.Test.YtjcafjffmiknmaaGreatC1
namespace Go.Proofs.YtjcafjffmiknmaaGreat
set_option linter.unusedSimpArgs false
set_option linter.unusedVariables false
open Go Go.RowKit

theorem clashF_bad {n : Nat} {ts : List TieD} {l : List Int} {j : Nat} (h : incF ts.length (l.take j) = none) : clashF n ts l = false := by
  unfold clashF; rw [incF_none h]; rfl
set_option maxRecDepth 100000 in
set_option maxHeartbeats 8000000 in
theorem checkClash_any (k : Nat) (a : Option Addr) (cap cq : Nat) (ts : List TieD) (r : Option Addr) (l : List Int) (w : World) (hl2 : l.length ≤ 1000) (hok : okG k ts = true) (hs : TiesAt w a ts) (hr : IntsAt w r l) :
    Calls Tryz.prog 17 #[gV k a ts.length cap, .slice r l.length cq] w fun e w' => e = .returned (.int .i64 (if clashF k ts l then 0 else 42)) ∧ Below w.heap.size w w' := by
  obtain ⟨k', hk', hk1, hk2, hl, hv⟩ := okG_parts hok
  obtain rfl : k = k' := by omega
  clear hk'
  have HC : Hid (∀ W, Below w.heap.size w W → Calls Tryz.prog 22 #[gV k a ts.length cap] W fun e w' => e = .returned (.int .i64 0) ∧ Below W.heap.size W w') := fun W hb => by
    have h := tCheck_any k a cap ts W (by omega) (hs.below hb)
    rw [show errG k ts = 0 from by unfold errG; rw [hok]; rfl] at h; exact h
  have HCO : Hid (∀ W a' c' (us : List TieD), (∀ t ∈ us, t ∈ ts) → us.length ≤ 512 → TiesAt W a' us → Calls Tryz.prog 43 #[.agg #[.int .i64 k, .slice a' us.length c']] W fun e w' => e = .returned (.bool (conF k us)) ∧ Below W.heap.size W w') := fun W a' c' us hm hu h => contradicts_any k a' c' us W hk2 hu (fun t ht => hv t (hm t ht)) h
  have HLO : Hid (∀ W a' c' (us : List TieD) (i : Nat), i < us.length → us.length ≤ c' → us.length ≤ 512 → TiesAt W a' us → Calls Tryz.prog 44 #[.agg #[.int .i64 k, .slice a' us.length c'], .int .i64 (i : Int)] W fun e w' => ∃ a'' c'', e = .returned (.agg #[.int .i64 k, .slice a'' (us.eraseIdx i).length c'']) ∧ TiesAt w' a'' (us.eraseIdx i) ∧ Below W.heap.size W w') := fun W a' c' us i hi hc hu h => leftOut_any k a' c' i us W hi hc (by omega) h
  have HS := Lib.hid hs
  have HR := Lib.hid hr
  have HV := Lib.hid hv
  obtain ⟨m, hm⟩ : ∃ m, m = ts.length := ⟨_, rfl⟩
  have HM := Lib.hid hm
  obtain ⟨q, hq⟩ : ∃ q, q = l.length := ⟨_, rfl⟩
  have HQ := Lib.hid hq
  rw [← hm] at HC hl ⊢
  rw [← hq] at hl2 ⊢
  obtain ⟨E, hE⟩ : ∃ E : Int, E = if clashF k ts l then 0 else 42 := ⟨_, rfl⟩
  rw [← hE]
  have HE := Lib.hid hE
  clear hE
  have FB := Lib.hid (FA.new w [.int .i64 k, .slice a m cap])
  clear hs hr hv hm hq hok hk1 hk2
  simp only [gV] at HC ⊢
  go_enter Tryz.func17, Tryz.ntmps17
  go_upto_region 4 with (first | (go_at_call 22; go_loud (refine (HC.out _ FB.out.2).mono ?_; rintro e w1 ⟨rfl, hb⟩; clear HC; replace FB := Lib.hid (FB.out.below hb); clear hb; have c0 := FB.out.1.cell (i := 0) rfl; have c1 := FB.out.1.cell (i := 1) rfl)))
  go_upto_region 5 with (fail)
  refine named (fun V => Hid (Blk V w1.heap.size [.int .i64 k, .slice none 0 0] 24) ∧ Hid (FA w V [.int .i64 k, .slice a m cap]) ∧ Hid (w1.heap.size + 1 ≤ V.heap.size)) ⟨Blk.new w1 [.int .i64 k, .slice none 0 0] _, FB.out.below ((Below.refl _ _).alloc (Nat.le_refl _) _), by simp [Hid]⟩ ?_
  rintro V ⟨K6, FV, HZ⟩
  have HBB : Hid (w.heap.size < w1.heap.size) := FB.out.1.lt
  generalize hb6 : w1.heap.size = b6 at K6 HZ HBB ⊢
  clear FB c0 c1 hb6
  have HS0 : Hid (HGr w (b6 + 1) b6 k (subF ts (l.take 0)) V) := ⟨⟨.slice none 0 0, World.ownsRow_nil _ _ _ _, K6.out⟩, FV.out.2⟩
  have HI0 : Hid (incF m (l.take 0) = some (-1)) := rfl
  go_wp2_with fail
  go_loopg [7, 9, 21] q (fun gk t7 t9 t21 wr => ∃ (j : Nat) (x : Int), j + gk = q ∧ t21 = .int .i64 j ∧ t7 = .int .i64 x ∧ Hid (incF m (l.take j) = some x) ∧ Hid (HGr w (b6 + 1) b6 k (subF ts (l.take j)) wr) ∧ Hid (FA w wr [.int .i64 k, .slice a m cap]) ∧ Hid (b6 + 1 ≤ wr.heap.size))
  case atStart => exact ⟨0, -1, by omega, rfl, rfl, HI0, HS0, FV, HZ⟩
  case round =>
    obtain ⟨j, x, hjg, rfl, rfl, HI, H, FB, HZr⟩ := hrel
    clear HS0 HI0 K6 FV HZ
    have c1 := FB.out.1.cell (i := 1) rfl
    by_cases hlt : j < q
    · have hjl : j < l.length := by rw [← HQ.out]; exact hlt
      obtain ⟨hx1, hx2, hx3⟩ := incF_bound (by omega : j ≤ l.length) HI.out
      obtain ⟨rb, ro, rfl, hrb, x0⟩ := (HR.out.below FB.out.2).at hjl
      have hstep := incF_step (m := m) hjl
      rw [HI.out] at hstep
      simp only [Option.bind_some] at hstep
      have hsub := fun t ht => subF_step (ts := ts) hjl (t := t) ht
      obtain ⟨v, hv⟩ : ∃ v, v = l[j] := ⟨_, rfl⟩
      rw [← hv] at x0 hstep hsub
      clear hv
      unfold incS at hstep
      rcases Bool.eq_false_or_eq_true (ftB v (x + 1) ((m : Int) - 1)) with hft | hft
      · have HF1 : Hid (∀ W, Calls Tryz.prog 42 #[.int .i64 v, .int .i64 (x + 1), .int .i64 ((m : Int) - 1)] W fun e w' => e = .returned (.bool true) ∧ W = w') := fun W => by rw [← hft]; exact tFromTo_any v _ _ W
        rw [hft, if_pos rfl] at hstep
        have HST := Lib.hid hstep
        unfold ftB at hft
        simp only [Bool.and_eq_true, decide_eq_true_eq] at hft
        obtain ⟨i, rfl⟩ := Int.eq_ofNat_of_zero_le (by omega : 0 ≤ v)
        have him : i < m := by omega
        have hil : i < ts.length := by rw [← HM.out]; exact him
        obtain ⟨lb, lo, rfl, hlb, y0, y1, y2, y3, y4⟩ := (HS.out.below FB.out.2).at hil
        have hsb := hsub ts[i] (by rw [Int.toNat_natCast]; exact List.getElem?_eq_getElem hil)
        have hlen : (subF ts (l.take j)).length ≤ 1000 := by have h1 := subF_len ts (l.take j); rw [List.length_take] at h1; omega
        obtain ⟨y, hy⟩ : ∃ y, y = ts[i] := ⟨_, rfl⟩
        rw [← hy] at y0 y1 y2 y3 y4 hsb
        have HSB := Lib.hid hsb
        obtain ⟨pre, hpre⟩ : ∃ pre, pre = subF ts (l.take j) := ⟨_, rfl⟩
        rw [← hpre] at H HSB hlen
        clear hil hy hpre hsub hsb hstep hft
        have HLT : Hid (i < m) := him
        have HX0 : Hid (∀ W, Old wr.drew W → (Instr.loadAt 43 (.pointer (some ⟨lb, lo + i * 5, none⟩))).run Tryz.prog W = .ok (tieV y) W) := fun W h => load_tie (by rw [Below.cell h (by exact hlb)]; exact y0) (by rw [Below.cell h (by exact hlb)]; exact y1) (by rw [Below.cell h (by exact hlb)]; exact y2) (by rw [Below.cell h (by exact hlb)]; exact y3) (by rw [Below.cell h (by exact hlb)]; exact y4)
        obtain ⟨tv, hown, hblk⟩ := H.out.own
        obtain ⟨fa, fc, rfl, hm0, hfi⟩ := own_ties hown
        obtain ⟨q', hq'⟩ : ∃ q', q' = pre.length := ⟨_, rfl⟩
        rw [← hq'] at hown hblk hlen
        have HO := Lib.hid hown
        have HBK := Lib.hid hblk
        have HQL := Lib.hid hq'
        clear hown hblk hm0 hfi hq' y0 y1 y2 y3 y4 hlb
        go_upto_region 10 with (first | (go_at_call 42; go_loud (refine (HF1.out _).mono ?_; rintro e w3 ⟨rfl, rfl⟩; clear HF1)))
        have HOLD : Hid (∀ w1, (clOld wr.drew).C w1 → Below wr.heap.size wr w1) := fun w1 hC => old_end (Below.refl _ _) hC (Nat.le_refl _)
        clear x0 c1 him
        refine wp_region_late_old 10 60 8 [9] (by kernel_rfl) (by kernel_rfl) (by rfl) ?_
        simp only [List.take_succ_cons, List.take_zero, List.eraseIdx_cons_succ, List.eraseIdx_cons_zero]
        refine chain_val (.pointer (some ⟨b6, 1, none⟩)) (fun _ _ => Below.refl _ _) rfl (by intro cs b h; cases h) (by kernel_rfl) (by kernel_rfl) (fun w1 _ => by simp [execOp, evE, lk_cons, lk_nil, slotL, go_sem]) ?_
        refine chain_load (.slice fa q' fc) _ _ _ (fun _ _ => Below.refl _ _) rfl rfl (by kernel_rfl) (by kernel_rfl) rfl (fun w1 hC => load_slq ((HBK.out.below (HOLD.out w1 hC)).cell rfl)) ?_
        refine chain_val (.pointer (some ⟨w.heap.size, 1, none⟩)) (fun _ _ => Below.refl _ _) rfl (by intro cs b h; cases h) (by kernel_rfl) (by kernel_rfl) (fun w1 _ => by simp [execOp, evE, lk_cons, lk_nil, slotL, go_sem]) ?_
        refine chain_load (.slice (some ⟨lb, lo, none⟩) m cap) _ _ _ (fun _ _ => Below.refl _ _) rfl rfl (by kernel_rfl) (by kernel_rfl) rfl (fun w1 hC => load_slq ((FB.out.1.below (HOLD.out w1 hC)).cell rfl)) ?_
        refine chain_move (.int .i64 (i : Int)) _ (fun _ _ => Below.refl _ _) rfl rfl (by kernel_rfl) (by kernel_rfl) rfl ?_
        refine chain_idx (.pointer (some ⟨lb, lo + i * 5, none⟩)) _ _ _ (.slice (some ⟨lb, lo, none⟩) m cap) (.int .i64 (i : Int)) (fun _ _ => Below.refl _ _) rfl rfl (by kernel_rfl) (by kernel_rfl) rfl rfl (fun w1 => idx_tie _ _ _ _ _ HLT.out w1) ?_
        refine chain_load (tieV y) _ _ _ (fun _ _ => Below.refl _ _) rfl rfl (by kernel_rfl) (by kernel_rfl) rfl (fun w1 hC => HX0.out w1 hC) ?_
        refine chain_new (tieW y) (tieW_lasts _) rfl (by intro cs b h; cases h) (by kernel_rfl) (by kernel_rfl) (fun w1 hC => new_tie (by simp [execOp, evE, lk_cons, lk_nil, go_sem, Instr.buildSlice, tieV]) hC) ?_
        refine chain_val (.pointer (some ⟨b6, 1, none⟩)) (fun _ _ => Below.refl _ _) rfl (by intro cs b h; cases h) (by kernel_rfl) (by kernel_rfl) (fun w1 _ => by simp [execOp, evE, lk_cons, lk_nil, slotL, go_sem]) ?_
        refine after_app 35 41 (by rfl) (by rfl) (by rfl) (by rfl) (by kernel_rfl) (by kernel_rfl) ?_
        intro x' z w1 hC hx hz
        replace hx : x' = .slice fa q' fc := hx
        subst hx
        replace hz : tieW y z w1 := hz
        obtain ⟨b9, rfl, hta⟩ := hz
        have hb1 := HOLD.out w1 hC
        obtain ⟨f2, c2, w6, hrun, hown, hgrow⟩ := own_app w1 (b6 + 1) q' 22 fa fc pre b9 y (own_below HO.out hb1) hta (by omega) (Nat.le_trans HZr.out hb1.size)
        refine ⟨.slice f2 (q' + 1) c2, w6, hrun, ?_, ?_⟩
        · intro i hi p' e' hp' he'
          obtain rfl : i = 9 := by simpa using hi
          cases hp'
          cases he'
          exact obl_at (.pointer (some ⟨b6, 1, none⟩)) (by intro cs b h; cases h) (by kernel_rfl) (by kernel_rfl) rfl (by simp [execOp, evE, lk_cons, lk_nil, weak, weak1, slotL, go_sem])
        have K6O := Lib.hid hown
        have K6K : Hid (Blk w6 b6 [.int .i64 k, .slice fa q' fc] 24) := (HBK.out.below hb1).block (hgrow.block _ (HBK.out.below hb1).lt (fun e => own_ne (own_below HO.out hb1) (HBK.out.below hb1) e.symm))
        have K61 : Hid (Blk w6 w.heap.size [.int .i64 k, .slice (some ⟨lb, lo, none⟩) m cap] 24) := (FB.out.1.below hb1).block (hgrow.block _ (FB.out.1.below hb1).lt (fun e => own_ne (own_below HO.out hb1) (FB.out.1.below hb1) e.symm))
        have K6S : Hid (b6 + 1 ≤ w6.heap.size) := Nat.le_trans HZr.out (Nat.le_trans hb1.size hgrow.size)
        have K6W : Hid (Below w.heap.size w w6) := (H.out.old.trans (hb1.mono H.out.old.size)).grown hgrow (by have := H.out.old.size; have := hb1.size; omega) (fun q' hq' => by have := (World.ownsRow.lt HO.out q' hq').1; have := HBB.out; omega)
        clear hrun hown hgrow hta hb1 hC
        refine chain_end (by rfl) ?_
        intro xs w7 hw7 hre
        obtain rfl : w7 = w6 := hw7
        clear hre
        simp only [layE, weak, weak1, List.foldr_cons, List.foldr_nil, List.set_cons_succ, List.set_cons_zero]
        have n1 := K6K.out.cell (i := 1) rfl
        have f1 := K6K.out.frozen 1
        have H7 : Hid (HGr w (b6 + 1) b6 k (subF ts (l.take (j + 1))) (w7.setCell ⟨b6, 1, none⟩ (.slice f2 (q' + 1) c2))) := by
          refine ⟨⟨_, ?_, K6K.out.set_ 1 _⟩, K6W.out.setCell (by have := HBB.out; show w.heap.size ≤ b6; omega) _⟩
          rw [HSB.out, List.length_append, ← HQL.out]
          exact ownsRow_setCell_below K6O.out (Nat.lt_succ_self _) _
        have o1 : Only b6 w7 (w7.setCell ⟨b6, 1, none⟩ (.slice f2 (q' + 1) c2)) := (Only.refl b6 w7).set_ 1 _
        have H71 : Hid (FA w (w7.setCell ⟨b6, 1, none⟩ (.slice f2 (q' + 1) c2)) [.int .i64 k, .slice (some ⟨lb, lo, none⟩) m cap]) := ⟨K61.out.only o1 (by have := HBB.out; omega), H7.out.old⟩
        have H7S : Hid (b6 + 1 ≤ (w7.setCell ⟨b6, 1, none⟩ (.slice f2 (q' + 1) c2)).heap.size) := Nat.le_trans K6S.out o1.2
        clear o1 K6O K6K K61 K6S K6W
        go_wp2_with fail
        go_roundg (gk - 1)
        case measure => omega
        case rel => exact ⟨j + 1, (i : Int), by omega, by simp, rfl, HST, H7, H71, H7S⟩
      · have HF1 : Hid (∀ W, Calls Tryz.prog 42 #[.int .i64 v, .int .i64 (x + 1), .int .i64 ((m : Int) - 1)] W fun e w' => e = .returned (.bool false) ∧ W = w') := fun W => by rw [← hft]; exact tFromTo_any v _ _ W
        rw [hft, if_neg (by simp)] at hstep
        have HBD : Hid (clashF k ts l = false) := clashF_bad (j := j + 1) (by rw [← HM.out]; exact hstep)
        clear hstep hsub hft
        go_wp2_with (first | (go_at_call 42; go_loud (refine (HF1.out _).mono ?_; rintro e w3 ⟨rfl, rfl⟩; clear HF1)))
        go_ret
        exact ⟨by rw [HE.out, HBD.out]; rfl, FB.out.2⟩
    · have e : q = j := by omega
      subst e
      have hts : l.take q = l := List.take_of_length_le (by rw [← HQ.out]; omega)
      rw [hts] at H HI
      obtain ⟨hx1, hx2, hx3⟩ := incF_bound (m := m) (l := l) (j := q) (x := x) (by rw [← HQ.out]; omega) (by rw [hts]; exact HI.out)
      clear hts
      have HSM : Hid (∀ t ∈ subF ts l, t ∈ ts) := fun t ht => subF_mem ht
      have hul : (subF ts l).length ≤ 512 := by have := subF_len ts l; rw [← HQ.out] at this; omega
      have HCL : Hid (clashF k ts l = (conF k (subF ts l) && (List.range (subF ts l).length).all fun i => !conF k ((subF ts l).eraseIdx i))) := by unfold clashF; rw [← HM.out, HI.out]; rfl
      obtain ⟨us, hus⟩ : ∃ us, us = subF ts l := ⟨_, rfl⟩
      rw [← hus] at H HSM HCL hul
      clear hus HI
      obtain ⟨tv, hown, hblk⟩ := H.out.own
      obtain ⟨fa, fc, rfl, hm0, hfi⟩ := own_ties hown
      have hcap : us.length ≤ fc := by
        rcases hown.2 with ⟨e, h0⟩ | ⟨g, cap', cur, e, _, _, hc, _⟩
        · injection e with e1 e2 e3; omega
        · injection e with e1 e2 e3; omega
      have HT := Lib.hid hfi
      have HBK := Lib.hid hblk
      have HB := Lib.hid H.out.old
      have HCO1 : Hid (∀ W, TiesAt W fa us → Calls Tryz.prog 43 #[.agg #[.int .i64 k, .slice fa us.length fc]] W fun e w' => e = .returned (.bool (conF k us)) ∧ Below W.heap.size W w') := fun W h => HCO.out W fa fc us HSM.out hul h
      have HLO1 : Hid (∀ W (i : Nat), i < us.length → TiesAt W fa us → Calls Tryz.prog 44 #[.agg #[.int .i64 k, .slice fa us.length fc], .int .i64 (i : Int)] W fun e w' => ∃ a'' c'', e = .returned (.agg #[.int .i64 k, .slice a'' (us.eraseIdx i).length c'']) ∧ TiesAt w' a'' (us.eraseIdx i) ∧ Below W.heap.size W w') := fun W i hi h => HLO.out W fa fc us i hi hcap hul h
      have HCO2 : Hid (∀ W a' c' (i : Nat), TiesAt W a' (us.eraseIdx i) → Calls Tryz.prog 43 #[.agg #[.int .i64 k, .slice a' (us.eraseIdx i).length c']] W fun e w' => e = .returned (.bool (conF k (us.eraseIdx i))) ∧ Below W.heap.size W w') := fun W a' c' i h => HCO.out W a' c' (us.eraseIdx i) (fun t ht => HSM.out t (List.mem_of_mem_eraseIdx ht)) (by have := List.length_eraseIdx_le us i; omega) h
      obtain ⟨M, hM⟩ : ∃ M, M = us.length := ⟨_, rfl⟩
      rw [← hM] at HCO1 HLO1 HBK HCL hul
      have HMM := Lib.hid hM
      have c0 := HBK.out.cell (i := 0) rfl
      have c2 := HBK.out.cell (i := 1) rfl
      clear hown hblk hm0 hfi hM hcap H FB HZr c1 HCO HLO HS HR HV HSM hx1 hx2 hx3
      obtain ⟨C, hC⟩ : ∃ C, C = conF k us := ⟨_, rfl⟩
      rw [← hC] at HCO1 HCL
      clear hC
      cases C
      · go_wp2_with (first | (go_at_call 43; go_loud (refine (HCO1.out _ HT.out).mono ?_; rintro e w3 ⟨rfl, hb⟩); have HB3 := Lib.hid (HB.out.trans (hb.mono HB.out.size)); clear hb))
        go_ret
        exact ⟨by rw [HE.out, HCL.out]; rfl, HB3.out⟩
      · go_upto_region 15 with (first | (go_at_call 43; go_loud (refine (HCO1.out _ HT.out).mono ?_; rintro e w3 ⟨rfl, hb⟩); have HB3 := Lib.hid (HB.out.trans (hb.mono HB.out.size)); have HT3 := Lib.hid (HT.out.below hb); have HBK3 := Lib.hid (HBK.out.below hb); clear hb))
        have c3 := HBK3.out.cell (i := 1) rfl
        have HA0 : Hid ((List.range 0).all (fun i => !conF k (us.eraseIdx i)) = true) := rfl
        clear c0 c2 HT HBK HCO1
        go_wp2_with fail
        clear c3
        go_loopg [10, 52] M (fun gk t10 t52 wr => ∃ j : Nat, j + gk = M ∧ t52 = .int .i64 j ∧ Hid ((List.range j).all (fun i => !conF k (us.eraseIdx i)) = true) ∧ Hid (Blk wr b6 [.int .i64 k, .slice fa M fc] 24) ∧ Hid (TiesAt wr fa us) ∧ Hid (Below w.heap.size w wr))
        case atStart => exact ⟨0, by omega, rfl, HA0, HBK3, HT3, HB3⟩
        case round =>
          clear HA0 HBK3 HT3 HB3 HB
          obtain ⟨j, hjg, rfl, HA, HBK, HT, HB⟩ := hrel
          by_cases hlt : j < M
          · have c0 := HBK.out.cell (i := 0) rfl
            have c1 := HBK.out.cell (i := 1) rfl
            have HLJ : Hid (j < M) := hlt
            obtain ⟨D, hD⟩ : ∃ D, D = conF k (us.eraseIdx j) := ⟨_, rfl⟩
            have HCJ : Hid (∀ W a' c', TiesAt W a' (us.eraseIdx j) → Calls Tryz.prog 43 #[.agg #[.int .i64 k, .slice a' (us.eraseIdx j).length c']] W fun e w' => e = .returned (.bool D) ∧ Below W.heap.size W w') := fun W a' c' h => by rw [hD]; exact HCO2.out W a' c' j h
            have HDD := Lib.hid hD
            clear hD
            cases D
            · go_wp2_with (first | (go_at_call 44; go_loud (refine (HLO1.out _ j HLJ.out HT.out).mono ?_; rintro e w4 ⟨a4, c4, rfl, ht4, hb⟩; have HB4 := Lib.hid (HB.out.trans (hb.mono HB.out.size)); have HT4 := Lib.hid (HT.out.below hb); have HBK4 := Lib.hid (HBK.out.below hb); have HX4 := Lib.hid ht4; clear hb ht4 c0 c1)) | (go_at_call 43; go_loud (refine (HCJ.out _ _ _ HX4.out).mono ?_; rintro e w5 ⟨rfl, hb⟩; have HB5 := Lib.hid (HB4.out.trans (hb.mono HB4.out.size)); have HT5 := Lib.hid (HT4.out.below hb); have HBK5 := Lib.hid (HBK4.out.below hb); clear hb)))
              go_roundg (gk - 1)
              case measure => omega
              case rel => exact ⟨j + 1, by omega, by simp, by rw [Hid, all_range_step, HA.out, ← HDD.out]; rfl, HBK5, HT5, HB5⟩
            · go_wp2_with (first | (go_at_call 44; go_loud (refine (HLO1.out _ j HLJ.out HT.out).mono ?_; rintro e w4 ⟨a4, c4, rfl, ht4, hb⟩; have HB4 := Lib.hid (HB.out.trans (hb.mono HB.out.size)); have HT4 := Lib.hid (HT.out.below hb); have HBK4 := Lib.hid (HBK.out.below hb); have HX4 := Lib.hid ht4; clear hb ht4 c0 c1)) | (go_at_call 43; go_loud (refine (HCJ.out _ _ _ HX4.out).mono ?_; rintro e w5 ⟨rfl, hb⟩; have HB5 := Lib.hid (HB4.out.trans (hb.mono HB4.out.size)); clear hb)))
              go_ret
              exact ⟨by rw [HE.out, HCL.out, all_range_bad (f := fun i => !conF k (us.eraseIdx i)) (j := j) hlt (by rw [← HDD.out]; rfl)]; rfl, HB5.out⟩
          · have e : M = j := by omega
            subst e
            go_wp2_with fail
            go_ret
            exact ⟨by rw [HE.out, HCL.out, HA.out]; rfl, HB.out⟩
end Go.Proofs.YtjcafjffmiknmaaGreat
