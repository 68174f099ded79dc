/- Layer 4: the specification's Merge. -/
import Derived.Test.YtmnabonhilkkbaaGreatEv
namespace Go.Proofs.YtmnabonhilkkbaaGreat
set_option linter.unusedSimpArgs false
set_option linter.unusedVariables false
open Go Go.RowKit

theorem mem_step {ts : List TieD} (u : TieD) {j : Nat} (hj : j < ts.length) : decide (u ∈ ts.take (j + 1)) = (decide (u ∈ ts.take j) || decide (u = ts[j])) := by
  rw [← List.take_append_getElem hj, ← Bool.decide_or]
  exact decide_eq_decide.2 (by rw [List.mem_append, List.mem_singleton])
/-- What lies in memory between two rounds. -/
def MST (w W : World) (n n' : Int) (a b : Option Addr) (m q cap cap' p : Nat) (L : List TieD) : Prop :=
  HGr w w.heap.size p n L W ∧ Blk W w.heap.size [.int .i64 n, .slice a m cap] 24 ∧ Blk W (w.heap.size + 1) [.int .i64 n', .slice b q cap'] 24 ∧ Blk W (w.heap.size + 1 + 1) [.int .i64 0, .slice none 0 0] 24 ∧ w.heap.size + 1 + 1 < p
theorem MST.below {w W W' : World} {n n' : Int} {a b : Option Addr} {m q cap cap' p : Nat} {L : List TieD} (h : MST w W n n' a b m q cap cap' p L) (hb : Below W.heap.size W W') : MST w W' n n' a b m q cap cap' p L :=
  ⟨h.1.below hb, h.2.1.below hb, h.2.2.1.below hb, h.2.2.2.1.below hb, h.2.2.2.2⟩
set_option maxRecDepth 100000 in
set_option maxHeartbeats 4000000 in
theorem rMerge_any (n n' : Int) (a b : Option Addr) (cap cap' : Nat) (ts us : List TieD) (w : World) (hl : ts.length ≤ 9223372036854775807) (hl' : us.length ≤ 9223372036854775807) (hs : TiesAt w a ts) (ht : TiesAt w b us) :
    Calls Tryz.prog 10 #[gV n a ts.length cap, gV n' b us.length cap'] w (GRes' (mrgR n ts n' us) w) := by
  have HC : Hid (∀ W, Below w.heap.size w W → Calls Tryz.prog 14 #[gV n a ts.length cap] W fun e w' => e = .returned (.int .i64 (errG n ts)) ∧ Below W.heap.size W w') := fun W hb => rCheck_any n a cap ts W hl (hs.below hb)
  have HD : Hid (∀ W, Below w.heap.size w W → Calls Tryz.prog 14 #[gV n' b us.length cap'] W fun e w' => e = .returned (.int .i64 (errG n' us)) ∧ Below W.heap.size W w') := fun W hb => rCheck_any n' b cap' us W hl' (ht.below hb)
  have HOK : Hid (okG n ts = true → ts.length ≤ 512) := okG_len
  have HOK2 : Hid (okG n' us = true → us.length ≤ 512) := okG_len
  unfold errG at HC HD
  unfold GRes' GRes mrgR
  obtain ⟨G, hG⟩ : ∃ G, G = ts ++ mrgF ts us := ⟨_, rfl⟩
  have HGG := Lib.hid hG
  rw [← hG]
  obtain ⟨m, hm⟩ : ∃ m, m = ts.length := ⟨_, rfl⟩
  have HML := Lib.hid hm
  rw [← hm] at hl HC HOK ⊢
  obtain ⟨q, hq⟩ : ∃ q, q = us.length := ⟨_, rfl⟩
  have HQL := Lib.hid hq
  rw [← hq] at hl' HD HOK2 ⊢
  have hmf : ∀ (fn : Fn) (first cap : Array Value) (w : World), (Instr.makeFunc fn first cap).run Tryz.prog w = .ok (.func fn first cap) w := fun _ _ _ _ => rfl
  have HN0 := Lib.hid (K3.new w n n' a b m q cap cap')
  have HS := Lib.hid hs
  have HT := Lib.hid ht
  clear hm hq hs ht hG
  simp only [gV] at HC HD ⊢
  cases hok : okG n ts with
  | false =>
    rw [hok] at HC
    clear HD hok
    simp only [Bool.false_eq_true, if_false] at HC ⊢
    go_enter Tryz.func10, Tryz.ntmps10
    go_wp2_with (first | (go_at_call 14; refine (HC.out _ HN0.out.2.2.2).mono ?_; rintro e w1 ⟨rfl, hb⟩; clear HC; have HY := Lib.hid (HN0.out.below hb); clear hb HN0; have d0 := HY.out.2.2.1.cell (i := 0) rfl; have d1 := HY.out.2.2.1.cell (i := 1) rfl; have f0 := HY.out.2.2.1.frozen 0; have f1 := HY.out.2.2.1.frozen 1))
    refine named (fun V => Blk V (w.heap.size + 1 + 1) [.int .i64 0, .slice none 0 0] 24 ∧ Below w.heap.size w V) ⟨(HY.out.2.2.1.set_ 0 _).set_ 1 _, (HY.out.2.2.2.setCell (by show w.heap.size ≤ w.heap.size + 1 + 1; omega) _).setCell (by show w.heap.size ≤ w.heap.size + 1 + 1; omega) _⟩ ?_
    rintro V ⟨V1, V3⟩
    have e0 := V1.cell (i := 0) rfl
    have e1 := V1.cell (i := 1) rfl
    refine bodyPost_ret (v := .tuple #[.agg #[.int .i64 0, .slice none 0 0], .int .i64 40]) (by simp [results, Tryz.results10, go_sem, e0, e1]) rfl ?_
    exact gres_zero3 (b4 := 0) V3
  | true =>
    rw [hok] at HC
    simp only [if_true] at HC ⊢
    cases hok2 : okG n' us with
    | false =>
      rw [hok2] at HD
      clear hok hok2
      simp only [Bool.false_eq_true, if_false] at HD ⊢
      go_enter Tryz.func10, Tryz.ntmps10
      go_wp2_with (first | (go_at_call 14; refine (HC.out _ HN0.out.2.2.2).mono ?_; rintro e w1 ⟨rfl, hb⟩; clear HC; have HX := Lib.hid (HN0.out.below hb); clear hb HN0; have x0 := HX.out.2.1.cell (i := 0) rfl; have x1 := HX.out.2.1.cell (i := 1) rfl) | (go_at_call 14; refine (HD.out _ HX.out.2.2.2).mono ?_; rintro e w2 ⟨rfl, hb⟩; clear HD x0 x1; have HY := Lib.hid (HX.out.below hb); clear hb HX; have d0 := HY.out.2.2.1.cell (i := 0) rfl; have d1 := HY.out.2.2.1.cell (i := 1) rfl; have f0 := HY.out.2.2.1.frozen 0; have f1 := HY.out.2.2.1.frozen 1))
      refine named (fun V => Blk V (w.heap.size + 1 + 1) [.int .i64 0, .slice none 0 0] 24 ∧ Below w.heap.size w V) ⟨(HY.out.2.2.1.set_ 0 _).set_ 1 _, (HY.out.2.2.2.setCell (by show w.heap.size ≤ w.heap.size + 1 + 1; omega) _).setCell (by show w.heap.size ≤ w.heap.size + 1 + 1; omega) _⟩ ?_
      rintro V ⟨V1, V3⟩
      have e0 := V1.cell (i := 0) rfl
      have e1 := V1.cell (i := 1) rfl
      refine bodyPost_ret (v := .tuple #[.agg #[.int .i64 0, .slice none 0 0], .int .i64 40]) (by simp [results, Tryz.results10, go_sem, e0, e1]) rfl ?_
      exact gres_zero3 (b4 := 0) V3
    | true =>
      rw [hok2] at HD
      replace HOK := Lib.hid (HOK.out hok)
      replace HOK2 := Lib.hid (HOK2.out hok2)
      clear hok hok2
      simp only [if_true] at HD ⊢
      by_cases hnn : n = n'
      case neg =>
        rw [if_neg hnn]
        have t1 : (n != n') = true := by simpa using hnn
        go_enter Tryz.func10, Tryz.ntmps10
        go_wp2_with (first | (go_at_call 14; refine (HC.out _ HN0.out.2.2.2).mono ?_; rintro e w1 ⟨rfl, hb⟩; clear HC; have HX := Lib.hid (HN0.out.below hb); clear hb HN0; have x0 := HX.out.2.1.cell (i := 0) rfl; have x1 := HX.out.2.1.cell (i := 1) rfl) | (go_at_call 14; refine (HD.out _ HX.out.2.2.2).mono ?_; rintro e w2 ⟨rfl, hb⟩; clear HD x0 x1; have HY := Lib.hid (HX.out.below hb); clear hb HX; have d0 := HY.out.2.2.1.cell (i := 0) rfl; have d1 := HY.out.2.2.1.cell (i := 1) rfl; have f0 := HY.out.2.2.1.frozen 0; have f1 := HY.out.2.2.1.frozen 1; have c0 := HY.out.1.cell (i := 0) rfl; have c1 := HY.out.1.cell (i := 1) rfl; have g0 := HY.out.2.1.cell (i := 0) rfl; have g1 := HY.out.2.1.cell (i := 1) rfl))
        refine named (fun V => Blk V (w.heap.size + 1 + 1) [.int .i64 0, .slice none 0 0] 24 ∧ Below w.heap.size w V) ⟨(HY.out.2.2.1.set_ 0 _).set_ 1 _, (HY.out.2.2.2.setCell (by show w.heap.size ≤ w.heap.size + 1 + 1; omega) _).setCell (by show w.heap.size ≤ w.heap.size + 1 + 1; omega) _⟩ ?_
        rintro V ⟨V1, V3⟩
        have e0 := V1.cell (i := 0) rfl
        have e1 := V1.cell (i := 1) rfl
        refine bodyPost_ret (v := .tuple #[.agg #[.int .i64 0, .slice none 0 0], .int .i64 1]) (by simp [results, Tryz.results10, go_sem, e0, e1]) rfl ?_
        exact gres_zero3 (b4 := 0) V3
      rw [if_pos hnn]
      have t1 : (n != n') = false := by simpa using hnn
      clear hnn
      have HAL : Hid (∀ W, Calls Tryz.prog 36 #[.agg #[.int .i64 n, .slice a m cap]] W fun e w' => ∃ g, e = .returned (.slice (some ⟨g, 0, none⟩) m m) ∧ Blk w' g (bvL (ts.map fun _ => true)) 4 ∧ W.heap.size ≤ g ∧ Below W.heap.size W w') := fun W => by
        have h1 := rAll_any n a cap ts W (by have := HML.out; have := HOK.out; omega)
        rw [← HML.out] at h1
        have e1 : List.replicate m true = ts.map fun _ => true := by rw [HML.out, List.map_const']
        rw [e1] at h1; exact h1
      have HKP : Hid (∀ W g, Below w.heap.size w W → Blk W g (bvL (ts.map fun _ => true)) 4 → Calls Tryz.prog 35 #[.agg #[.int .i64 n, .slice a m cap], .slice (some ⟨g, 0, none⟩) m m] W fun e w' => ∃ v, e = .returned (.agg #[.int .i64 n, v]) ∧ w'.ownsRow W.heap.size 26 5 v m (tvL ts) ∧ Below W.heap.size W w') := fun W g hb hk => by
        have h1 := keptOwn (fun _ => true) n a cap g ts W (by have := HML.out; have := HOK.out; omega) (HS.out.below hb) hk
        rw [← HML.out] at h1
        have e1 : ts.filter (fun _ => true) = ts := List.filter_eq_self.2 fun _ _ => rfl
        rw [e1, ← HML.out] at h1; exact h1
      obtain ⟨EB, hEB⟩ : ∃ EB : GR, EB = if 512 < G.length then ⟨0, [], 2⟩ else ⟨n, G, 0⟩ := ⟨_, rfl⟩
      have HEB := Lib.hid hEB
      rw [← hEB]
      clear hEB
      go_enter Tryz.func10, Tryz.ntmps10
      go_upto_region 5 with (first | (go_at_call 14; refine (HC.out _ HN0.out.2.2.2).mono ?_; rintro e w1 ⟨rfl, hb⟩; clear HC; have HX := Lib.hid (HN0.out.below hb); clear hb HN0; have x0 := HX.out.2.1.cell (i := 0) rfl; have x1 := HX.out.2.1.cell (i := 1) rfl) | (go_at_call 14; refine (HD.out _ HX.out.2.2.2).mono ?_; rintro e w2 ⟨rfl, hb⟩; clear HD x0 x1; have HY := Lib.hid (HX.out.below hb); clear hb HX; have c0 := HY.out.1.cell (i := 0) rfl; have c1 := HY.out.1.cell (i := 1) rfl; have g0 := HY.out.2.1.cell (i := 0) rfl; have g1 := HY.out.2.1.cell (i := 1) rfl))
      have HX : Hid (∀ W, (clOld w2.drew).C W → K3 w W [.int .i64 n, .slice a m cap] [.int .i64 n', .slice b q cap']) := fun W hC => HY.out.below (old_end (Below.refl _ _) hC (Nat.le_refl _))
      have HB2 : Hid (w.heap.size + 1 + 1 < w2.heap.size) := HY.out.2.2.1.lt
      clear c0 c1 g0 g1
      refine wp_region_old2 (Z := (fun e => if e = 24 then zvG else .bool false)) 5 75 [24] (by kernel_rfl) (by kernel_rfl) (by kernel_rfl) (by kernel_rfl) (by intro e he w; simp only [List.mem_cons, List.not_mem_nil, or_false] at he; rcases he with rfl <;> first | exact zero_g w) (by rfl) ?_
      simp only [List.take_succ_cons, List.take_zero, List.drop_succ_cons, List.drop_zero, List.drop_nil]
      refine chain_load (.agg #[.int .i64 n, .slice a m cap]) _ _ _ (fun _ _ => Below.refl _ _) rfl rfl (by kernel_rfl) (by kernel_rfl) rfl (fun w1 hC => load_g ((HX.out w1 hC).1.cell rfl) ((HX.out w1 hC).1.cell rfl)) ?_
      refine chain_load (.agg #[.int .i64 n, .slice a m cap]) _ _ _ (fun _ _ => Below.refl _ _) rfl rfl (by kernel_rfl) (by kernel_rfl) rfl (fun w1 hC => load_g ((HX.out w1 hC).1.cell rfl) ((HX.out w1 hC).1.cell rfl)) ?_
      refine chain_call_re (othW (bvL (ts.map fun _ => true)) m) 36 [.agg #[.int .i64 n, .slice a m cap]] _ _ (othW_lasts _ _) (enters_of Tryz.func36 (by kernel_rfl) rfl) rfl rfl rfl (by kernel_rfl) (by kernel_rfl) rfl rfl (fun w1 hC => (HAL.out w1).mono fun e w' ⟨g, he, hk, _, hb⟩ => ⟨_, he, hb, g, rfl, hk⟩) ?_
      refine chain_call_use_re (kptW w.heap.size n m (tvL ts)) (kptW_lasts _ _ _ _) 27 _ 35 (fun x => [.agg #[.int .i64 n, .slice a m cap], x]) _ _ (enters_of Tryz.func35 (by kernel_rfl) rfl) rfl rfl rfl (by kernel_rfl) rfl rfl (fun _ => rfl) rfl (fun _ => rfl) (fun x w1 hC ⟨g, hx, hk⟩ => by subst hx; exact (HKP.out w1 g (HX.out w1 hC).2.2.2 hk).mono fun e w' ⟨v, he, ho, hb⟩ => ⟨_, he, hb, v, rfl, own_mono ho (HX.out w1 hC).2.2.2.size⟩) ?_
      refine chain_alloc 24 zvG rfl rfl (by kernel_rfl) (by kernel_rfl) (fun w => zero_g w) ?_
      refine chain_end2 (by rfl) ?_
      intro xs w6 hCw6 hrew6 hNw6
      simp only [layE, List.foldr_cons, List.foldr_nil, List.set_cons_succ, List.set_cons_zero] at hNw6 ⊢
      obtain ⟨p4, hb4⟩ := hrew6 6 ptr_w rfl
      simp only [hb4] at hNw6 ⊢
      obtain ⟨bx4, hx4, hB4, hk4⟩ := hNw6.1 4 _ _ 6 (by decide) (by rfl) (by rfl) rfl rfl rfl
      obtain rfl : p4 = bx4 := by simpa using hx4
      clear hx4
      clear hNw6  hb4
      obtain ⟨v, hu, ho⟩ := hrew6 28 _ rfl
      simp only [hu]
      obtain ⟨fa, fc, rfl⟩ := own_slice ho
      have hk4' : Blk w6 p4 [.int .i64 0, .slice none 0 0] 24 := hk4
      have HP := Lib.hid hk4'
      have HOW := Lib.hid ho
      have HY6 := Lib.hid (HX.out w6 hCw6)
      have HPB : Hid (w.heap.size + 1 + 1 < p4) := Nat.lt_of_lt_of_le HB2.out hB4
      have d0 := hk4'.cell (i := 0) rfl
      have d1 := hk4'.cell (i := 1) rfl
      have f0 := hk4'.frozen 0
      have f1 := hk4'.frozen 1
      clear hk4 hk4' ho hu hrew6 hCw6 hB4 HX HAL HKP HY HB2
      go_upto_region 6 with (fail)
      refine named (fun V => Hid (MST w V n n' a b m q cap cap' p4 (ts ++ mrgF ts (us.take 0)))) ?_ ?_
      · have o1 : Only p4 w6 ((w6.setCell ⟨p4, 0, none⟩ (.int .i64 n)).setCell ⟨p4, 1, none⟩ (.slice fa m fc)) := ((Only.refl _ w6).set_ 0 _).set_ 1 _
        have hp := HPB.out
        have hq : w.heap.size ≤ p4 := by omega
        refine ⟨⟨⟨.slice fa m fc, ?_, (HP.out.set_ 0 _).set_ 1 _⟩, (HY6.out.2.2.2.setCell hq _).setCell hq _⟩, HY6.out.1.only o1 (by omega), HY6.out.2.1.only o1 (by omega), HY6.out.2.2.1.only o1 (by omega), hp⟩
        have h1 := own_only HOW.out HP.out o1
        have e1 : ts ++ mrgF ts (us.take 0) = ts := by simp [mrgF]
        rw [e1, ← HML.out]; exact h1
      clear HP HOW HY6 d0 d1 f0 f1 HPB
      rintro V HS0
      go_wp2_with fail
      go_loopg [7] q (fun gk t7 wr => ∃ k : Nat, k + gk = q ∧ t7 = .int .i64 k ∧ Hid (MST w wr n n' a b m q cap cap' p4 (ts ++ mrgF ts (us.take k))))
      case atStart => exact ⟨0, by omega, rfl, HS0⟩
      case round =>
        obtain ⟨k, hkg, rfl, H⟩ := hrel
        clear HS0
        have g1 := H.out.2.2.1.cell (i := 1) rfl
        by_cases hlt : k < q
        · have hkl : k < us.length := by rw [← HQL.out]; exact hlt
          obtain ⟨KG, hKG⟩ : ∃ KG, KG = gk - 1 := ⟨_, rfl⟩
          have HKG : Hid (k + 1 + KG = q ∧ KG < gk) := by rw [hKG]; exact ⟨by omega, by omega⟩
          clear hKG
          obtain ⟨hb, ho, rfl, hhb, _⟩ := (HT.out.below H.out.1.old).at hkl
          clear hhb
          obtain ⟨u, hu⟩ : ∃ u, u = us[k] := ⟨_, rfl⟩
          have HU := Lib.hid hu
          obtain ⟨st1, st2⟩ := filt_step (p := fun t => !decide (t ∈ ts)) hkl
          rw [← hu] at st1 st2
          have ST1 := Lib.hid st1
          have ST2 := Lib.hid st2
          clear hu st1 st2
          have t2 : decide (k < q) = true := decide_eq_true hlt
          go_wp2_with fail
          clear g1
          go_loopg [8, 9] m (fun gk t8 t9 wr => ∃ j : Nat, j + gk = m ∧ t9 = .int .i64 j ∧ t8 = .bool (decide (u ∈ ts.take j)) ∧ Hid (MST w wr n n' a (some ⟨hb, ho, none⟩) m q cap cap' p4 (ts ++ mrgF ts (us.take k))))
          case atStart => exact ⟨0, by omega, rfl, by simp, H⟩
          case round =>
            clear H
            obtain ⟨j, hjg, rfl, rfl, H⟩ := hrel
            have c1 := H.out.2.1.cell (i := 1) rfl
            by_cases hlt2 : j < m
            · have HST : Hid (decide (u ∈ ts.take (j + 1)) = (decide (u ∈ ts.take j) || decide (u = ts[j]'(by rw [← HML.out]; exact hlt2)))) := mem_step _ _
              have t3 : decide (j < m) = true := decide_eq_true hlt2
              obtain ⟨v, hv⟩ : ∃ v, v = decide (u ∈ ts.take j) := ⟨_, rfl⟩
              rw [← hv] at HST ⊢
              clear hv
              cases v with
              | true =>
                rw [Bool.true_or] at HST
                go_upto_region 13 with (fail)
                refine wp_region_old 14 75 (by kernel_rfl) (by kernel_rfl) (by rfl) ?_
                simp only [List.take_succ_cons, List.take_zero, List.drop_succ_cons, List.drop_zero, List.drop_nil]
                refine chain_move (.bool true) _ (fun _ _ => Below.refl _ _) rfl rfl (by kernel_rfl) (by kernel_rfl) rfl ?_
                refine chain_move (.bool true) _ (fun _ _ => Below.refl _ _) rfl rfl (by kernel_rfl) (by kernel_rfl) rfl ?_
                refine chain_skip rfl (by kernel_rfl) ?_
                refine chain_skip rfl (by kernel_rfl) ?_
                refine chain_skip rfl (by kernel_rfl) ?_
                refine chain_skip rfl (by kernel_rfl) ?_
                refine chain_skip rfl (by kernel_rfl) ?_
                refine chain_skip rfl (by kernel_rfl) ?_
                refine chain_skip rfl (by kernel_rfl) ?_
                refine chain_skip rfl (by kernel_rfl) ?_
                refine chain_skip rfl (by kernel_rfl) ?_
                refine chain_skip rfl (by kernel_rfl) ?_
                refine chain_skip rfl (by kernel_rfl) ?_
                refine chain_pick (.bool true) _ _ _ true (fun _ _ => Below.refl _ _) rfl rfl (by kernel_rfl) (by kernel_rfl) rfl rfl ?_
                refine chain_end (by rfl) ?_
                intro xs w3 hCw3 hrew3
                simp only [layE, List.foldr_cons, List.foldr_nil, List.set_cons_succ, List.set_cons_zero]
                have HYB : Hid (Below wr.heap.size wr w3) := old_end (Below.refl _ _) hCw3 (Nat.le_refl _)
                clear hCw3 hrew3
                go_wp2_with fail
                go_roundg (gk - 1)
                case measure => omega
                case rel => exact ⟨j + 1, by omega, by simp, by rw [HST.out], H.out.below HYB.out⟩
              | false =>
                have hjl : j < ts.length := by rw [← HML.out]; exact hlt2
                obtain ⟨lb, lo, rfl, hlb, y0, y1, y2, y3, y4⟩ := (HS.out.below H.out.1.old).at hjl
                obtain ⟨xb, xo, exb, hxb, z0, z1, z2, z3, z4⟩ := (HT.out.below H.out.1.old).at hkl
                obtain ⟨rfl, rfl⟩ : xb = hb ∧ xo = ho := by simpa using exb.symm
                clear exb
                obtain ⟨t, htt⟩ : ∃ t, t = ts[j] := ⟨_, rfl⟩
                rw [← htt] at y0 y1 y2 y3 y4
                obtain ⟨x, hxx⟩ : ∃ x, x = us[k] := ⟨_, rfl⟩
                rw [← hxx] at z0 z1 z2 z3 z4
                have HXU : Hid (x = u) := by rw [Hid, hxx, HU.out]
                have HLD : Hid (∀ W, Old wr.drew W → (Instr.loadAt 26 (.pointer (some ⟨lb, lo + j * 5, none⟩))).run Tryz.prog W = .ok (tieV t) W) := fun W h => load_tie (by rw [Below.cell h (by exact hlb)]; exact y0) (by rw [Below.cell h (by exact hlb)]; exact y1) (by rw [Below.cell h (by exact hlb)]; exact y2) (by rw [Below.cell h (by exact hlb)]; exact y3) (by rw [Below.cell h (by exact hlb)]; exact y4)
                have HLU : Hid (∀ W, Old wr.drew W → (Instr.loadAt 26 (.pointer (some ⟨xb, xo + k * 5, none⟩))).run Tryz.prog W = .ok (tieV x) W) := fun W h => load_tie (by rw [Below.cell h (by exact hxb)]; exact z0) (by rw [Below.cell h (by exact hxb)]; exact z1) (by rw [Below.cell h (by exact hxb)]; exact z2) (by rw [Below.cell h (by exact hxb)]; exact z3) (by rw [Below.cell h (by exact hxb)]; exact z4)
                obtain ⟨p, hp⟩ : ∃ p, p = decide (t = x) := ⟨_, rfl⟩
                have HP := Lib.hid hp
                have HST2 : Hid (decide (u ∈ ts.take (j + 1)) = p) := by rw [Hid, HST.out, hp, htt, HXU.out, Bool.false_or]; exact decide_eq_decide.2 eq_comm
                have HLTJ : Hid (j < m) := hlt2
                have HLTK : Hid (k < q) := hlt
                clear htt hxx y0 y1 y2 y3 y4 z0 z1 z2 z3 z4 hlb hxb hjl hp HXU
                go_upto_region 13 with (fail)
                have HOLD : Hid (∀ w1, (clOld wr.drew).C w1 → MST w w1 n n' (some ⟨lb, lo, none⟩) (some ⟨xb, xo, none⟩) m q cap cap' p4 (ts ++ mrgF ts (us.take k))) := fun w1 hC => H.out.below (old_end (Below.refl _ _) hC (Nat.le_refl _))
                refine wp_region_old 14 75 (by kernel_rfl) (by kernel_rfl) (by rfl) ?_
                simp only [List.take_succ_cons, List.take_zero, List.drop_succ_cons, List.drop_zero, List.drop_nil]
                refine chain_move (.bool false) _ (fun _ _ => Below.refl _ _) rfl rfl (by kernel_rfl) (by kernel_rfl) rfl ?_
                refine chain_move (.bool false) _ (fun _ _ => Below.refl _ _) rfl rfl (by kernel_rfl) (by kernel_rfl) rfl ?_
                refine chain_val (.pointer (some ⟨w.heap.size, 1, none⟩)) (fun _ _ => Below.refl _ _) rfl (by intro cs b h; cases h) (by kernel_rfl) (by kernel_rfl) (fun w1 _ => by simp [execOp, evE, lk_cons, lk_nil, slotL, go_sem]) ?_
                refine chain_load (.slice (some ⟨lb, lo, none⟩) m cap) _ _ _ (fun _ _ => Below.refl _ _) rfl rfl (by kernel_rfl) (by kernel_rfl) rfl (fun w1 hC => load_slq ((HOLD.out w1 hC).2.1.cell rfl)) ?_
                refine chain_move (.int .i64 j) _ (fun _ _ => Below.refl _ _) rfl rfl (by kernel_rfl) (by kernel_rfl) rfl ?_
                refine chain_idx (.pointer (some ⟨lb, lo + j * 5, none⟩)) _ _ _ (.slice (some ⟨lb, lo, none⟩) m cap) (.int .i64 j) (fun _ _ => Below.refl _ _) rfl rfl (by kernel_rfl) (by kernel_rfl) rfl rfl (fun w1 => idx_tie _ _ _ _ _ HLTJ.out w1) ?_
                refine chain_load (tieV t) _ _ _ (fun _ _ => Below.refl _ _) rfl rfl (by kernel_rfl) (by kernel_rfl) rfl (fun w1 hC => HLD.out w1 hC) ?_
                refine chain_val (.pointer (some ⟨w.heap.size + 1, 1, none⟩)) (fun _ _ => Below.refl _ _) rfl (by intro cs b h; cases h) (by kernel_rfl) (by kernel_rfl) (fun w1 _ => by simp [execOp, evE, lk_cons, lk_nil, slotL, go_sem]) ?_
                refine chain_load (.slice (some ⟨xb, xo, none⟩) q cap') _ _ _ (fun _ _ => Below.refl _ _) rfl rfl (by kernel_rfl) (by kernel_rfl) rfl (fun w1 hC => load_slq ((HOLD.out w1 hC).2.2.1.cell rfl)) ?_
                refine chain_move (.int .i64 k) _ (fun _ _ => Below.refl _ _) rfl rfl (by kernel_rfl) (by kernel_rfl) rfl ?_
                refine chain_idx (.pointer (some ⟨xb, xo + k * 5, none⟩)) _ _ _ (.slice (some ⟨xb, xo, none⟩) q cap') (.int .i64 k) (fun _ _ => Below.refl _ _) rfl rfl (by kernel_rfl) (by kernel_rfl) rfl rfl (fun w1 => idx_tie _ _ _ _ _ HLTK.out w1) ?_
                refine chain_load (tieV x) _ _ _ (fun _ _ => Below.refl _ _) rfl rfl (by kernel_rfl) (by kernel_rfl) rfl (fun w1 hC => HLU.out w1 hC) ?_
                refine chain_bin (.bool p) _ _ _ _ _ (tieV t) (tieV x) (fun _ _ => Below.refl _ _) rfl rfl (by kernel_rfl) (by kernel_rfl) rfl rfl (fun w1 => eql_tie _ _ _ _ _ HP.out w1) ?_
                refine chain_pick (.bool p) _ _ _ false (fun _ _ => Below.refl _ _) rfl rfl (by kernel_rfl) (by kernel_rfl) rfl rfl ?_
                refine chain_end (by rfl) ?_
                intro xs w3 hCw3 hrew3
                simp only [layE, List.foldr_cons, List.foldr_nil, List.set_cons_succ, List.set_cons_zero]
                have HYB : Hid (Below wr.heap.size wr w3) := old_end (Below.refl _ _) hCw3 (Nat.le_refl _)
                clear hCw3 hrew3
                go_wp2_with fail
                go_roundg (gk - 1)
                case measure => omega
                case rel => exact ⟨j + 1, by omega, by simp, by rw [HST2.out], H.out.below HYB.out⟩
            · have e : j = m := by omega
              subst e
              have t3 : decide (j < j) = false := by simp
              have hts : ts.take j = ts := List.take_of_length_le (by rw [← HML.out]; omega)
              rw [hts]
              clear hts
              obtain ⟨v, hv⟩ : ∃ v, v = decide (u ∈ ts) := ⟨_, rfl⟩
              rw [← hv] at ST1 ST2 ⊢
              clear hv
              cases v with
              | true =>
                have HST := Lib.hid (ST2.out rfl)
                clear ST1 ST2
                go_wp2_with fail
                go_roundg KG
                case measure => have := HKG.out; omega
                case rel => exact ⟨k + 1, HKG.out.1, by simp, by unfold mrgF; rw [HST.out]; exact H⟩
              | false =>
                have HST := Lib.hid (ST1.out rfl)
                clear ST1 ST2
                obtain ⟨xb, xo, exb, hxb, z0, z1, z2, z3, z4⟩ := (HT.out.below H.out.1.old).at hkl
                obtain ⟨rfl, rfl⟩ : xb = hb ∧ xo = ho := by simpa using exb.symm
                clear exb
                rw [← HU.out] at z0 z1 z2 z3 z4
                have HLU : Hid (∀ W, Old wr.drew W → (Instr.loadAt 26 (.pointer (some ⟨xb, xo + k * 5, none⟩))).run Tryz.prog W = .ok (tieV u) W) := fun W h => load_tie (by rw [Below.cell h (by exact hxb)]; exact z0) (by rw [Below.cell h (by exact hxb)]; exact z1) (by rw [Below.cell h (by exact hxb)]; exact z2) (by rw [Below.cell h (by exact hxb)]; exact z3) (by rw [Below.cell h (by exact hxb)]; exact z4)
                clear z0 z1 z2 z3 z4 hxb
                obtain ⟨pre, hpre⟩ : ∃ pre, pre = ts ++ mrgF ts (us.take k) := ⟨_, rfl⟩
                have HPE : Hid (ts ++ mrgF ts (us.take (k + 1)) = pre ++ [u]) := by rw [Hid, hpre]; unfold mrgF; rw [HST.out, List.append_assoc]
                have HPL : Hid (pre.length ≤ 1024) := by
                  rw [hpre]
                  have h1 := List.length_filter_le (fun t => !decide (t ∈ ts)) (us.take k)
                  rw [List.length_take] at h1
                  have h2 := HOK.out
                  have h3 := HOK2.out
                  have h4 := HML.out
                  simp only [Hid, List.length_append, mrgF]
                  omega
                rw [← hpre] at H
                clear hpre HST
                obtain ⟨tv, hown, hblk⟩ := H.out.1.own
                obtain ⟨fa, fc, rfl, hm0, hfi⟩ := own_ties hown
                obtain ⟨z, hz⟩ : ∃ z, z = pre.length := ⟨_, rfl⟩
                rw [← hz] at hown hblk HPL
                have HO := Lib.hid hown
                have HBK := Lib.hid hblk
                have HZL := Lib.hid hz
                have HLTK : Hid (k < q) := hlt
                clear hown hblk hm0 hfi hz
                go_upto_region 15 with (fail)
                have HOLD : Hid (∀ w1, (clOld wr.drew).C w1 → Below wr.heap.size wr w1) := fun w1 hC => old_end (Below.refl _ _) hC (Nat.le_refl _)
                refine wp_region_late_old 10 75 8 [9] (by kernel_rfl) (by kernel_rfl) (by rfl) ?_
                simp only [List.take_succ_cons, List.take_zero, List.eraseIdx_cons_succ, List.eraseIdx_cons_zero]
                refine chain_val (.pointer (some ⟨p4, 1, none⟩)) (fun _ _ => Below.refl _ _) rfl (by intro cs b h; cases h) (by kernel_rfl) (by kernel_rfl) (fun w1 _ => by simp [execOp, evE, lk_cons, lk_nil, slotL, go_sem]) ?_
                refine chain_load (.slice fa z fc) _ _ _ (fun _ _ => Below.refl _ _) rfl rfl (by kernel_rfl) (by kernel_rfl) rfl (fun w1 hC => load_slq ((HBK.out.below (HOLD.out w1 hC)).cell rfl)) ?_
                refine chain_val (.pointer (some ⟨w.heap.size + 1, 1, none⟩)) (fun _ _ => Below.refl _ _) rfl (by intro cs b h; cases h) (by kernel_rfl) (by kernel_rfl) (fun w1 _ => by simp [execOp, evE, lk_cons, lk_nil, slotL, go_sem]) ?_
                refine chain_load (.slice (some ⟨xb, xo, none⟩) q cap') _ _ _ (fun _ _ => Below.refl _ _) rfl rfl (by kernel_rfl) (by kernel_rfl) rfl (fun w1 hC => load_slq ((H.out.2.2.1.below (HOLD.out w1 hC)).cell rfl)) ?_
                refine chain_move (.int .i64 k) _ (fun _ _ => Below.refl _ _) rfl rfl (by kernel_rfl) (by kernel_rfl) rfl ?_
                refine chain_idx (.pointer (some ⟨xb, xo + k * 5, none⟩)) _ _ _ (.slice (some ⟨xb, xo, none⟩) q cap') (.int .i64 k) (fun _ _ => Below.refl _ _) rfl rfl (by kernel_rfl) (by kernel_rfl) rfl rfl (fun w1 => idx_tie _ _ _ _ _ HLTK.out w1) ?_
                refine chain_load (tieV u) _ _ _ (fun _ _ => Below.refl _ _) rfl rfl (by kernel_rfl) (by kernel_rfl) rfl (fun w1 hC => HLU.out w1 hC) ?_
                refine chain_new (tieW u) (tieW_lasts _) rfl (by intro cs b h; cases h) (by kernel_rfl) (by kernel_rfl) (fun w1 hC => new_tie (by simp [execOp, evE, lk_cons, lk_nil, go_sem, Instr.buildSlice, tieV]) hC) ?_
                refine chain_val (.pointer (some ⟨p4, 1, none⟩)) (fun _ _ => Below.refl _ _) rfl (by intro cs b h; cases h) (by kernel_rfl) (by kernel_rfl) (fun w1 _ => by simp [execOp, evE, lk_cons, lk_nil, slotL, go_sem]) ?_
                refine after_app 60 66 (by rfl) (by rfl) (by rfl) (by rfl) (by kernel_rfl) (by kernel_rfl) ?_
                intro x zz w1 hC hx hz
                replace hx : x = .slice fa z fc := hx
                subst hx
                replace hz : tieW u zz w1 := hz
                obtain ⟨b9, rfl, hta⟩ := hz
                have hb1 := HOLD.out w1 hC
                have hO1 := own_below HO.out hb1
                have hM1 := H.out.below hb1
                obtain ⟨f2, c2, w6, hrun, hown, hgrow⟩ := own_app w1 w.heap.size z 22 fa fc pre b9 u hO1 hta (by have := HPL.out; omega) hM1.1.old.size
                refine ⟨.slice f2 (z + 1) c2, w6, hrun, ?_, ?_⟩
                · intro i hi p' e' hp' he'
                  obtain rfl : i = 9 := by simpa using hi
                  cases hp'
                  cases he'
                  exact obl_at (.pointer (some ⟨p4, 1, none⟩)) (by intro cs b h; cases h) (by kernel_rfl) (by kernel_rfl) rfl (by simp [execOp, evE, lk_cons, lk_nil, weak, weak1, slotL, go_sem])
                have K6O := Lib.hid hown
                have kb : ∀ {g xs}, Blk w1 g xs 24 → Blk w6 g xs 24 := fun h => h.block (hgrow.block _ h.lt (fun e => own_ne hO1 h e.symm))
                have K6K : Hid (Blk w6 p4 [.int .i64 n, .slice fa z fc] 24) := kb (HBK.out.below hb1)
                have K61 : Hid (Blk w6 w.heap.size [.int .i64 n, .slice a j cap] 24) := kb hM1.2.1
                have K62 : Hid (Blk w6 (w.heap.size + 1) [.int .i64 n', .slice (some ⟨xb, xo, none⟩) q cap'] 24) := kb hM1.2.2.1
                have K63 : Hid (Blk w6 (w.heap.size + 1 + 1) [.int .i64 0, .slice none 0 0] 24) := kb hM1.2.2.2.1
                have K6W : Hid (Below w.heap.size w w6) := hM1.1.old.grown hgrow hM1.1.old.size (fun q' hq' => (World.ownsRow.lt hO1 q' hq').1)
                have HPB : Hid (w.heap.size + 1 + 1 < p4) := H.out.2.2.2.2
                clear hrun hown hgrow hta hb1 hC hO1 hM1 kb
                refine chain_end (by rfl) ?_
                intro xs w7 hw7 hre
                obtain rfl : w7 = w6 := hw7
                clear hre
                simp only [layE, weak, weak1, List.foldr_cons, List.foldr_nil, List.set_cons_succ, List.set_cons_zero]
                have n1 := K6K.out.cell (i := 1) rfl
                have f1 := K6K.out.frozen 1
                have H7 : Hid (MST w (w7.setCell ⟨p4, 1, none⟩ (.slice f2 (z + 1) c2)) n n' a (some ⟨xb, xo, none⟩) j q cap cap' p4 (ts ++ mrgF ts (us.take (k + 1)))) := by
                  have o1 : Only p4 w7 (w7.setCell ⟨p4, 1, none⟩ (.slice f2 (z + 1) c2)) := (Only.refl p4 w7).set_ 1 _
                  have hp := HPB.out
                  refine ⟨⟨⟨.slice f2 (z + 1) c2, ?_, K6K.out.set_ 1 _⟩, K6W.out.setCell (by show w.heap.size ≤ p4; omega) _⟩, K61.out.only o1 (by omega), K62.out.only o1 (by omega), K63.out.only o1 (by omega), hp⟩
                  rw [HPE.out, List.length_append, ← HZL.out]
                  exact own_only K6O.out K6K.out o1
                clear K6O K6K K61 K62 K63 K6W HPB
                go_wp2_with fail
                go_roundg KG
                case measure => have := HKG.out; omega
                case rel => exact ⟨k + 1, HKG.out.1, by simp, H7⟩
        · have e : q = k := by omega
          subst e
          have t2 : decide (q < q) = false := by simp
          have hts : us.take q = us := List.take_of_length_le (by rw [← HQL.out]; omega)
          rw [hts, ← HGG.out] at H
          clear hts
          obtain ⟨tv, hown, hblk⟩ := H.out.1.own
          obtain ⟨fa, fc, rfl, hm0, hfi⟩ := own_tiesN hown
          have HFI := Lib.hid hfi
          have HOW := Lib.hid hown
          have HPB : Hid (w.heap.size + 1 + 1 < p4) := H.out.2.2.2.2
          have c0 := hblk.cell (i := 0) rfl
          have c1 := hblk.cell (i := 1) rfl
          have d0 := H.out.2.2.2.1.cell (i := 0) rfl
          have d1 := H.out.2.2.2.1.cell (i := 1) rfl
          have f0 := H.out.2.2.2.1.frozen 0
          have f1 := H.out.2.2.2.1.frozen 1
          have HHW := Lib.hid H.out.1.old
          have HH3 := Lib.hid H.out.2.2.2.1
          clear hown hblk hm0 hfi H
          have hq4 : Hid (w.heap.size ≤ w.heap.size + 1 + 1) := by rw [Hid]; omega
          by_cases hbig : 512 < G.length
          · have t4 : decide ((512 : Int) < (G.length : Int)) = true := decide_eq_true (by omega)
            have t5 : decide (512 < G.length) = true := decide_eq_true hbig
            rw [if_pos hbig] at HEB
            clear hbig
            go_wp2_with fail
            refine named (fun V => Blk V (w.heap.size + 1 + 1) [.int .i64 0, .slice none 0 0] 24 ∧ Below w.heap.size w V) ⟨(HH3.out.set_ 0 _).set_ 1 _, (HHW.out.setCell hq4.out _).setCell hq4.out _⟩ ?_
            rintro V ⟨V1, V3⟩
            have e0 := V1.cell (i := 0) rfl
            have e1 := V1.cell (i := 1) rfl
            refine bodyPost_ret (v := .tuple #[.agg #[.int .i64 0, .slice none 0 0], .int .i64 2]) (by simp [results, Tryz.results10, go_sem, e0, e1]) rfl ?_
            rw [HEB.out]
            exact gres_zero3 (b4 := 0) V3
          · have t4 : decide ((512 : Int) < (G.length : Int)) = false := decide_eq_false (by omega)
            have t5 : decide (512 < G.length) = false := decide_eq_false hbig
            rw [if_neg hbig] at HEB
            clear hbig
            go_wp2_with fail
            refine named (fun V => Blk V (w.heap.size + 1 + 1) [.int .i64 n, .slice fa G.length fc] 24 ∧ V.ownsRow w.heap.size 26 5 (.slice fa G.length fc) G.length (tvL G) ∧ Below w.heap.size w V) ?_ ?_
            · have o1 : Only (w.heap.size + 1 + 1) wr ((wr.setCell ⟨w.heap.size + 1 + 1, 0, none⟩ (.int .i64 n)).setCell ⟨w.heap.size + 1 + 1, 1, none⟩ (.slice fa G.length fc)) := ((Only.refl _ wr).set_ 0 _).set_ 1 _
              exact ⟨(HH3.out.set_ 0 _).set_ 1 _, own_only HOW.out HH3.out o1, (HHW.out.setCell hq4.out _).setCell hq4.out _⟩
            rintro V ⟨V1, V2, V3⟩
            have e0 := V1.cell (i := 0) rfl
            have e1 := V1.cell (i := 1) rfl
            refine bodyPost_ret (v := .tuple #[.agg #[.int .i64 n, .slice fa G.length fc], .int .i64 0]) (by simp [results, Tryz.results10, go_sem, e0, e1]) rfl ?_
            rw [HEB.out]
            obtain ⟨a8, c8, he8, _, hT⟩ := own_tiesN V2
            injection he8 with h1 h2 h3
            subst h1
            exact ⟨fa, fc, rfl, hT, V3⟩
end Go.Proofs.YtmnabonhilkkbaaGreat
