/- Layer 4: Add of the program. -/
import Derived.Test.YtlllmoafhfjbbaaGreatEu
namespace Go.Proofs.YtlllmoafhfjbbaaGreat
set_option linter.unusedSimpArgs false
set_option linter.unusedVariables false
open Go Go.RowKit

def ownW (B m : Nat) (xs : List Value) : Word := fun u w => w.ownsRow B 33 5 u m xs
theorem ownW_lasts {w0 : World} (B m : Nat) (xs : List Value) : lasts (clOld w0) (ownW B m xs) := fun v w w' _ hR h => own_below h hR
set_option maxRecDepth 100000 in
set_option maxHeartbeats 4000000 in
theorem tAdd_any (t : TieD) (n : Int) (a : Option Addr) (cap : Nat) (ts : List TieD) (w : World) (hl : ts.length ≤ 9223372036854775807) (hs : TiesAt w a ts) :
    Calls Tryz.prog 20 #[gV n a ts.length cap, tieV t] w (GRes' (addR n ts t) w) := by
  have HC : Hid (∀ W, Below w.heap.size w W → Calls Tryz.prog 6 #[gV n a ts.length cap] W fun e w' => e = .returned (.int .i64 (errG n ts)) ∧ Below W.heap.size W w') := fun W hb => tCheck_any n a cap ts W hl (hs.below hb)
  have HV : Hid (okG n ts = true → ∀ W, Calls Tryz.prog 28 #[tieV t, .int .i64 n] W fun e w' => e = .returned (.bool (tieB t n)) ∧ Below W.heap.size W w') := fun h W => tTie_any t n W (by unfold okG at h; simp only [Bool.and_eq_true] at h; have h1 := h.1.1; unfold ftB at h1; simpa using h1)
  unfold errG at HC
  unfold GRes' GRes addR
  obtain ⟨m, hm⟩ : ∃ m, m = ts.length := ⟨_, rfl⟩
  have HM := Lib.hid hm
  have HS := Lib.hid hs
  rw [← hm] at hl HC ⊢
  have HN0 := Lib.hid (KA.new w n a m cap t)
  obtain ⟨ya, yb, yk, ys, yr⟩ := t
  clear hm hs
  simp only [gV, tieV] at HC HV HN0 ⊢
  cases hok : okG n ts with
  | false =>
    rw [hok] at HC
    clear HV hok
    simp only [Bool.false_eq_true, if_false] at HC ⊢
    go_enter Tryz.func20, Tryz.ntmps20
    go_wp2_with (first | (go_at_call 6; refine (HC.out _ HN0.out.2.2.2).mono ?_; rintro e w1 ⟨rfl, hb⟩; clear HC; have HY := Lib.hid (HN0.out.below hb); clear hb HN0; have d0 := HY.out.2.2.1.cell (i := 0) rfl; have d1 := HY.out.2.2.1.cell (i := 1) rfl; have f0 := HY.out.2.2.1.frozen 0; have f1 := HY.out.2.2.1.frozen 1))
    refine named (fun V => Blk V (w.heap.size + 1 + 1) [.int .i64 0, .slice none 0 0] 24 ∧ Below w.heap.size w V) ⟨(HY.out.2.2.1.set_ 0 _).set_ 1 _, (HY.out.2.2.2.setCell (by show w.heap.size ≤ w.heap.size + 1 + 1; omega) _).setCell (by show w.heap.size ≤ w.heap.size + 1 + 1; omega) _⟩ ?_
    rintro V ⟨V1, V3⟩
    have e0 := V1.cell (i := 0) rfl
    have e1 := V1.cell (i := 1) rfl
    refine bodyPost_ret (v := .tuple #[.agg #[.int .i64 0, .slice none 0 0], .int .i64 40]) (by simp [results, Tryz.results20, go_sem, e0, e1]) rfl ?_
    exact gres_zero3 (b4 := 0) V3
  | true =>
    rw [hok] at HC
    replace HV := Lib.hid (HV.out hok)
    have H512 : Hid (m ≤ 512) := by have := okG_len hok; have := HM.out; rw [Hid]; omega
    clear hok
    simp only [if_true] at HC ⊢
    cases htb : tieB ⟨ya, yb, yk, ys, yr⟩ n with
    | false =>
      rw [htb] at HV
      clear htb
      simp only [Bool.false_eq_true, if_false]
      go_enter Tryz.func20, Tryz.ntmps20
      go_wp2_with (first | (go_at_call 6; refine (HC.out _ HN0.out.2.2.2).mono ?_; rintro e w1 ⟨rfl, hb⟩; clear HC; have HY := Lib.hid (HN0.out.below hb); clear hb HN0; have c0 := HY.out.1.cell (i := 0) rfl; have c1 := HY.out.1.cell (i := 1) rfl; have y0 := HY.out.2.1.cell (i := 0) rfl; have y1 := HY.out.2.1.cell (i := 1) rfl; have y2 := HY.out.2.1.cell (i := 2) rfl; have y3 := HY.out.2.1.cell (i := 3) rfl; have y4 := HY.out.2.1.cell (i := 4) rfl) | (go_at_call 28; refine (HV.out _).mono ?_; rintro e w2 ⟨rfl, hb⟩; clear HV c0 c1 y0 y1 y2 y3 y4; replace HY := Lib.hid (HY.out.below hb); clear hb; have c0 := HY.out.1.cell (i := 0) rfl; have c1 := HY.out.1.cell (i := 1) rfl; have d0 := HY.out.2.2.1.cell (i := 0) rfl; have d1 := HY.out.2.2.1.cell (i := 1) rfl; have f0 := HY.out.2.2.1.frozen 0; have f1 := HY.out.2.2.1.frozen 1))
      refine named (fun V => Blk V (w.heap.size + 1 + 1) [.int .i64 0, .slice none 0 0] 24 ∧ Below w.heap.size w V) ⟨(HY.out.2.2.1.set_ 0 _).set_ 1 _, (HY.out.2.2.2.setCell (by show w.heap.size ≤ w.heap.size + 1 + 1; omega) _).setCell (by show w.heap.size ≤ w.heap.size + 1 + 1; omega) _⟩ ?_
      rintro V ⟨V1, V3⟩
      have e0 := V1.cell (i := 0) rfl
      have e1 := V1.cell (i := 1) rfl
      refine bodyPost_ret (v := .tuple #[.agg #[.int .i64 0, .slice none 0 0], .int .i64 1]) (by simp [results, Tryz.results20, go_sem, e0, e1]) rfl ?_
      exact gres_zero3 (b4 := 0) V3
    | true =>
      rw [htb] at HV
      clear htb
      simp only [if_true]
      by_cases hbig : m = 512
      · rw [if_pos hbig]
        have t2 : ((m : Int) == 512) = true := by have : (m : Int) = 512 := by omega
                                                  simpa using this
        have t3 : (m == 512) = true := by simpa using hbig
        clear hbig
        go_enter Tryz.func20, Tryz.ntmps20
        go_wp2_with (first | (go_at_call 6; refine (HC.out _ HN0.out.2.2.2).mono ?_; rintro e w1 ⟨rfl, hb⟩; clear HC; have HY := Lib.hid (HN0.out.below hb); clear hb HN0; have c0 := HY.out.1.cell (i := 0) rfl; have c1 := HY.out.1.cell (i := 1) rfl; have y0 := HY.out.2.1.cell (i := 0) rfl; have y1 := HY.out.2.1.cell (i := 1) rfl; have y2 := HY.out.2.1.cell (i := 2) rfl; have y3 := HY.out.2.1.cell (i := 3) rfl; have y4 := HY.out.2.1.cell (i := 4) rfl) | (go_at_call 28; refine (HV.out _).mono ?_; rintro e w2 ⟨rfl, hb⟩; clear HV c0 c1 y0 y1 y2 y3 y4; replace HY := Lib.hid (HY.out.below hb); clear hb; have c0 := HY.out.1.cell (i := 0) rfl; have c1 := HY.out.1.cell (i := 1) rfl; have d0 := HY.out.2.2.1.cell (i := 0) rfl; have d1 := HY.out.2.2.1.cell (i := 1) rfl; have f0 := HY.out.2.2.1.frozen 0; have f1 := HY.out.2.2.1.frozen 1))
        refine named (fun V => Blk V (w.heap.size + 1 + 1) [.int .i64 0, .slice none 0 0] 24 ∧ Below w.heap.size w V) ⟨(HY.out.2.2.1.set_ 0 _).set_ 1 _, (HY.out.2.2.2.setCell (by show w.heap.size ≤ w.heap.size + 1 + 1; omega) _).setCell (by show w.heap.size ≤ w.heap.size + 1 + 1; omega) _⟩ ?_
        rintro V ⟨V1, V3⟩
        have e0 := V1.cell (i := 0) rfl
        have e1 := V1.cell (i := 1) rfl
        refine bodyPost_ret (v := .tuple #[.agg #[.int .i64 0, .slice none 0 0], .int .i64 2]) (by simp [results, Tryz.results20, go_sem, e0, e1]) rfl ?_
        exact gres_zero3 (b4 := 0) V3
      · rw [if_neg hbig]
        have t2 : ((m : Int) == 512) = false := by
          have : ¬ (m : Int) = 512 := by omega
          simpa using this
        have t3 : (m == 512) = false := by simpa using hbig
        clear hbig
        have HCL : Hid (∀ W, Below w.heap.size w W → Calls Tryz.prog 51 #[.slice a m cap] W fun e w' => ∃ v, e = .returned v ∧ w'.ownsRow W.heap.size 33 5 v m (tvL ts) ∧ Below W.heap.size W w') := fun W hb => by
          have h1 := Clone_any a cap ts W (by have := HM.out; have := H512.out; omega) (HS.out.below hb)
          rw [← HM.out] at h1; exact h1
        go_enter Tryz.func20, Tryz.ntmps20
        go_upto_region 8 with (first | (go_at_call 6; refine (HC.out _ HN0.out.2.2.2).mono ?_; rintro e w1 ⟨rfl, hb⟩; clear HC; have HY := Lib.hid (HN0.out.below hb); clear hb HN0; have c0 := HY.out.1.cell (i := 0) rfl; have c1 := HY.out.1.cell (i := 1) rfl; have y0 := HY.out.2.1.cell (i := 0) rfl; have y1 := HY.out.2.1.cell (i := 1) rfl; have y2 := HY.out.2.1.cell (i := 2) rfl; have y3 := HY.out.2.1.cell (i := 3) rfl; have y4 := HY.out.2.1.cell (i := 4) rfl) | (go_at_call 28; refine (HV.out _).mono ?_; rintro e w2 ⟨rfl, hb⟩; clear HV c0 c1 y0 y1 y2 y3 y4; replace HY := Lib.hid (HY.out.below hb); clear hb; have c0 := HY.out.1.cell (i := 0) rfl; have c1 := HY.out.1.cell (i := 1) rfl; have d0 := HY.out.2.2.1.cell (i := 0) rfl; have d1 := HY.out.2.2.1.cell (i := 1) rfl; have f0 := HY.out.2.2.1.frozen 0; have f1 := HY.out.2.2.1.frozen 1))
        have HX : Hid (∀ W, (clOld w2.drew).C W → KA w W [.int .i64 n, .slice a m cap] ⟨ya, yb, yk, ys, yr⟩) := fun W hC => HY.out.below (old_end (Below.refl _ _) hC (Nat.le_refl _))
        clear c0 c1 d0 d1 f0 f1
        refine wp_region_late_old 8 33 7 [0,1] (by kernel_rfl) (by kernel_rfl) (by rfl) ?_
        simp only [List.take_succ_cons, List.take_zero, List.eraseIdx_cons_succ, List.eraseIdx_cons_zero]
        refine chain_val (.pointer (some ⟨w.heap.size, 0, none⟩)) (fun _ _ => Below.refl _ _) rfl (by intro cs b h; cases h) (by kernel_rfl) (by kernel_rfl) (fun w1 _ => by simp [execOp, evE, lk_cons, lk_nil, slotL, go_sem]) ?_
        refine chain_load (.int .i64 n) _ _ _ (fun _ _ => Below.refl _ _) rfl rfl (by kernel_rfl) (by kernel_rfl) rfl (fun w1 hC => load_i64 ((HX.out w1 hC).1.cell rfl)) ?_
        refine chain_val (.pointer (some ⟨w.heap.size, 1, none⟩)) (fun _ _ => Below.refl _ _) rfl (by intro cs b h; cases h) (by kernel_rfl) (by kernel_rfl) (fun w1 _ => by simp [execOp, evE, lk_cons, lk_nil, slotL, go_sem]) ?_
        refine chain_load (.slice a m cap) _ _ _ (fun _ _ => Below.refl _ _) rfl rfl (by kernel_rfl) (by kernel_rfl) rfl (fun w1 hC => load_slq ((HX.out w1 hC).1.cell rfl)) ?_
        refine chain_call_re (ownW w.heap.size m (tvL ts)) 51 [.slice a m cap] _ _ (ownW_lasts _ _ _) (enters_of Tryz.func51 (by kernel_rfl) rfl) rfl rfl rfl (by kernel_rfl) (by kernel_rfl) rfl rfl (fun w1 hC => (HCL.out w1 (HX.out w1 hC).2.2.2).mono fun e w' ⟨v, he, ho, hb⟩ => ⟨_, he, hb, own_mono ho (HX.out w1 hC).2.2.2.size⟩) ?_
        refine chain_load (tieV ⟨ya, yb, yk, ys, yr⟩) _ _ _ (fun _ _ => Below.refl _ _) rfl rfl (by kernel_rfl) (by kernel_rfl) rfl (fun w1 hC => load_tie (o := 0) ((HX.out w1 hC).2.1.cell rfl) ((HX.out w1 hC).2.1.cell rfl) ((HX.out w1 hC).2.1.cell rfl) ((HX.out w1 hC).2.1.cell rfl) ((HX.out w1 hC).2.1.cell rfl)) ?_
        refine chain_new (tieW ⟨ya, yb, yk, ys, yr⟩) (tieW_lasts _) rfl (by intro cs b h; cases h) (by kernel_rfl) (by kernel_rfl) (fun w1 hC => new_tie (by simp [execOp, evE, lk_cons, lk_nil, go_sem, Instr.buildSlice, tieV]) hC) ?_
        refine after_app 28 30 (by rfl) (by rfl) (by rfl) (by rfl) (by kernel_rfl) (by kernel_rfl) ?_
        intro x z w1 hC hx hz
        replace hx : ownW w.heap.size m (tvL ts) x w1 := hx
        obtain ⟨fa, fc, rfl⟩ := own_slice hx
        replace hz : tieW ⟨ya, yb, yk, ys, yr⟩ z w1 := hz
        obtain ⟨b9, rfl, hta⟩ := hz
        have hK := HX.out w1 hC
        have hx' : w1.ownsRow w.heap.size 33 5 (.slice fa m fc) m (tvL ts) := hx
        obtain ⟨f2, c2, w6, hrun, hown, hgrow⟩ := own_app w1 w.heap.size m 22 fa fc ts b9 ⟨ya, yb, yk, ys, yr⟩ hx' hta (by have := H512.out; omega) hK.2.2.2.size
        have K6O := Lib.hid hown
        have K60 : Hid (Blk w6 w.heap.size [.int .i64 n, .slice a m cap] 24) := hK.1.block (hgrow.block _ hK.1.lt (fun e => own_ne hx' hK.1 e.symm))
        have K6Z : Hid (Blk w6 (w.heap.size + 1 + 1) [.int .i64 0, .slice none 0 0] 24) := hK.2.2.1.block (hgrow.block _ hK.2.2.1.lt (fun e => own_ne hx' hK.2.2.1 e.symm))
        have K6W : Hid (Below w.heap.size w w6) := hK.2.2.2.grown hgrow hK.2.2.2.size (fun q' hq' => (World.ownsRow.lt hx' q' hq').1)
        refine ⟨.slice f2 (m + 1) c2, w6, hrun, ?_, ?_⟩
        · have hl6 := load_i64 (K60.out.cell (i := 0) rfl)
          intro i hi p' e' hp' he'
          rcases (by simpa using hi : i = 0 ∨ i = 1) with rfl | rfl
          · cases hp'
            cases he'
            exact obl_at (.pointer (some ⟨w.heap.size, 0, none⟩)) (by intro cs b h; cases h) (by kernel_rfl) (by kernel_rfl) rfl (by simp [execOp, evE, lk_cons, lk_nil, weak, weak1, slotL, go_sem])
          · cases hp'
            cases he'
            exact obl_at (.int .i64 n) (by intro cs b h; cases h) (by kernel_rfl) (by kernel_rfl) rfl (by simp [execOp, evE, lk_cons, lk_nil, weak, weak1, slotL, hl6, Sem.run_bind, Result.andThen])
        clear hrun hown hgrow hta hC hx hx' hK HX HCL HY
        refine chain_end (by rfl) ?_
        intro xs V9 hw7 hre
        obtain rfl : V9 = w6 := hw7
        clear hre
        simp only [layE, weak, weak1, List.foldr_cons, List.foldr_nil, List.set_cons_succ, List.set_cons_zero]
        have d0 := K6Z.out.cell (i := 0) rfl
        have d1 := K6Z.out.cell (i := 1) rfl
        have f0 := K6Z.out.frozen 0
        have f1 := K6Z.out.frozen 1
        go_wp2_with fail
        refine named (fun W => Blk W (w.heap.size + 1 + 1) [.int .i64 n, .slice f2 (m + 1) c2] 24 ∧ W.ownsRow w.heap.size 33 5 (.slice f2 (m + 1) c2) (m + 1) (tvL (ts ++ [⟨ya, yb, yk, ys, yr⟩])) ∧ Below w.heap.size w W) ?_ ?_
        · have o1 : Only (w.heap.size + 1 + 1) V9 ((V9.setCell ⟨w.heap.size + 1 + 1, 0, none⟩ (.int .i64 n)).setCell ⟨w.heap.size + 1 + 1, 1, none⟩ (.slice f2 (m + 1) c2)) := ((Only.refl _ V9).set_ 0 _).set_ 1 _
          exact ⟨(K6Z.out.set_ 0 _).set_ 1 _, own_only K6O.out K6Z.out o1, (K6W.out.setCell (by show w.heap.size ≤ w.heap.size + 1 + 1; omega) _).setCell (by show w.heap.size ≤ w.heap.size + 1 + 1; omega) _⟩
        rintro W ⟨W1, W2, W3⟩
        have e0 := W1.cell (i := 0) rfl
        have e1 := W1.cell (i := 1) rfl
        refine bodyPost_ret (v := .tuple #[.agg #[.int .i64 n, .slice f2 (m + 1) c2], .int .i64 0]) (by simp [results, Tryz.results20, go_sem, e0, e1]) rfl ?_
        obtain ⟨a8, c8, he8, _, hT⟩ := own_tiesN W2
        injection he8 with h1 h2 h3
        subst h1
        exact ⟨f2, c2, by rw [← h2], hT, W3⟩
end Go.Proofs.YtlllmoafhfjbbaaGreat
