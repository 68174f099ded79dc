/- Layer 4: Rests of the specification. -/
import Derived.Test.YthjeiaildabadaaGreatG5
namespace Go.Proofs.YthjeiaildabadaaGreat
set_option linter.unusedSimpArgs false
set_option linter.unusedVariables false
open Go Go.RowKit

def woW (k : Nat) (us : List TieD) : Word := fun u w => ∃ (a : Option Addr) (c : Nat), u = .agg #[.int .i64 k, .slice a us.length c] ∧ TiesAt w a us
theorem woW_lasts {w0 : World} (k : Nat) (us : List TieD) : lasts (clOld w0) (woW k us) := fun v w w' _ hR ⟨a, c, hv, h⟩ => ⟨a, c, hv, h.below hR⟩
/-- The specification's answer. -/
def SrA (T : Bool) (L : List Int) (e : Ending) (w : World) : Prop := (T = false ∧ e = .returned (.tuple #[.slice none 0 0, .int .i64 4])) ∨ (T = true ∧ ∃ (r : Option Addr) (c : Nat), e = .returned (.tuple #[.slice r L.length c, .int .i64 0]) ∧ IntsAt w r L)
set_option maxRecDepth 100000 in
set_option maxHeartbeats 8000000 in
theorem rRests_any (k p z : Nat) (a : Option Addr) (cap : Nat) (ts : List TieD) (w : World) (h0 : errA k ts p z = 0) (hs : TiesAt w a ts) :
    Calls Tryz.prog 23 #[gV k a ts.length cap, .int .i64 p, .int .i64 z] w fun e w' => SrA (told k ts p z) (srcL k ts p z 4096) e w' ∧ Below w.heap.size w w' := by
  obtain ⟨hok, hxy⟩ := errA_ok h0
  obtain ⟨k', hk', hk1, hk2, hl, hv⟩ := okG_parts hok
  obtain rfl : k = k' := by omega
  unfold ftB at hxy
  simp only [Bool.and_eq_true, decide_eq_true_eq] at hxy
  have hp : p < k := by omega
  have hz : z < k := by omega
  have HP : Hid (∀ W, Below w.heap.size w W → Calls Tryz.prog 55 #[gV k a ts.length cap, .int .i64 p, .int .i64 z] W fun e w' => e = .returned (.int .i64 0) ∧ Below W.heap.size W w') := fun W hb => by
    have h := rAsked_any k a cap ts p z W (by omega) (hs.below hb); rw [h0] at h; exact h
  have HHT : Hid (∀ W, Below w.heap.size w W → Calls Tryz.prog 70 #[.agg #[.int .i64 k, .slice a ts.length cap], .int .i64 p, .int .i64 z] W fun e w' => e = .returned (.bool (told k ts p z)) ∧ Below W.heap.size W w') := fun W hb => rHolds_any k p z a cap ts W hk2 hp hz hl hv (hs.below hb)
  have HOT : Hid (∀ W (S : Nat), Below w.heap.size w W → Calls Tryz.prog 71 #[.agg #[.int .i64 k, .slice a ts.length cap], .int .i64 S] W fun e w' => ∃ g, e = .returned (.slice (some ⟨g, 0, none⟩) ts.length ts.length) ∧ Blk w' g (bvL (ts.map fun t => !(t.src == (S : Int)))) 4 ∧ Below W.heap.size W w') := fun W S hb => (rOthers_any S k a cap ts W (by omega) (hs.below hb)).mono fun e w' ⟨g, h1, h2, _, h3⟩ => ⟨g, h1, h2, h3⟩
  have HKP : Hid (∀ W g (S : Nat), Below w.heap.size w W → Blk W g (bvL (ts.map fun t => !(t.src == (S : Int)))) 4 → Calls Tryz.prog 48 #[.agg #[.int .i64 k, .slice a ts.length cap], .slice (some ⟨g, 0, none⟩) ts.length ts.length] W fun e w' => ∃ a' c', e = .returned (.agg #[.int .i64 k, .slice a' (wo ts (S : Int)).length c']) ∧ TiesAt w' a' (wo ts (S : Int)) ∧ Below W.heap.size W w') := fun W g S hb hg => (keptOwn (fun t => !(t.src == (S : Int))) k a cap g ts W (by omega) (hs.below hb) hg).mono fun e w' ⟨v, h1, h2, h3⟩ => by
    obtain ⟨a', c', rfl, _, h4⟩ := own_ties h2
    exact ⟨a', c', h1, h4, h3⟩
  have HHW : Hid (∀ W (S : Nat) a' c', TiesAt W a' (wo ts (S : Int)) → Calls Tryz.prog 70 #[.agg #[.int .i64 k, .slice a' (wo ts (S : Int)).length c'], .int .i64 p, .int .i64 z] W fun e w' => e = .returned (.bool (told k (wo ts (S : Int)) p z)) ∧ Below W.heap.size W w') := fun W S a' c' h => rHolds_any k p z a' c' (wo ts (S : Int)) W hk2 hp hz (Nat.le_trans (List.length_filter_le _ _) hl) (wo_valid hv) h
  have HS := Lib.hid hs
  obtain ⟨TT, hTT⟩ : ∃ TT, TT = told k ts p z := ⟨_, rfl⟩
  rw [← hTT] at HHT ⊢
  obtain ⟨m, hm⟩ : ∃ m, m = ts.length := ⟨_, rfl⟩
  have HM := Lib.hid hm
  rw [← hm] at HP HHT HOT HKP ⊢
  have hm5 : m ≤ 512 := by omega
  have FB := Lib.hid (FA.new w [.int .i64 k, .slice a m cap])
  clear h0 hs hok hxy hk' hk1 hk2 hl hv hp hz hm hTT
  simp only [gV] at HP ⊢
  go_enter Tryz.func23, Tryz.ntmps23
  go_upto_region 4 with (first | (go_at_call 55; go_loud (refine (HP.out _ FB.out.2).mono ?_; rintro e w1 ⟨rfl, hb⟩; clear HP; replace FB := Lib.hid (FB.out.below hb); clear hb)))
  have c0 := FB.out.1.cell (i := 0) rfl
  have c1 := FB.out.1.cell (i := 1) rfl
  cases TT
  · go_wp2_with (first | (go_at_call 70; go_loud (refine (HHT.out _ FB.out.2).mono ?_; rintro e w3 ⟨rfl, hb⟩; clear HHT c0 c1; replace FB := Lib.hid (FB.out.below hb); clear hb)))
    refine bodyPost_ret (v := .tuple #[.slice none 0 0, .int .i64 4]) (by simp [results, Tryz.results23, go_sem]) rfl ?_
    exact ⟨.inl ⟨rfl, rfl⟩, FB.out.2⟩
  · go_wp2_with (first | (go_at_call 70; go_loud (refine (HHT.out _ FB.out.2).mono ?_; rintro e w3 ⟨rfl, hb⟩; clear HHT c0 c1; replace FB := Lib.hid (FB.out.below hb); clear hb)))
    have HO0 : Hid (w3.ownsRow w3.heap.size 3 1 (.slice none 0 0) 0 (ivL (srcL k ts p z 0))) := World.ownsRow_nil _ _ _ _
    go_loopg [9, 10, 11, 12] 4096 (fun gk t9 t10 t11 t12 wr => ∃ (S : Nat) (fa : Option Addr) (sl fc : Nat), S + gk = 4096 ∧ t10 = .int .i64 S ∧ t9 = .slice fa sl fc ∧ Hid (wr.ownsRow w3.heap.size 3 1 (.slice fa sl fc) sl (ivL (srcL k ts p z S))) ∧ Hid (sl ≤ S) ∧ Hid (Below w3.heap.size w3 wr))
    case atStart => exact ⟨0, none, 0, 0, by omega, rfl, rfl, HO0, Nat.le_refl _, Below.refl _ _⟩
    case round =>
      clear HO0
      obtain ⟨S, fa, sl, fc, hjg, rfl, rfl, HO, HSL, HB⟩ := hrel
      by_cases hlt : S < 4096
      · have t1 : decide ((S : Int) ≤ 4095) = true := decide_eq_true (by omega)
        have t2 : decide (S ≤ 4095) = true := decide_eq_true (by omega)
        have HN0 : Hid (false = (ts.take 0).any (fun t => t.src == (S : Int))) := rfl
        go_wp2_with fail
        clear t1 t2
        go_loopg [11, 12] m (fun gk t11 t12 wr => ∃ (j : Nat) (F : Bool), j + gk = m ∧ t11 = .bool F ∧ t12 = .int .i64 j ∧ Hid (F = (ts.take j).any (fun t => t.src == (S : Int))) ∧ Hid (wr.ownsRow w3.heap.size 3 1 (.slice fa sl fc) sl (ivL (srcL k ts p z S))) ∧ Hid (Below w3.heap.size w3 wr))
        case atStart => exact ⟨0, false, by omega, rfl, rfl, HN0, HO, HB⟩
        case round =>
          clear HN0 HO HB
          obtain ⟨j, F, hj2, rfl, rfl, HN, HO, HB⟩ := hrel
          have FBW := Lib.hid (FB.out.below HB.out)
          have c1 := FBW.out.1.cell (i := 1) rfl
          by_cases hlt2 : j < m
          · have hjl : j < ts.length := by rw [← HM.out]; exact hlt2
            have HST : Hid ((ts.take (j + 1)).any (fun t => t.src == (S : Int)) = (F || ts[j].src == (S : Int))) := by rw [Hid, any_step hjl, ← HN.out]
            obtain ⟨lb, lo, rfl, hlb, y0, y1, y2, y3, y4⟩ := (HS.out.below FBW.out.2).at hjl
            obtain ⟨x, hx⟩ : ∃ x, x = ts[j].src := ⟨_, rfl⟩
            rw [← hx] at y4 HST
            obtain ⟨b, hb⟩ : ∃ b, b = (x == (S : Int)) := ⟨_, rfl⟩
            have u1 : (x == (S : Int)) = b := hb.symm
            rw [← hb] at HST
            clear hb hx y0 y1 y2 y3 hlb hjl
            cases F <;> cases b
            all_goals (
              go_wp2_with fail
              go_roundg (gk - 1)
              case measure => omega
              case rel => exact ⟨j + 1, _, by omega, rfl, by simp, by rw [Hid, HST.out]; rfl, HO, HB⟩)
          · have hjm : j = m := by omega
            have HFF : Hid (F = ts.any (fun t => t.src == (S : Int))) := by
              rw [Hid, HN.out, List.take_of_length_le (by rw [← HM.out]; omega)]
            have HSB0 : Hid (srcB k ts p z S = (F && !told k (wo ts (S : Int)) p z)) := by rw [Hid, HFF.out]; rfl
            obtain ⟨T2, hT2⟩ : ∃ T2, T2 = told k (wo ts (S : Int)) p z := ⟨_, rfl⟩
            have HHO : Hid (∀ W a' c', TiesAt W a' (wo ts (S : Int)) → Calls Tryz.prog 70 #[.agg #[.int .i64 k, .slice a' (wo ts (S : Int)).length c'], .int .i64 p, .int .i64 z] W fun e w' => e = .returned (.bool T2) ∧ Below W.heap.size W w') := fun W a' c' h => by rw [hT2]; exact HHW.out W S a' c' h
            rw [← hT2] at HSB0
            clear hT2 HFF HN hjm
            cases F
            · have HSB : Hid (srcB k ts p z S = false) := HSB0.out
              clear HSB0 HHO
              go_upto_region 15 with (fail)
              have HOWD : Hid (∀ w1, (clOld wr.drew).C w1 → Below wr.heap.size wr w1) := fun w1 hC => old_end (Below.refl _ _) hC (Nat.le_refl _)
              clear c1
              refine wp_region_old 12 64 (by kernel_rfl) (by kernel_rfl) (by rfl) ?_
              simp only [List.take_succ_cons, List.take_zero, List.drop_succ_cons, List.drop_zero, List.drop_nil]
              refine chain_move (.bool false) _ (fun _ _ => Below.refl _ _) rfl rfl (by kernel_rfl) (by kernel_rfl) rfl ?_
              refine chain_move (.bool false) _ (fun _ _ => Below.refl _ _) rfl rfl (by kernel_rfl) (by kernel_rfl) rfl ?_
              refine chain_skip rfl (by kernel_rfl) ?_
              refine chain_skip rfl (by kernel_rfl) ?_
              refine chain_skip rfl (by kernel_rfl) ?_
              refine chain_skip rfl (by kernel_rfl) ?_
              refine chain_skip rfl (by kernel_rfl) ?_
              refine chain_skip rfl (by kernel_rfl) ?_
              refine chain_skip rfl (by kernel_rfl) ?_
              refine chain_skip rfl (by kernel_rfl) ?_
              refine chain_skip rfl (by kernel_rfl) ?_
              refine chain_pick (.bool false) _ _ _ false (fun _ _ => Below.refl _ _) rfl rfl (by kernel_rfl) (by kernel_rfl) rfl rfl ?_
              refine chain_end (by rfl) ?_
              intro xs w8 hCw8 hrew8
              simp only [layE, List.foldr_cons, List.foldr_nil, List.set_cons_succ, List.set_cons_zero]
              have HY := Lib.hid (HOWD.out w8 hCw8)
              clear hCw8 hrew8 HOWD
              have HB8 := Lib.hid (HB.out.trans (HY.out.mono HB.out.size))
              have HO8 := Lib.hid (own_below HO.out HY.out)
              clear HY
              go_wp2_with fail
              go_roundg (4096 - (S + 1))
              case measure => omega
              case rel => exact ⟨S + 1, fa, sl, fc, by omega, by simp, rfl, (by rw [srcL_step, HSB.out]; simp only [Bool.false_eq_true, if_false, List.append_nil]; exact HO8.out), (by have := HSL.out; rw [Hid]; omega), HB8⟩
            · cases T2
              · have HSB : Hid (srcB k ts p z S = true) := HSB0.out
                clear HSB0
                go_upto_region 15 with (fail)
                have HOWD : Hid (∀ w1, (clOld wr.drew).C w1 → Below wr.heap.size wr w1) := fun w1 hC => old_end (Below.refl _ _) hC (Nat.le_refl _)
                clear c1
                refine wp_region_old 12 64 (by kernel_rfl) (by kernel_rfl) (by rfl) ?_
                simp only [List.take_succ_cons, List.take_zero, List.drop_succ_cons, List.drop_zero, List.drop_nil]
                refine chain_move (.bool true) _ (fun _ _ => Below.refl _ _) rfl rfl (by kernel_rfl) (by kernel_rfl) rfl ?_
                refine chain_move (.bool true) _ (fun _ _ => Below.refl _ _) rfl rfl (by kernel_rfl) (by kernel_rfl) rfl ?_
                refine chain_load (.agg #[.int .i64 k, .slice a m cap]) _ _ _ (fun _ _ => Below.refl _ _) rfl rfl (by kernel_rfl) (by kernel_rfl) rfl (fun w1 hC => load_g ((FBW.out.1.below (HOWD.out w1 hC)).cell rfl) ((FBW.out.1.below (HOWD.out w1 hC)).cell rfl)) ?_
                refine chain_load (.agg #[.int .i64 k, .slice a m cap]) _ _ _ (fun _ _ => Below.refl _ _) rfl rfl (by kernel_rfl) (by kernel_rfl) rfl (fun w1 hC => load_g ((FBW.out.1.below (HOWD.out w1 hC)).cell rfl) ((FBW.out.1.below (HOWD.out w1 hC)).cell rfl)) ?_
                refine chain_move (.int .i64 S) _ (fun _ _ => Below.refl _ _) rfl rfl (by kernel_rfl) (by kernel_rfl) rfl ?_
                refine chain_call_re (othW (bvL (ts.map fun t => !(t.src == (S : Int)))) m) 71 [.agg #[.int .i64 k, .slice a m cap], .int .i64 S] _ _ (othW_lasts _ _) (enters_of Tryz.func71 (by kernel_rfl) rfl) rfl rfl rfl (by kernel_rfl) (by kernel_rfl) rfl rfl (fun w1 hC => (HOT.out w1 S (FBW.out.2.trans ((HOWD.out w1 hC).mono FBW.out.2.size))).mono fun e w' ⟨g, he, hk, hb⟩ => ⟨_, he, hb, g, rfl, hk⟩) ?_
                refine chain_call_use_re (woW k (wo ts (S : Int))) (woW_lasts _ _) 52 _ 48 (fun x => [.agg #[.int .i64 k, .slice a m cap], x]) _ _ (enters_of Tryz.func48 (by kernel_rfl) rfl) rfl rfl rfl (by kernel_rfl) rfl rfl (fun _ => rfl) rfl (fun _ => rfl) (fun x w1 hC ⟨g, hx, hk⟩ => by subst hx; exact (HKP.out w1 g S (FBW.out.2.trans ((HOWD.out w1 hC).mono FBW.out.2.size)) hk).mono fun e w' ⟨a', c', he, ht, hb⟩ => ⟨_, he, hb, a', c', rfl, ht⟩) ?_
                refine chain_move (.int .i64 p) _ (fun _ _ => Below.refl _ _) rfl rfl (by kernel_rfl) (by kernel_rfl) rfl ?_
                refine chain_move (.int .i64 z) _ (fun _ _ => Below.refl _ _) rfl rfl (by kernel_rfl) (by kernel_rfl) rfl ?_
                refine chain_call_use (.bool false) 53 _ 70 (fun x => [x, .int .i64 p, .int .i64 z]) _ _ (enters_of Tryz.func70 (by kernel_rfl) rfl) rfl rfl rfl (by kernel_rfl) rfl rfl (fun _ => rfl) rfl (fun _ => rfl) (fun x w1 hC ⟨a', c', hx, ht⟩ => by subst hx; exact HHO.out w1 a' c' ht) ?_
                refine chain_un (.bool true) _ _ _ (.bool false) (fun _ _ => Below.refl _ _) rfl rfl (by kernel_rfl) (by kernel_rfl) rfl (fun w => un_not _ w) ?_
                refine chain_pick (.bool true) _ _ _ true (fun _ _ => Below.refl _ _) rfl rfl (by kernel_rfl) (by kernel_rfl) rfl rfl ?_
                refine chain_end (by rfl) ?_
                intro xs w8 hCw8 hrew8
                simp only [layE, List.foldr_cons, List.foldr_nil, List.set_cons_succ, List.set_cons_zero]
                have HY := Lib.hid (HOWD.out w8 hCw8)
                clear hCw8 hrew8 HOWD
                have HB8 := Lib.hid (HB.out.trans (HY.out.mono HB.out.size))
                have HO8 := Lib.hid (own_below HO.out HY.out)
                clear HY
                go_upto_region 16 with (fail)
                have hsl := HSL.out
                have HO9 : Hid ((w8.alloc (.cells #[.int .i64 (S : Int)] 3)).ownsRow w3.heap.size 3 1 (.slice fa sl fc) sl (ivL (srcL k ts p z S))) := HO8.out.alloc _
                have HB9 : Hid (Below w3.heap.size w3 (w8.alloc (.cells #[.int .i64 (S : Int)] 3))) := HB8.out.alloc HB8.out.size _
                have HNEW : Hid ((w8.alloc (.cells #[.int .i64 (S : Int)] 3)).cell? ⟨w8.heap.size, 0, none⟩ = some (.int .i64 (S : Int))) := (Blk.new w8 [.int .i64 (S : Int)] 3).cell rfl
                go_wp2_with (first | (at_builtin; go_loud (obtain ⟨f2, c2, w10, hr, hown, hgrow⟩ := own_int (w8.alloc (.cells #[.int .i64 (S : Int)] 3)) w3.heap.size sl 27 fa fc (ivL (srcL k ts p z S)) w8.heap.size (S : Int) HO9.out HNEW.out (by omega) HB9.out.size; refine Lib.wpList_append_run _ rfl _ _ _ _ rfl _ _ rfl rfl _ _ hr ?_; clear hr; have KO := Lib.hid hown; have KB : Hid (Below w3.heap.size w3 w10) := HB9.out.grown hgrow HB9.out.size (fun q' hq' => (World.ownsRow.lt HO9.out q' hq').1); clear hown hgrow)))
                go_roundg (4096 - (S + 1))
                case measure => omega
                case rel => exact ⟨S + 1, f2, sl + 1, c2, by omega, by simp, rfl, (by rw [srcL_step, HSB.out]; simp only [if_true]; rw [ivL_snoc]; exact KO.out), (by rw [Hid]; omega), KB⟩
              · have HSB : Hid (srcB k ts p z S = false) := HSB0.out
                clear HSB0
                go_upto_region 15 with (fail)
                have HOWD : Hid (∀ w1, (clOld wr.drew).C w1 → Below wr.heap.size wr w1) := fun w1 hC => old_end (Below.refl _ _) hC (Nat.le_refl _)
                clear c1
                refine wp_region_old 12 64 (by kernel_rfl) (by kernel_rfl) (by rfl) ?_
                simp only [List.take_succ_cons, List.take_zero, List.drop_succ_cons, List.drop_zero, List.drop_nil]
                refine chain_move (.bool true) _ (fun _ _ => Below.refl _ _) rfl rfl (by kernel_rfl) (by kernel_rfl) rfl ?_
                refine chain_move (.bool true) _ (fun _ _ => Below.refl _ _) rfl rfl (by kernel_rfl) (by kernel_rfl) rfl ?_
                refine chain_load (.agg #[.int .i64 k, .slice a m cap]) _ _ _ (fun _ _ => Below.refl _ _) rfl rfl (by kernel_rfl) (by kernel_rfl) rfl (fun w1 hC => load_g ((FBW.out.1.below (HOWD.out w1 hC)).cell rfl) ((FBW.out.1.below (HOWD.out w1 hC)).cell rfl)) ?_
                refine chain_load (.agg #[.int .i64 k, .slice a m cap]) _ _ _ (fun _ _ => Below.refl _ _) rfl rfl (by kernel_rfl) (by kernel_rfl) rfl (fun w1 hC => load_g ((FBW.out.1.below (HOWD.out w1 hC)).cell rfl) ((FBW.out.1.below (HOWD.out w1 hC)).cell rfl)) ?_
                refine chain_move (.int .i64 S) _ (fun _ _ => Below.refl _ _) rfl rfl (by kernel_rfl) (by kernel_rfl) rfl ?_
                refine chain_call_re (othW (bvL (ts.map fun t => !(t.src == (S : Int)))) m) 71 [.agg #[.int .i64 k, .slice a m cap], .int .i64 S] _ _ (othW_lasts _ _) (enters_of Tryz.func71 (by kernel_rfl) rfl) rfl rfl rfl (by kernel_rfl) (by kernel_rfl) rfl rfl (fun w1 hC => (HOT.out w1 S (FBW.out.2.trans ((HOWD.out w1 hC).mono FBW.out.2.size))).mono fun e w' ⟨g, he, hk, hb⟩ => ⟨_, he, hb, g, rfl, hk⟩) ?_
                refine chain_call_use_re (woW k (wo ts (S : Int))) (woW_lasts _ _) 52 _ 48 (fun x => [.agg #[.int .i64 k, .slice a m cap], x]) _ _ (enters_of Tryz.func48 (by kernel_rfl) rfl) rfl rfl rfl (by kernel_rfl) rfl rfl (fun _ => rfl) rfl (fun _ => rfl) (fun x w1 hC ⟨g, hx, hk⟩ => by subst hx; exact (HKP.out w1 g S (FBW.out.2.trans ((HOWD.out w1 hC).mono FBW.out.2.size)) hk).mono fun e w' ⟨a', c', he, ht, hb⟩ => ⟨_, he, hb, a', c', rfl, ht⟩) ?_
                refine chain_move (.int .i64 p) _ (fun _ _ => Below.refl _ _) rfl rfl (by kernel_rfl) (by kernel_rfl) rfl ?_
                refine chain_move (.int .i64 z) _ (fun _ _ => Below.refl _ _) rfl rfl (by kernel_rfl) (by kernel_rfl) rfl ?_
                refine chain_call_use (.bool true) 53 _ 70 (fun x => [x, .int .i64 p, .int .i64 z]) _ _ (enters_of Tryz.func70 (by kernel_rfl) rfl) rfl rfl rfl (by kernel_rfl) rfl rfl (fun _ => rfl) rfl (fun _ => rfl) (fun x w1 hC ⟨a', c', hx, ht⟩ => by subst hx; exact HHO.out w1 a' c' ht) ?_
                refine chain_un (.bool false) _ _ _ (.bool true) (fun _ _ => Below.refl _ _) rfl rfl (by kernel_rfl) (by kernel_rfl) rfl (fun w => un_not _ w) ?_
                refine chain_pick (.bool false) _ _ _ true (fun _ _ => Below.refl _ _) rfl rfl (by kernel_rfl) (by kernel_rfl) rfl rfl ?_
                refine chain_end (by rfl) ?_
                intro xs w8 hCw8 hrew8
                simp only [layE, List.foldr_cons, List.foldr_nil, List.set_cons_succ, List.set_cons_zero]
                have HY := Lib.hid (HOWD.out w8 hCw8)
                clear hCw8 hrew8 HOWD
                have HB8 := Lib.hid (HB.out.trans (HY.out.mono HB.out.size))
                have HO8 := Lib.hid (own_below HO.out HY.out)
                clear HY
                go_wp2_with fail
                go_roundg (4096 - (S + 1))
                case measure => omega
                case rel => exact ⟨S + 1, fa, sl, fc, by omega, by simp, rfl, (by rw [srcL_step, HSB.out]; simp only [Bool.false_eq_true, if_false, List.append_nil]; exact HO8.out), (by have := HSL.out; rw [Hid]; omega), HB8⟩
      · have t1 : decide ((S : Int) ≤ 4095) = false := decide_eq_false (by omega)
        have t2 : decide (S ≤ 4095) = false := decide_eq_false (by omega)
        have e : S = 4096 := by omega
        have HO4 := Lib.hid HO.out
        rw [e] at HO4
        obtain ⟨hsl, hi⟩ := own_intsB HO4.out
        have HI := Lib.hid hi
        have HLL := Lib.hid hsl
        clear hlt e HO HO4 hsl hi
        go_wp2_with fail
        refine bodyPost_ret (v := .tuple #[.slice fa sl fc, .int .i64 0]) (by simp [results, Tryz.results23, go_sem]) rfl ?_
        exact ⟨.inr ⟨rfl, fa, fc, by rw [← HLL.out], HI.out⟩, FB.out.2.trans (HB.out.mono FB.out.2.size)⟩
end Go.Proofs.YthjeiaildabadaaGreat
