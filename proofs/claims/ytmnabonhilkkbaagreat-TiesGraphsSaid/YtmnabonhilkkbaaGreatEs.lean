/- Layer 4: the specification's Without, over kept. -/
import Derived.Test.YtmnabonhilkkbaaGreatEr
namespace Go.Proofs.YtmnabonhilkkbaaGreat
set_option linter.unusedSimpArgs false
set_option linter.unusedVariables false
open Go Go.RowKit

def othW (BL : List Value) (m : Nat) : Word := fun v w => ∃ g, v = .slice (some ⟨g, 0, none⟩) m m ∧ Blk w g BL 4
theorem othW_lasts {w0 : World} (BL : List Value) (m : Nat) : lasts (clOld w0) (othW BL m) := fun v w w' _ hR ⟨g, hv, h⟩ => ⟨g, hv, h.below hR⟩
set_option maxRecDepth 100000 in
set_option maxHeartbeats 4000000 in
theorem rWithout_any (HKO : KeptOk) (s : Int) (n : Int) (a : Option Addr) (cap : Nat) (ts : List TieD) (w : World) (hl : ts.length ≤ 9223372036854775807) (hs : TiesAt w a ts) :
    Calls Tryz.prog 12 #[gV n a ts.length cap, .int .i64 s] w (GRes' (wioR n ts s) w) := by
  have HC : Hid (∀ W, Below w.heap.size w W → Calls Tryz.prog 14 #[gV n a ts.length cap] W fun e w' => e = .returned (.int .i64 (errG n ts)) ∧ Below W.heap.size W w') := fun W hb => rCheck_any n a cap ts W hl (hs.below hb)
  have HOT : Hid (okG n ts = true → ∀ W, Below w.heap.size w W → Calls Tryz.prog 46 #[gV n a ts.length cap, .int .i64 s] W fun e w' => ∃ g, e = .returned (.slice (some ⟨g, 0, none⟩) ts.length ts.length) ∧ Blk w' g (bvL (ts.map fun t => !(t.src == s))) 4 ∧ W.heap.size ≤ g ∧ Below W.heap.size W w') := fun h W hb => rOthers_any s n a cap ts W (by have := okG_len h; omega) (hs.below hb)
  have HKP : Hid (okG n ts = true → ∀ W g, Below w.heap.size w W → Blk W g (bvL (ts.map fun t => !(t.src == s))) 4 → Calls Tryz.prog 35 #[gV n a ts.length cap, .slice (some ⟨g, 0, none⟩) ts.length ts.length] W (GRet n (ts.filter fun t => !(t.src == s)) W)) := fun h W g hb hk => HKO (fun t => !(t.src == s)) n a cap g ts W (by have := okG_len h; omega) (hs.below hb) hk
  unfold errG at HC
  unfold GRes' GRes wioR
  generalize (ts.filter fun t => !(t.src == s)) = F at *
  generalize (bvL (ts.map fun t => !(t.src == s))) = BL at *
  obtain ⟨m, hm⟩ : ∃ m, m = ts.length := ⟨_, rfl⟩
  rw [← hm] at hl HC HOT HKP ⊢
  clear hm hs HKO
  unfold GRet at HKP
  simp only [gV] at HC HOT HKP ⊢
  have HKC : Hid (∀ W, Below (w.heap.size + 2) ((w.alloc (.cells #[.int .i64 n, .slice a m cap] 24)).alloc (.cells #[.int .i64 0, .slice none 0 0] 24)) W → Blk W w.heap.size [.int .i64 n, .slice a m cap] 24 ∧ Blk W (w.heap.size + 1) [.int .i64 0, .slice none 0 0] 24 ∧ Below w.heap.size w W) := fun W hb => by
    have b1 := Blk.new w [.int .i64 n, .slice a m cap] 24
    have b2 := Blk.new (w.alloc (.cells #[.int .i64 n, .slice a m cap] 24)) [.int .i64 0, .slice none 0 0] 24
    have hb' : Below ((w.alloc (.cells #[.int .i64 n, .slice a m cap] 24)).alloc (.cells #[.int .i64 0, .slice none 0 0] 24)).heap.size ((w.alloc (.cells #[.int .i64 n, .slice a m cap] 24)).alloc (.cells #[.int .i64 0, .slice none 0 0] 24)) W := by simpa using hb
    refine ⟨(b1.block (Below.heap_alloc _ _ _ b1.lt)).below hb', ?_, (((Below.refl _ _).alloc (Nat.le_refl _) _).alloc (by simp) _).trans (hb.mono (by omega))⟩
    have := b2.below hb'
    simpa using this
  cases hok : okG n ts with
  | false =>
    rw [hok] at HC
    clear HOT HKP hok
    simp only [Bool.false_eq_true, if_false] at HC ⊢
    go_enter Tryz.func12, Tryz.ntmps12
    go_wp2_with (first | (go_at_call 14; refine (HC.out _ (HKC.out _ (Below.refl _ _)).2.2).mono ?_; rintro e w1 ⟨rfl, hb⟩; clear HC; have HY := Lib.hid (HKC.out w1 (by simpa using hb)); clear hb; have d0 := HY.out.2.1.cell (i := 0) rfl; have d1 := HY.out.2.1.cell (i := 1) rfl; have f0 := HY.out.2.1.frozen 0; have f1 := HY.out.2.1.frozen 1))
    refine named (fun V => Blk V (w.heap.size + 1) [.int .i64 0, .slice none 0 0] 24 ∧ Below w.heap.size w V) ⟨(HY.out.2.1.set_ 0 _).set_ 1 _, (HY.out.2.2.setCell (Nat.le_succ _) _).setCell (Nat.le_succ _) _⟩ ?_
    rintro V ⟨V1, V3⟩
    have e0 := V1.cell (i := 0) rfl
    have e1 := V1.cell (i := 1) rfl
    refine bodyPost_ret (v := .tuple #[.agg #[.int .i64 0, .slice none 0 0], .int .i64 40]) (by simp [results, Tryz.results12, go_sem, e0, e1]) rfl ?_
    exact gres_zero V1 V3
  | true =>
    rw [hok] at HC
    replace HOT := Lib.hid (HOT.out hok)
    replace HKP := Lib.hid (HKP.out hok)
    clear hok
    simp only [if_true] at HC ⊢
    cases hf : ftB s 0 4095 with
    | false =>
      clear HOT HKP
      simp only [Bool.false_eq_true, if_false]
      go_enter Tryz.func12, Tryz.ntmps12
      go_wp2_with (first | (go_at_call 14; refine (HC.out _ (HKC.out _ (Below.refl _ _)).2.2).mono ?_; rintro e w1 ⟨rfl, hb⟩; clear HC; have HY := Lib.hid (HKC.out w1 (by simpa using hb)); clear hb; have d0 := HY.out.2.1.cell (i := 0) rfl; have d1 := HY.out.2.1.cell (i := 1) rfl; have f0 := HY.out.2.1.frozen 0; have f1 := HY.out.2.1.frozen 1) | (go_at_call 39; refine (rBet_any _ _ _ _).mono ?_; rintro e w' ⟨rfl, rfl⟩; simp only [hf]))
      refine named (fun V => Blk V (w.heap.size + 1) [.int .i64 0, .slice none 0 0] 24 ∧ Below w.heap.size w V) ⟨(HY.out.2.1.set_ 0 _).set_ 1 _, (HY.out.2.2.setCell (Nat.le_succ _) _).setCell (Nat.le_succ _) _⟩ ?_
      rintro V ⟨V1, V3⟩
      have e0 := V1.cell (i := 0) rfl
      have e1 := V1.cell (i := 1) rfl
      refine bodyPost_ret (v := .tuple #[.agg #[.int .i64 0, .slice none 0 0], .int .i64 1]) (by simp [results, Tryz.results12, go_sem, e0, e1]) rfl ?_
      exact gres_zero V1 V3
    | true =>
      simp only [if_true]
      go_enter Tryz.func12, Tryz.ntmps12
      go_upto_region 5 with (first | (go_at_call 14; refine (HC.out _ (HKC.out _ (Below.refl _ _)).2.2).mono ?_; rintro e w1 ⟨rfl, hb⟩; clear HC; have HY := Lib.hid (HKC.out w1 (by simpa using hb)); clear hb) | (go_at_call 39; refine (rBet_any _ _ _ _).mono ?_; rintro e w' ⟨rfl, rfl⟩; simp only [hf]))
      have HX : Hid (∀ W, (clOld w1.drew).C W → Blk W w.heap.size [.int .i64 n, .slice a m cap] 24 ∧ Blk W (w.heap.size + 1) [.int .i64 0, .slice none 0 0] 24 ∧ Below w.heap.size w W) := fun W hC => by
        have hb : Below w1.heap.size w1 W := old_end (Below.refl _ _) hC (Nat.le_refl _)
        exact ⟨HY.out.1.below hb, HY.out.2.1.below hb, HY.out.2.2.trans (hb.mono HY.out.2.2.size)⟩
      refine wp_region_old 4 19 (by kernel_rfl) (by kernel_rfl) (by rfl) ?_
      simp only [List.take_succ_cons, List.take_zero, List.drop_succ_cons, List.drop_zero, List.drop_nil]
      refine chain_load (.agg #[.int .i64 n, .slice a m cap]) _ _ _ (fun _ _ => Below.refl _ _) rfl rfl (by kernel_rfl) (by kernel_rfl) rfl (fun w1 hC => load_g ((HX.out w1 hC).1.cell rfl) ((HX.out w1 hC).1.cell rfl)) ?_
      refine chain_load (.agg #[.int .i64 n, .slice a m cap]) _ _ _ (fun _ _ => Below.refl _ _) rfl rfl (by kernel_rfl) (by kernel_rfl) rfl (fun w1 hC => load_g ((HX.out w1 hC).1.cell rfl) ((HX.out w1 hC).1.cell rfl)) ?_
      refine chain_move (.int .i64 s) _ (fun _ _ => Below.refl _ _) rfl rfl (by kernel_rfl) (by kernel_rfl) rfl ?_
      refine chain_call_re (othW BL m) 46 [.agg #[.int .i64 n, .slice a m cap], .int .i64 s] _ _ (othW_lasts BL m) (enters_of Tryz.func46 (by kernel_rfl) rfl) rfl rfl rfl (by kernel_rfl) (by kernel_rfl) rfl rfl (fun w1 hC => (HOT.out w1 (HX.out w1 hC).2.2).mono fun e w' ⟨g, he, hk, _, hb⟩ => ⟨_, he, hb, g, rfl, hk⟩) ?_
      refine chain_end (by rfl) ?_
      intro xs w6 hCw6 hrew6
      simp only [layE, List.foldr_cons, List.foldr_nil, List.set_cons_succ, List.set_cons_zero]
      have HY6 := Lib.hid (HX.out w6 hCw6)
      obtain ⟨g, hg, hk⟩ := hrew6 17 _ rfl
      simp only [hg]
      have HG := Lib.hid hk
      clear hCw6 hrew6 hg hk HX HOT
      go_wp2_with (first | (go_at_call 35; refine (HKP.out _ _ HY6.out.2.2 HG.out).mono ?_; rintro e w2 ⟨a9, c9, rfl, hT, hb2⟩; clear HKP; have HT := Lib.hid hT; have H4 := Lib.hid (HY6.out.2.1.below hb2); have HB2 := Lib.hid (HY6.out.2.2.trans (hb2.mono HY6.out.2.2.size)); have HLT : Hid (w.heap.size + 1 < w6.heap.size ∧ w.heap.size ≤ w6.heap.size) := ⟨HY6.out.2.1.lt, HY6.out.2.2.size⟩; clear hT hb2; have d0 := H4.out.cell (i := 0) rfl; have d1 := H4.out.cell (i := 1) rfl; have f0 := H4.out.frozen 0; have f1 := H4.out.frozen 1))
      refine named (fun V => Blk V (w.heap.size + 1) [.int .i64 n, .slice a9 F.length c9] 24 ∧ TiesNew w.heap.size V a9 F ∧ Below w.heap.size w V) ?_ ?_
      · have o1 : Only (w.heap.size + 1) w2 ((w2.setCell ⟨w.heap.size + 1, 0, none⟩ (.int .i64 n)).setCell ⟨w.heap.size + 1, 1, none⟩ (.slice a9 F.length c9)) := ((Only.refl _ w2).set_ 0 _).set_ 1 _
        exact ⟨(H4.out.set_ 0 _).set_ 1 _, (HT.out.only o1 HLT.out.1).mono HLT.out.2, (HB2.out.setCell (Nat.le_succ _) _).setCell (Nat.le_succ _) _⟩
      rintro V ⟨V1, V2, V3⟩
      have e0 := V1.cell (i := 0) rfl
      have e1 := V1.cell (i := 1) rfl
      refine bodyPost_ret (v := .tuple #[.agg #[.int .i64 n, .slice a9 F.length c9], .int .i64 0]) (by simp [results, Tryz.results12, go_sem, e0, e1]) rfl ?_
      exact ⟨a9, c9, rfl, V2, V3⟩
end Go.Proofs.YtmnabonhilkkbaaGreat
