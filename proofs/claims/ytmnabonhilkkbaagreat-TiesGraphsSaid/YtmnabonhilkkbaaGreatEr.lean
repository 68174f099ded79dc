/- Layer 4: the specification's Strong, over kept. -/
import Derived.Test.YtmnabonhilkkbaaGreatEq
namespace Go.Proofs.YtmnabonhilkkbaaGreat
set_option linter.unusedSimpArgs false
set_option linter.unusedVariables false
open Go Go.RowKit

set_option maxRecDepth 100000 in
set_option maxHeartbeats 4000000 in
theorem rStrong_any (HKO : KeptOk) (s : Int) (n : Int) (a : Option Addr) (cap : Nat) (ts : List TieD) (w : World) (hl : ts.length ≤ 9223372036854775807) (hs : TiesAt w a ts) :
    Calls Tryz.prog 8 #[gV n a ts.length cap, .int .i64 s] w (GRes' (strR n ts s) w) := by
  have HC : Hid (∀ W, Below w.heap.size w W → Calls Tryz.prog 14 #[gV n a ts.length cap] W fun e w' => e = .returned (.int .i64 (errG n ts)) ∧ Below W.heap.size W w') := fun W hb => rCheck_any n a cap ts W hl (hs.below hb)
  have HSG : Hid (okG n ts = true → ∀ W, Below w.heap.size w W → Calls Tryz.prog 40 #[gV n a ts.length cap, .int .i64 s] W (GRet n (ts.filter fun t => decide (s ≤ t.str)) W)) := fun h W hb => rstrong_any HKO s n a cap ts W (by have := okG_len h; omega) (hs.below hb)
  unfold errG at HC
  unfold GRes' GRes strR
  generalize (ts.filter fun t => decide (s ≤ t.str)) = F at *
  obtain ⟨m, hm⟩ : ∃ m, m = ts.length := ⟨_, rfl⟩
  rw [← hm] at hl HC HSG ⊢
  clear hm hs HKO
  unfold GRet at HSG
  simp only [gV] at HC HSG ⊢
  have HKC : Hid (∀ W, Below (w.heap.size + 2) ((w.alloc (.cells #[.int .i64 n, .slice a m cap] 24)).alloc (.cells #[.int .i64 0, .slice none 0 0] 24)) W → Blk W w.heap.size [.int .i64 n, .slice a m cap] 24 ∧ Blk W (w.heap.size + 1) [.int .i64 0, .slice none 0 0] 24 ∧ Below w.heap.size w W) := fun W hb => by
    have b1 := Blk.new w [.int .i64 n, .slice a m cap] 24
    have b2 := Blk.new (w.alloc (.cells #[.int .i64 n, .slice a m cap] 24)) [.int .i64 0, .slice none 0 0] 24
    have hb' : Below ((w.alloc (.cells #[.int .i64 n, .slice a m cap] 24)).alloc (.cells #[.int .i64 0, .slice none 0 0] 24)).heap.size ((w.alloc (.cells #[.int .i64 n, .slice a m cap] 24)).alloc (.cells #[.int .i64 0, .slice none 0 0] 24)) W := by simpa using hb
    refine ⟨(b1.block (Below.heap_alloc _ _ _ b1.lt)).below hb', ?_, (((Below.refl _ _).alloc (Nat.le_refl _) _).alloc (by simp) _).trans (hb.mono (by omega))⟩
    have := b2.below hb'
    simpa using this
  cases hok : okG n ts with
  | false =>
    rw [hok] at HC
    clear HSG hok
    simp only [Bool.false_eq_true, if_false] at HC ⊢
    go_enter Tryz.func8, Tryz.ntmps8
    go_wp2_with (first | (go_at_call 14; refine (HC.out _ (HKC.out _ (Below.refl _ _)).2.2).mono ?_; rintro e w1 ⟨rfl, hb⟩; clear HC; have HY := Lib.hid (HKC.out w1 (by simpa using hb)); clear hb; have d0 := HY.out.2.1.cell (i := 0) rfl; have d1 := HY.out.2.1.cell (i := 1) rfl; have f0 := HY.out.2.1.frozen 0; have f1 := HY.out.2.1.frozen 1))
    refine named (fun V => Blk V (w.heap.size + 1) [.int .i64 0, .slice none 0 0] 24 ∧ Below w.heap.size w V) ⟨(HY.out.2.1.set_ 0 _).set_ 1 _, (HY.out.2.2.setCell (Nat.le_succ _) _).setCell (Nat.le_succ _) _⟩ ?_
    rintro V ⟨V1, V3⟩
    have e0 := V1.cell (i := 0) rfl
    have e1 := V1.cell (i := 1) rfl
    refine bodyPost_ret (v := .tuple #[.agg #[.int .i64 0, .slice none 0 0], .int .i64 40]) (by simp [results, Tryz.results8, go_sem, e0, e1]) rfl ?_
    exact gres_zero V1 V3
  | true =>
    rw [hok] at HC
    replace HSG := Lib.hid (HSG.out hok)
    clear hok
    simp only [if_true] at HC ⊢
    cases hf : ftB s 1 101 with
    | false =>
      clear HSG
      simp only [Bool.false_eq_true, if_false]
      go_enter Tryz.func8, Tryz.ntmps8
      go_wp2_with (first | (go_at_call 14; refine (HC.out _ (HKC.out _ (Below.refl _ _)).2.2).mono ?_; rintro e w1 ⟨rfl, hb⟩; clear HC; have HY := Lib.hid (HKC.out w1 (by simpa using hb)); clear hb; have d0 := HY.out.2.1.cell (i := 0) rfl; have d1 := HY.out.2.1.cell (i := 1) rfl; have f0 := HY.out.2.1.frozen 0; have f1 := HY.out.2.1.frozen 1) | (go_at_call 39; refine (rBet_any _ _ _ _).mono ?_; rintro e w' ⟨rfl, rfl⟩; simp only [hf]))
      refine named (fun V => Blk V (w.heap.size + 1) [.int .i64 0, .slice none 0 0] 24 ∧ Below w.heap.size w V) ⟨(HY.out.2.1.set_ 0 _).set_ 1 _, (HY.out.2.2.setCell (Nat.le_succ _) _).setCell (Nat.le_succ _) _⟩ ?_
      rintro V ⟨V1, V3⟩
      have e0 := V1.cell (i := 0) rfl
      have e1 := V1.cell (i := 1) rfl
      refine bodyPost_ret (v := .tuple #[.agg #[.int .i64 0, .slice none 0 0], .int .i64 1]) (by simp [results, Tryz.results8, go_sem, e0, e1]) rfl ?_
      exact gres_zero V1 V3
    | true =>
      simp only [if_true]
      go_enter Tryz.func8, Tryz.ntmps8
      go_wp2_with (first | (go_at_call 14; refine (HC.out _ (HKC.out _ (Below.refl _ _)).2.2).mono ?_; rintro e w1 ⟨rfl, hb⟩; clear HC; have HY := Lib.hid (HKC.out w1 (by simpa using hb)); clear hb; have c0 := HY.out.1.cell (i := 0) rfl; have c1 := HY.out.1.cell (i := 1) rfl) | (go_at_call 39; refine (rBet_any _ _ _ _).mono ?_; rintro e w' ⟨rfl, rfl⟩; simp only [hf]) | (go_at_call 40; refine (HSG.out _ HY.out.2.2).mono ?_; rintro e w2 ⟨a9, c9, rfl, hT, hb2⟩; clear HSG; have HT := Lib.hid hT; have H4 := Lib.hid (HY.out.2.1.below hb2); have HB2 := Lib.hid (HY.out.2.2.trans (hb2.mono HY.out.2.2.size)); have HLT : Hid (w.heap.size + 1 < w1.heap.size ∧ w.heap.size ≤ w1.heap.size) := ⟨HY.out.2.1.lt, HY.out.2.2.size⟩; clear hT hb2; have d0 := H4.out.cell (i := 0) rfl; have d1 := H4.out.cell (i := 1) rfl; have f0 := H4.out.frozen 0; have f1 := H4.out.frozen 1))
      refine named (fun V => Blk V (w.heap.size + 1) [.int .i64 n, .slice a9 F.length c9] 24 ∧ TiesNew w.heap.size V a9 F ∧ Below w.heap.size w V) ?_ ?_
      · have o1 : Only (w.heap.size + 1) w2 ((w2.setCell ⟨w.heap.size + 1, 0, none⟩ (.int .i64 n)).setCell ⟨w.heap.size + 1, 1, none⟩ (.slice a9 F.length c9)) := ((Only.refl _ w2).set_ 0 _).set_ 1 _
        exact ⟨(H4.out.set_ 0 _).set_ 1 _, (HT.out.only o1 HLT.out.1).mono HLT.out.2, (HB2.out.setCell (Nat.le_succ _) _).setCell (Nat.le_succ _) _⟩
      rintro V ⟨V1, V2, V3⟩
      have e0 := V1.cell (i := 0) rfl
      have e1 := V1.cell (i := 1) rfl
      refine bodyPost_ret (v := .tuple #[.agg #[.int .i64 n, .slice a9 F.length c9], .int .i64 0]) (by simp [results, Tryz.results8, go_sem, e0, e1]) rfl ?_
      exact ⟨a9, c9, rfl, V2, V3⟩
end Go.Proofs.YtmnabonhilkkbaaGreat
