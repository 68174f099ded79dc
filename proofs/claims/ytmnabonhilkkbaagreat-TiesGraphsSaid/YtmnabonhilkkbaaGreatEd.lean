/- Layer 4: Strong and Without of the program. -/
import Derived.Test.YtmnabonhilkkbaaGreatEc
namespace Go.Proofs.YtmnabonhilkkbaaGreat
set_option linter.unusedSimpArgs false
set_option linter.unusedVariables false
open Go Go.RowKit

/-- A graph, or an error. -/
structure GR where
  n : Int
  ts : List TieD
  er : Int
def GRes' (r : GR) (w : World) : Ending → World → Prop := GRes r.n r.ts r.er w
theorem okG_len {n : Int} {ts : List TieD} (h : okG n ts = true) : ts.length ≤ 512 := by
  unfold okG at h
  simp only [Bool.and_eq_true, decide_eq_true_eq] at h
  exact h.1.2
/-- The end of a function that returns a zero graph and an error. -/
theorem gres_zero {w V : World} {b4 : Nat} {er : Int} (h : Blk V b4 [.int .i64 0, .slice none 0 0] 24) (hb : Below w.heap.size w V) : ∃ a c, Ending.returned (.tuple #[.agg #[.int .i64 0, .slice none 0 0], .int .i64 er]) = .returned (.tuple #[gV 0 a ([] : List TieD).length c, .int .i64 er]) ∧ TiesNew w.heap.size V a [] ∧ Below w.heap.size w V :=
  ⟨none, 0, rfl, TiesNew.nil _ _ _, hb⟩
def strR (n : Int) (ts : List TieD) (s : Int) : GR := if okG n ts then (if ftB s 1 101 then ⟨n, ts.filter fun t => decide (s ≤ t.str), 0⟩ else ⟨0, [], 1⟩) else ⟨0, [], 40⟩
set_option maxRecDepth 100000 in
set_option maxHeartbeats 4000000 in
theorem Strong_any (s : Int) (n : Int) (a : Option Addr) (cap : Nat) (ts : List TieD) (w : World) (hl : ts.length ≤ 9223372036854775807) (hs : TiesAt w a ts) :
    Calls Tryz.prog 7 #[gV n a ts.length cap, .int .i64 s] w (GRes' (strR n ts s) w) := by
  have HC : Hid (∀ W, Below w.heap.size w W → Calls Tryz.prog 13 #[gV n a ts.length cap] W fun e w' => e = .returned (.int .i64 (errG n ts)) ∧ Below W.heap.size W w') := fun W hb => tCheck_any n a cap ts W hl (hs.below hb)
  have HSG : Hid (okG n ts = true → ∀ W, Below w.heap.size w W → Calls Tryz.prog 38 #[gV n a ts.length cap, .int .i64 s] W (GRet n (ts.filter fun t => decide (s ≤ t.str)) W)) := fun h W hb => strong_any s n a cap ts W (by have := okG_len h; omega) (hs.below hb)
  unfold errG at HC
  unfold GRes' GRes strR
  generalize (ts.filter fun t => decide (s ≤ t.str)) = F at *
  obtain ⟨m, hm⟩ : ∃ m, m = ts.length := ⟨_, rfl⟩
  rw [← hm] at hl HC HSG ⊢
  clear hm hs
  unfold GRet at HSG
  simp only [gV] at HC HSG ⊢
  have HKC : Hid (∀ W, Below (w.heap.size + 2) ((w.alloc (.cells #[.int .i64 n, .slice a m cap] 24)).alloc (.cells #[.int .i64 0, .slice none 0 0] 24)) W → Blk W w.heap.size [.int .i64 n, .slice a m cap] 24 ∧ Blk W (w.heap.size + 1) [.int .i64 0, .slice none 0 0] 24 ∧ Below w.heap.size w W) := fun W hb => by
    have b1 := Blk.new w [.int .i64 n, .slice a m cap] 24
    have b2 := Blk.new (w.alloc (.cells #[.int .i64 n, .slice a m cap] 24)) [.int .i64 0, .slice none 0 0] 24
    have hb' : Below ((w.alloc (.cells #[.int .i64 n, .slice a m cap] 24)).alloc (.cells #[.int .i64 0, .slice none 0 0] 24)).heap.size ((w.alloc (.cells #[.int .i64 n, .slice a m cap] 24)).alloc (.cells #[.int .i64 0, .slice none 0 0] 24)) W := by simpa using hb
    refine ⟨(b1.block (Below.heap_alloc _ _ _ b1.lt)).below hb', ?_, (((Below.refl _ _).alloc (Nat.le_refl _) _).alloc (by simp) _).trans (hb.mono (by omega))⟩
    have := b2.below hb'
    simpa using this
  cases hok : okG n ts with
  | false =>
    rw [hok] at HC
    clear HSG hok
    simp only [Bool.false_eq_true, if_false] at HC ⊢
    go_enter Tryz.func7, Tryz.ntmps7
    go_wp2_with (first | (go_at_call 13; refine (HC.out _ (HKC.out _ (Below.refl _ _)).2.2).mono ?_; rintro e w1 ⟨rfl, hb⟩; clear HC; have HY := Lib.hid (HKC.out w1 (by simpa using hb)); clear hb; have d0 := HY.out.2.1.cell (i := 0) rfl; have d1 := HY.out.2.1.cell (i := 1) rfl; have f0 := HY.out.2.1.frozen 0; have f1 := HY.out.2.1.frozen 1))
    refine named (fun V => Blk V (w.heap.size + 1) [.int .i64 0, .slice none 0 0] 24 ∧ Below w.heap.size w V) ⟨(HY.out.2.1.set_ 0 _).set_ 1 _, (HY.out.2.2.setCell (Nat.le_succ _) _).setCell (Nat.le_succ _) _⟩ ?_
    rintro V ⟨V1, V3⟩
    have e0 := V1.cell (i := 0) rfl
    have e1 := V1.cell (i := 1) rfl
    refine bodyPost_ret (v := .tuple #[.agg #[.int .i64 0, .slice none 0 0], .int .i64 40]) (by simp [results, Tryz.results7, go_sem, e0, e1]) rfl ?_
    exact gres_zero V1 V3
  | true =>
    rw [hok] at HC
    replace HSG := Lib.hid (HSG.out hok)
    clear hok
    simp only [if_true] at HC ⊢
    cases hf : ftB s 1 101 with
    | false =>
      clear HSG
      simp only [Bool.false_eq_true, if_false]
      go_enter Tryz.func7, Tryz.ntmps7
      go_wp2_with (first | (go_at_call 13; refine (HC.out _ (HKC.out _ (Below.refl _ _)).2.2).mono ?_; rintro e w1 ⟨rfl, hb⟩; clear HC; have HY := Lib.hid (HKC.out w1 (by simpa using hb)); clear hb; have d0 := HY.out.2.1.cell (i := 0) rfl; have d1 := HY.out.2.1.cell (i := 1) rfl; have f0 := HY.out.2.1.frozen 0; have f1 := HY.out.2.1.frozen 1) | (go_at_call 37; refine (tFromTo_any _ _ _ _).mono ?_; rintro e w' ⟨rfl, rfl⟩; simp only [hf]))
      refine named (fun V => Blk V (w.heap.size + 1) [.int .i64 0, .slice none 0 0] 24 ∧ Below w.heap.size w V) ⟨(HY.out.2.1.set_ 0 _).set_ 1 _, (HY.out.2.2.setCell (Nat.le_succ _) _).setCell (Nat.le_succ _) _⟩ ?_
      rintro V ⟨V1, V3⟩
      have e0 := V1.cell (i := 0) rfl
      have e1 := V1.cell (i := 1) rfl
      refine bodyPost_ret (v := .tuple #[.agg #[.int .i64 0, .slice none 0 0], .int .i64 1]) (by simp [results, Tryz.results7, go_sem, e0, e1]) rfl ?_
      exact gres_zero V1 V3
    | true =>
      simp only [if_true]
      go_enter Tryz.func7, Tryz.ntmps7
      go_wp2_with (first | (go_at_call 13; refine (HC.out _ (HKC.out _ (Below.refl _ _)).2.2).mono ?_; rintro e w1 ⟨rfl, hb⟩; clear HC; have HY := Lib.hid (HKC.out w1 (by simpa using hb)); clear hb; have c0 := HY.out.1.cell (i := 0) rfl; have c1 := HY.out.1.cell (i := 1) rfl) | (go_at_call 37; refine (tFromTo_any _ _ _ _).mono ?_; rintro e w' ⟨rfl, rfl⟩; simp only [hf]) | (go_at_call 38; refine (HSG.out _ HY.out.2.2).mono ?_; rintro e w2 ⟨a9, c9, rfl, hT, hb2⟩; clear HSG; have HT := Lib.hid hT; have H4 := Lib.hid (HY.out.2.1.below hb2); have HB2 := Lib.hid (HY.out.2.2.trans (hb2.mono HY.out.2.2.size)); have HLT : Hid (w.heap.size + 1 < w1.heap.size ∧ w.heap.size ≤ w1.heap.size) := ⟨HY.out.2.1.lt, HY.out.2.2.size⟩; clear hT hb2; have d0 := H4.out.cell (i := 0) rfl; have d1 := H4.out.cell (i := 1) rfl; have f0 := H4.out.frozen 0; have f1 := H4.out.frozen 1))
      refine named (fun V => Blk V (w.heap.size + 1) [.int .i64 n, .slice a9 F.length c9] 24 ∧ TiesNew w.heap.size V a9 F ∧ Below w.heap.size w V) ?_ ?_
      · have o1 : Only (w.heap.size + 1) w2 ((w2.setCell ⟨w.heap.size + 1, 0, none⟩ (.int .i64 n)).setCell ⟨w.heap.size + 1, 1, none⟩ (.slice a9 F.length c9)) := ((Only.refl _ w2).set_ 0 _).set_ 1 _
        exact ⟨(H4.out.set_ 0 _).set_ 1 _, (HT.out.only o1 HLT.out.1).mono HLT.out.2, (HB2.out.setCell (Nat.le_succ _) _).setCell (Nat.le_succ _) _⟩
      rintro V ⟨V1, V2, V3⟩
      have e0 := V1.cell (i := 0) rfl
      have e1 := V1.cell (i := 1) rfl
      refine bodyPost_ret (v := .tuple #[.agg #[.int .i64 n, .slice a9 F.length c9], .int .i64 0]) (by simp [results, Tryz.results7, go_sem, e0, e1]) rfl ?_
      exact ⟨a9, c9, rfl, V2, V3⟩
def wioR (n : Int) (ts : List TieD) (s : Int) : GR := if okG n ts then (if ftB s 0 4095 then ⟨n, ts.filter fun t => !(t.src == s), 0⟩ else ⟨0, [], 1⟩) else ⟨0, [], 40⟩
set_option maxRecDepth 100000 in
set_option maxHeartbeats 4000000 in
theorem Without_any (s : Int) (n : Int) (a : Option Addr) (cap : Nat) (ts : List TieD) (w : World) (hl : ts.length ≤ 9223372036854775807) (hs : TiesAt w a ts) :
    Calls Tryz.prog 11 #[gV n a ts.length cap, .int .i64 s] w (GRes' (wioR n ts s) w) := by
  have HC : Hid (∀ W, Below w.heap.size w W → Calls Tryz.prog 13 #[gV n a ts.length cap] W fun e w' => e = .returned (.int .i64 (errG n ts)) ∧ Below W.heap.size W w') := fun W hb => tCheck_any n a cap ts W hl (hs.below hb)
  have HSG : Hid (okG n ts = true → ∀ W, Below w.heap.size w W → Calls Tryz.prog 45 #[gV n a ts.length cap, .int .i64 s] W (GRet n (ts.filter fun t => !(t.src == s)) W)) := fun h W hb => without_any s n a cap ts W (by have := okG_len h; omega) (hs.below hb)
  unfold errG at HC
  unfold GRes' GRes wioR
  generalize (ts.filter fun t => !(t.src == s)) = F at *
  obtain ⟨m, hm⟩ : ∃ m, m = ts.length := ⟨_, rfl⟩
  rw [← hm] at hl HC HSG ⊢
  clear hm hs
  unfold GRet at HSG
  simp only [gV] at HC HSG ⊢
  have HKC : Hid (∀ W, Below (w.heap.size + 2) ((w.alloc (.cells #[.int .i64 n, .slice a m cap] 24)).alloc (.cells #[.int .i64 0, .slice none 0 0] 24)) W → Blk W w.heap.size [.int .i64 n, .slice a m cap] 24 ∧ Blk W (w.heap.size + 1) [.int .i64 0, .slice none 0 0] 24 ∧ Below w.heap.size w W) := fun W hb => by
    have b1 := Blk.new w [.int .i64 n, .slice a m cap] 24
    have b2 := Blk.new (w.alloc (.cells #[.int .i64 n, .slice a m cap] 24)) [.int .i64 0, .slice none 0 0] 24
    have hb' : Below ((w.alloc (.cells #[.int .i64 n, .slice a m cap] 24)).alloc (.cells #[.int .i64 0, .slice none 0 0] 24)).heap.size ((w.alloc (.cells #[.int .i64 n, .slice a m cap] 24)).alloc (.cells #[.int .i64 0, .slice none 0 0] 24)) W := by simpa using hb
    refine ⟨(b1.block (Below.heap_alloc _ _ _ b1.lt)).below hb', ?_, (((Below.refl _ _).alloc (Nat.le_refl _) _).alloc (by simp) _).trans (hb.mono (by omega))⟩
    have := b2.below hb'
    simpa using this
  cases hok : okG n ts with
  | false =>
    rw [hok] at HC
    clear HSG hok
    simp only [Bool.false_eq_true, if_false] at HC ⊢
    go_enter Tryz.func11, Tryz.ntmps11
    go_wp2_with (first | (go_at_call 13; refine (HC.out _ (HKC.out _ (Below.refl _ _)).2.2).mono ?_; rintro e w1 ⟨rfl, hb⟩; clear HC; have HY := Lib.hid (HKC.out w1 (by simpa using hb)); clear hb; have d0 := HY.out.2.1.cell (i := 0) rfl; have d1 := HY.out.2.1.cell (i := 1) rfl; have f0 := HY.out.2.1.frozen 0; have f1 := HY.out.2.1.frozen 1))
    refine named (fun V => Blk V (w.heap.size + 1) [.int .i64 0, .slice none 0 0] 24 ∧ Below w.heap.size w V) ⟨(HY.out.2.1.set_ 0 _).set_ 1 _, (HY.out.2.2.setCell (Nat.le_succ _) _).setCell (Nat.le_succ _) _⟩ ?_
    rintro V ⟨V1, V3⟩
    have e0 := V1.cell (i := 0) rfl
    have e1 := V1.cell (i := 1) rfl
    refine bodyPost_ret (v := .tuple #[.agg #[.int .i64 0, .slice none 0 0], .int .i64 40]) (by simp [results, Tryz.results11, go_sem, e0, e1]) rfl ?_
    exact gres_zero V1 V3
  | true =>
    rw [hok] at HC
    replace HSG := Lib.hid (HSG.out hok)
    clear hok
    simp only [if_true] at HC ⊢
    cases hf : ftB s 0 4095 with
    | false =>
      clear HSG
      simp only [Bool.false_eq_true, if_false]
      go_enter Tryz.func11, Tryz.ntmps11
      go_wp2_with (first | (go_at_call 13; refine (HC.out _ (HKC.out _ (Below.refl _ _)).2.2).mono ?_; rintro e w1 ⟨rfl, hb⟩; clear HC; have HY := Lib.hid (HKC.out w1 (by simpa using hb)); clear hb; have d0 := HY.out.2.1.cell (i := 0) rfl; have d1 := HY.out.2.1.cell (i := 1) rfl; have f0 := HY.out.2.1.frozen 0; have f1 := HY.out.2.1.frozen 1) | (go_at_call 37; refine (tFromTo_any _ _ _ _).mono ?_; rintro e w' ⟨rfl, rfl⟩; simp only [hf]))
      refine named (fun V => Blk V (w.heap.size + 1) [.int .i64 0, .slice none 0 0] 24 ∧ Below w.heap.size w V) ⟨(HY.out.2.1.set_ 0 _).set_ 1 _, (HY.out.2.2.setCell (Nat.le_succ _) _).setCell (Nat.le_succ _) _⟩ ?_
      rintro V ⟨V1, V3⟩
      have e0 := V1.cell (i := 0) rfl
      have e1 := V1.cell (i := 1) rfl
      refine bodyPost_ret (v := .tuple #[.agg #[.int .i64 0, .slice none 0 0], .int .i64 1]) (by simp [results, Tryz.results11, go_sem, e0, e1]) rfl ?_
      exact gres_zero V1 V3
    | true =>
      simp only [if_true]
      go_enter Tryz.func11, Tryz.ntmps11
      go_wp2_with (first | (go_at_call 13; refine (HC.out _ (HKC.out _ (Below.refl _ _)).2.2).mono ?_; rintro e w1 ⟨rfl, hb⟩; clear HC; have HY := Lib.hid (HKC.out w1 (by simpa using hb)); clear hb; have c0 := HY.out.1.cell (i := 0) rfl; have c1 := HY.out.1.cell (i := 1) rfl) | (go_at_call 37; refine (tFromTo_any _ _ _ _).mono ?_; rintro e w' ⟨rfl, rfl⟩; simp only [hf]) | (go_at_call 45; refine (HSG.out _ HY.out.2.2).mono ?_; rintro e w2 ⟨a9, c9, rfl, hT, hb2⟩; clear HSG; have HT := Lib.hid hT; have H4 := Lib.hid (HY.out.2.1.below hb2); have HB2 := Lib.hid (HY.out.2.2.trans (hb2.mono HY.out.2.2.size)); have HLT : Hid (w.heap.size + 1 < w1.heap.size ∧ w.heap.size ≤ w1.heap.size) := ⟨HY.out.2.1.lt, HY.out.2.2.size⟩; clear hT hb2; have d0 := H4.out.cell (i := 0) rfl; have d1 := H4.out.cell (i := 1) rfl; have f0 := H4.out.frozen 0; have f1 := H4.out.frozen 1))
      refine named (fun V => Blk V (w.heap.size + 1) [.int .i64 n, .slice a9 F.length c9] 24 ∧ TiesNew w.heap.size V a9 F ∧ Below w.heap.size w V) ?_ ?_
      · have o1 : Only (w.heap.size + 1) w2 ((w2.setCell ⟨w.heap.size + 1, 0, none⟩ (.int .i64 n)).setCell ⟨w.heap.size + 1, 1, none⟩ (.slice a9 F.length c9)) := ((Only.refl _ w2).set_ 0 _).set_ 1 _
        exact ⟨(H4.out.set_ 0 _).set_ 1 _, (HT.out.only o1 HLT.out.1).mono HLT.out.2, (HB2.out.setCell (Nat.le_succ _) _).setCell (Nat.le_succ _) _⟩
      rintro V ⟨V1, V2, V3⟩
      have e0 := V1.cell (i := 0) rfl
      have e1 := V1.cell (i := 1) rfl
      refine bodyPost_ret (v := .tuple #[.agg #[.int .i64 n, .slice a9 F.length c9], .int .i64 0]) (by simp [results, Tryz.results11, go_sem, e0, e1]) rfl ?_
      exact ⟨a9, c9, rfl, V2, V3⟩
end Go.Proofs.YtmnabonhilkkbaaGreat
