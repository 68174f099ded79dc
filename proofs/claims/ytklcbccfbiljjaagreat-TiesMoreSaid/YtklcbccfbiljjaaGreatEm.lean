/- Layer 4: Merge of the program. -/
import Derived.Test.YtklcbccfbiljjaaGreatEl
namespace Go.Proofs.YtklcbccfbiljjaaGreat
set_option linter.unusedSimpArgs false
set_option linter.unusedVariables false
open Go Go.RowKit

theorem tvL_append : ∀ (l k : List TieD), tvL (l ++ k) = tvL l ++ tvL k
  | [], k => by simp [tvL]
  | t :: l, k => by simp [tvL, tvL_append l k]
def K3 (w W : World) (g h : List Value) : Prop := Blk W w.heap.size g 24 ∧ Blk W (w.heap.size + 1) h 24 ∧ Blk W (w.heap.size + 1 + 1) [.int .i64 0, .slice none 0 0] 24 ∧ Below w.heap.size w W
theorem K3.below {w W W' : World} {g h : List Value} (k : K3 w W g h) (hb : Below W.heap.size W W') : K3 w W' g h := ⟨k.1.below hb, k.2.1.below hb, k.2.2.1.below hb, k.2.2.2.trans (hb.mono k.2.2.2.size)⟩
theorem K3.new (w : World) (n n' : Int) (a b : Option Addr) (m q cap cap' : Nat) : K3 w (((w.alloc (.cells #[.int .i64 n, .slice a m cap] 24)).alloc (.cells #[.int .i64 n', .slice b q cap'] 24)).alloc (.cells #[.int .i64 0, .slice none 0 0] 24)) [.int .i64 n, .slice a m cap] [.int .i64 n', .slice b q cap'] := by
  have b1 := Blk.new w [.int .i64 n, .slice a m cap] 24
  have b2 := Blk.new (w.alloc (.cells #[.int .i64 n, .slice a m cap] 24)) [.int .i64 n', .slice b q cap'] 24
  have b3 := Blk.new ((w.alloc (.cells #[.int .i64 n, .slice a m cap] 24)).alloc (.cells #[.int .i64 n', .slice b q cap'] 24)) [.int .i64 0, .slice none 0 0] 24
  refine ⟨(b1.block (Below.heap_alloc _ _ _ (by simp))).block (Below.heap_alloc _ _ _ (by simp; omega)), ?_, ?_, (((Below.refl _ _).alloc (Nat.le_refl _) _).alloc (by simp) _).alloc (by simp; omega) _⟩
  · have := b2.block (Below.heap_alloc _ (.cells #[.int .i64 0, .slice none 0 0] 24) _ b2.lt)
    simpa using this
  · simpa using b3
def mrgF (ts us : List TieD) : List TieD := us.filter fun t => !decide (t ∈ ts)
def mrgR (n : Int) (ts : List TieD) (n' : Int) (us : List TieD) : GR := if okG n ts then (if okG n' us then (if n = n' then (if 512 < (ts ++ mrgF ts us).length then ⟨0, [], 2⟩ else ⟨n, ts ++ mrgF ts us, 0⟩) else ⟨0, [], 1⟩) else ⟨0, [], 40⟩) else ⟨0, [], 40⟩
theorem gres_zero3 {w V : World} {b4 : Nat} {er : Int} (hb : Below w.heap.size w V) : ∃ a c, Ending.returned (.tuple #[.agg #[.int .i64 0, .slice none 0 0], .int .i64 er]) = .returned (.tuple #[gV 0 a ([] : List TieD).length c, .int .i64 er]) ∧ TiesNew w.heap.size V a [] ∧ Below w.heap.size w V :=
  ⟨none, 0, rfl, TiesNew.nil _ _ _, hb⟩
set_option maxRecDepth 100000 in
set_option maxHeartbeats 4000000 in
theorem Merge_any (n n' : Int) (a b : Option Addr) (cap cap' : Nat) (ts us : List TieD) (w : World) (hl : ts.length ≤ 9223372036854775807) (hl' : us.length ≤ 9223372036854775807) (hs : TiesAt w a ts) (ht : TiesAt w b us) :
    Calls Tryz.prog 9 #[gV n a ts.length cap, gV n' b us.length cap'] w (GRes' (mrgR n ts n' us) w) := by
  have HC : Hid (∀ W, Below w.heap.size w W → Calls Tryz.prog 6 #[gV n a ts.length cap] W fun e w' => e = .returned (.int .i64 (errG n ts)) ∧ Below W.heap.size W w') := fun W hb => tCheck_any n a cap ts W hl (hs.below hb)
  have HD : Hid (∀ W, Below w.heap.size w W → Calls Tryz.prog 6 #[gV n' b us.length cap'] W fun e w' => e = .returned (.int .i64 (errG n' us)) ∧ Below W.heap.size W w') := fun W hb => tCheck_any n' b cap' us W hl' (ht.below hb)
  have HM : Hid (okG n ts = true → okG n' us = true → ∀ W bs, Below w.heap.size w W → Blk W bs [.int .i64 n, .slice a ts.length cap] 24 → Calls Tryz.prog 35 #[gV n' b us.length cap', .func (.func 36) #[] #[.pointer (some ⟨bs, 0, none⟩)]] W (GRet n' (mrgF ts us) W)) := fun h1 h2 W bs hb hk =>
    having_merge (fun t => !decide (t ∈ ts)) bs n' b cap' us W (by have := okG_len h2; omega) (ht.below hb) fun t W' _ hb' => mergeFn_any t bs n a cap ts W' (by have := okG_len h1; omega) ((hs.below hb).below hb') (hk.below hb')
  have HCC : Hid (okG n ts = true → okG n' us = true → ∀ W sb a9 c9, Below w.heap.size w W → TiesAt W a9 (mrgF ts us) → Blk W sb [.slice a ts.length cap, .slice a9 (mrgF ts us).length c9] 22 → Calls Tryz.prog 38 #[.slice (some ⟨sb, 0, none⟩) 2 2] W fun e w' => ∃ a8 c8, e = .returned (.slice a8 (ts ++ mrgF ts us).length c8) ∧ TiesNew W.heap.size w' a8 (ts ++ mrgF ts us) ∧ Below W.heap.size W w') := fun h1 h2 W sb a9 c9 hb h9 hk =>
    (concatT_any sb a a9 cap c9 ts (mrgF ts us) W (by have := okG_len h1; omega) (by have := okG_len h2; have := List.length_filter_le (fun t => !decide (t ∈ ts)) us; unfold mrgF; omega) (hs.below hb) h9 hk).mono fun e w' ⟨v, he, ho, hb'⟩ => by
      rw [← List.length_append, ← tvL_append] at ho
      obtain ⟨a8, c8, rfl, _, hT⟩ := own_tiesN ho
      exact ⟨a8, c8, he, hT, hb'⟩
  unfold errG at HC HD
  unfold GRes' GRes mrgR
  generalize mrgF ts us = F at *
  generalize hG : ts ++ F = G at *
  obtain ⟨m, hm⟩ : ∃ m, m = ts.length := ⟨_, rfl⟩
  rw [← hm] at hl HC HM HCC ⊢
  obtain ⟨q, hq⟩ : ∃ q, q = us.length := ⟨_, rfl⟩
  rw [← hq] at hl' HD HM ⊢
  have hmf : ∀ (fn : Fn) (first cap : Array Value) (w : World), (Instr.makeFunc fn first cap).run Tryz.prog w = .ok (.func fn first cap) w := fun _ _ _ _ => rfl
  have HN0 := Lib.hid (K3.new w n n' a b m q cap cap')
  clear hm hq hs ht hG
  unfold GRet at HM
  simp only [gV] at HC HD HM ⊢
  cases hok : okG n ts with
  | false =>
    rw [hok] at HC
    clear HM HCC HD hok
    simp only [Bool.false_eq_true, if_false] at HC ⊢
    go_enter Tryz.func9, Tryz.ntmps9
    go_wp2_with (first | (go_at_call 6; refine (HC.out _ HN0.out.2.2.2).mono ?_; rintro e w1 ⟨rfl, hb⟩; clear HC; have HY := Lib.hid (HN0.out.below hb); clear hb HN0; have d0 := HY.out.2.2.1.cell (i := 0) rfl; have d1 := HY.out.2.2.1.cell (i := 1) rfl; have f0 := HY.out.2.2.1.frozen 0; have f1 := HY.out.2.2.1.frozen 1))
    refine named (fun V => Blk V (w.heap.size + 1 + 1) [.int .i64 0, .slice none 0 0] 24 ∧ Below w.heap.size w V) ⟨(HY.out.2.2.1.set_ 0 _).set_ 1 _, (HY.out.2.2.2.setCell (by show w.heap.size ≤ w.heap.size + 1 + 1; omega) _).setCell (by show w.heap.size ≤ w.heap.size + 1 + 1; omega) _⟩ ?_
    rintro V ⟨V1, V3⟩
    have e0 := V1.cell (i := 0) rfl
    have e1 := V1.cell (i := 1) rfl
    refine bodyPost_ret (v := .tuple #[.agg #[.int .i64 0, .slice none 0 0], .int .i64 40]) (by simp [results, Tryz.results9, go_sem, e0, e1]) rfl ?_
    exact gres_zero3 (b4 := 0) V3
  | true =>
    rw [hok] at HC
    simp only [if_true] at HC ⊢
    cases hok2 : okG n' us with
    | false =>
      rw [hok2] at HD
      clear HM HCC hok hok2
      simp only [Bool.false_eq_true, if_false] at HD ⊢
      go_enter Tryz.func9, Tryz.ntmps9
      go_wp2_with (first | (go_at_call 6; refine (HC.out _ HN0.out.2.2.2).mono ?_; rintro e w1 ⟨rfl, hb⟩; clear HC; have HX := Lib.hid (HN0.out.below hb); clear hb HN0; have x0 := HX.out.2.1.cell (i := 0) rfl; have x1 := HX.out.2.1.cell (i := 1) rfl) | (go_at_call 6; refine (HD.out _ HX.out.2.2.2).mono ?_; rintro e w2 ⟨rfl, hb⟩; clear HD x0 x1; have HY := Lib.hid (HX.out.below hb); clear hb HX; have d0 := HY.out.2.2.1.cell (i := 0) rfl; have d1 := HY.out.2.2.1.cell (i := 1) rfl; have f0 := HY.out.2.2.1.frozen 0; have f1 := HY.out.2.2.1.frozen 1))
      refine named (fun V => Blk V (w.heap.size + 1 + 1) [.int .i64 0, .slice none 0 0] 24 ∧ Below w.heap.size w V) ⟨(HY.out.2.2.1.set_ 0 _).set_ 1 _, (HY.out.2.2.2.setCell (by show w.heap.size ≤ w.heap.size + 1 + 1; omega) _).setCell (by show w.heap.size ≤ w.heap.size + 1 + 1; omega) _⟩ ?_
      rintro V ⟨V1, V3⟩
      have e0 := V1.cell (i := 0) rfl
      have e1 := V1.cell (i := 1) rfl
      refine bodyPost_ret (v := .tuple #[.agg #[.int .i64 0, .slice none 0 0], .int .i64 40]) (by simp [results, Tryz.results9, go_sem, e0, e1]) rfl ?_
      exact gres_zero3 (b4 := 0) V3
    | true =>
      rw [hok2] at HD
      replace HM := Lib.hid (HM.out hok hok2)
      replace HCC := Lib.hid (HCC.out hok hok2)
      clear hok hok2
      simp only [if_true] at HD ⊢
      by_cases hnn : n = n'
      case neg =>
        rw [if_neg hnn]
        have t1 : (n != n') = true := by simpa using hnn
        clear HM HCC
        go_enter Tryz.func9, Tryz.ntmps9
        go_wp2_with (first | (go_at_call 6; refine (HC.out _ HN0.out.2.2.2).mono ?_; rintro e w1 ⟨rfl, hb⟩; clear HC; have HX := Lib.hid (HN0.out.below hb); clear hb HN0; have x0 := HX.out.2.1.cell (i := 0) rfl; have x1 := HX.out.2.1.cell (i := 1) rfl) | (go_at_call 6; refine (HD.out _ HX.out.2.2.2).mono ?_; rintro e w2 ⟨rfl, hb⟩; clear HD x0 x1; have HY := Lib.hid (HX.out.below hb); clear hb HX; have d0 := HY.out.2.2.1.cell (i := 0) rfl; have d1 := HY.out.2.2.1.cell (i := 1) rfl; have f0 := HY.out.2.2.1.frozen 0; have f1 := HY.out.2.2.1.frozen 1; have c0 := HY.out.1.cell (i := 0) rfl; have c1 := HY.out.1.cell (i := 1) rfl; have g0 := HY.out.2.1.cell (i := 0) rfl; have g1 := HY.out.2.1.cell (i := 1) rfl))
        refine named (fun V => Blk V (w.heap.size + 1 + 1) [.int .i64 0, .slice none 0 0] 24 ∧ Below w.heap.size w V) ⟨(HY.out.2.2.1.set_ 0 _).set_ 1 _, (HY.out.2.2.2.setCell (by show w.heap.size ≤ w.heap.size + 1 + 1; omega) _).setCell (by show w.heap.size ≤ w.heap.size + 1 + 1; omega) _⟩ ?_
        rintro V ⟨V1, V3⟩
        have e0 := V1.cell (i := 0) rfl
        have e1 := V1.cell (i := 1) rfl
        refine bodyPost_ret (v := .tuple #[.agg #[.int .i64 0, .slice none 0 0], .int .i64 1]) (by simp [results, Tryz.results9, go_sem, e0, e1]) rfl ?_
        exact gres_zero3 (b4 := 0) V3
      rw [if_pos hnn]
      have t1 : (n != n') = false := by simpa using hnn
      clear hnn
      by_cases hbig : 512 < G.length
      · rw [if_pos hbig]
        have t2 : decide ((512 : Int) < (G.length : Int)) = true := decide_eq_true (by omega)
        clear hbig
        go_enter Tryz.func9, Tryz.ntmps9
        go_wp2_with (first | (go_at_call 6; refine (HC.out _ HN0.out.2.2.2).mono ?_; rintro e w1 ⟨rfl, hb⟩; clear HC; have HX := Lib.hid (HN0.out.below hb); clear hb HN0; have x0 := HX.out.2.1.cell (i := 0) rfl; have x1 := HX.out.2.1.cell (i := 1) rfl) | (go_at_call 6; refine (HD.out _ HX.out.2.2.2).mono ?_; rintro e w2 ⟨rfl, hb⟩; clear HD x0 x1; have HY := Lib.hid (HX.out.below hb); clear hb HX; have c0 := HY.out.1.cell (i := 0) rfl; have c1 := HY.out.1.cell (i := 1) rfl; have g0 := HY.out.2.1.cell (i := 0) rfl; have g1 := HY.out.2.1.cell (i := 1) rfl) | (go_at_call 35; go_loud (refine (HM.out _ _ HY.out.2.2.2 HY.out.1).mono ?_; rintro e w3 ⟨a9, c9, rfl, hT, hb⟩; clear HM c0 c1 g0 g1; have HT := Lib.hid hT; have HZ := Lib.hid (HY.out.below hb); clear hb HY hT; have b4 : Below w3.heap.size w3 (w3.alloc (.cells #[.int .i64 n', .slice a9 F.length c9] 24)) := (Below.refl _ _).alloc (Nat.le_refl _) _; have c1 := (HZ.out.below b4).1.cell (i := 1) rfl; have u1 := (Blk.new w3 [.int .i64 n', .slice a9 F.length c9] 24).cell (i := 1) rfl; have bb : Below w3.heap.size w3 ((w3.alloc (.cells #[.int .i64 n', .slice a9 F.length c9] 24)).alloc (.cells #[.slice a m cap, .slice a9 F.length c9] 22)) := ((Below.refl _ _).alloc (Nat.le_refl _) _).alloc (by simp) _; have HZ5 := Lib.hid (HZ.out.below bb); have HT5 := Lib.hid (HT.out.1.below bb); have HK5 : Hid (Blk ((w3.alloc (.cells #[.int .i64 n', .slice a9 F.length c9] 24)).alloc (.cells #[.slice a m cap, .slice a9 F.length c9] 22)) (w3.heap.size + 1) [.slice a m cap, .slice a9 F.length c9] 22) := (by have := Blk.new (w3.alloc (.cells #[.int .i64 n', .slice a9 F.length c9] 24)) [.slice a m cap, .slice a9 F.length c9] 22; simpa [Hid] using this); clear bb b4 HZ)) | (go_at_call 38; refine (HCC.out _ _ a9 c9 HZ5.out.2.2.2 HT5.out HK5.out).mono ?_; rintro e w5 ⟨a8, c8, rfl, hT5, hb5⟩; clear HCC HT5 HK5 c1 u1; have HY := Lib.hid (HZ5.out.below hb5); have HT6 := Lib.hid hT5; have HLT : Hid (w.heap.size + 1 + 1 < ((w3.alloc (.cells #[.int .i64 n', .slice a9 F.length c9] 24)).alloc (.cells #[.slice a m cap, .slice a9 F.length c9] 22)).heap.size ∧ w.heap.size ≤ ((w3.alloc (.cells #[.int .i64 n', .slice a9 F.length c9] 24)).alloc (.cells #[.slice a m cap, .slice a9 F.length c9] 22)).heap.size) := ⟨HZ5.out.2.2.1.lt, HZ5.out.2.2.2.size⟩; clear hb5 hT5 HZ5; have d0 := HY.out.2.2.1.cell (i := 0) rfl; have d1 := HY.out.2.2.1.cell (i := 1) rfl; have f0 := HY.out.2.2.1.frozen 0; have f1 := HY.out.2.2.1.frozen 1))
        refine named (fun V => Blk V (w.heap.size + 1 + 1) [.int .i64 0, .slice none 0 0] 24 ∧ Below w.heap.size w V) ⟨(HY.out.2.2.1.set_ 0 _).set_ 1 _, (HY.out.2.2.2.setCell (by show w.heap.size ≤ w.heap.size + 1 + 1; omega) _).setCell (by show w.heap.size ≤ w.heap.size + 1 + 1; omega) _⟩ ?_
        rintro V ⟨V1, V3⟩
        have e0 := V1.cell (i := 0) rfl
        have e1 := V1.cell (i := 1) rfl
        refine bodyPost_ret (v := .tuple #[.agg #[.int .i64 0, .slice none 0 0], .int .i64 2]) (by simp [results, Tryz.results9, go_sem, e0, e1]) rfl ?_
        exact gres_zero3 (b4 := 0) V3
      · rw [if_neg hbig]
        have t2 : decide ((512 : Int) < (G.length : Int)) = false := decide_eq_false (by omega)
        clear hbig
        go_enter Tryz.func9, Tryz.ntmps9
        go_wp2_with (first | (go_at_call 6; refine (HC.out _ HN0.out.2.2.2).mono ?_; rintro e w1 ⟨rfl, hb⟩; clear HC; have HX := Lib.hid (HN0.out.below hb); clear hb HN0; have x0 := HX.out.2.1.cell (i := 0) rfl; have x1 := HX.out.2.1.cell (i := 1) rfl) | (go_at_call 6; refine (HD.out _ HX.out.2.2.2).mono ?_; rintro e w2 ⟨rfl, hb⟩; clear HD x0 x1; have HY := Lib.hid (HX.out.below hb); clear hb HX; have c0 := HY.out.1.cell (i := 0) rfl; have c1 := HY.out.1.cell (i := 1) rfl; have g0 := HY.out.2.1.cell (i := 0) rfl; have g1 := HY.out.2.1.cell (i := 1) rfl) | (go_at_call 35; go_loud (refine (HM.out _ _ HY.out.2.2.2 HY.out.1).mono ?_; rintro e w3 ⟨a9, c9, rfl, hT, hb⟩; clear HM c0 c1 g0 g1; have HT := Lib.hid hT; have HZ := Lib.hid (HY.out.below hb); clear hb HY hT; have b4 : Below w3.heap.size w3 (w3.alloc (.cells #[.int .i64 n', .slice a9 F.length c9] 24)) := (Below.refl _ _).alloc (Nat.le_refl _) _; have c1 := (HZ.out.below b4).1.cell (i := 1) rfl; have u1 := (Blk.new w3 [.int .i64 n', .slice a9 F.length c9] 24).cell (i := 1) rfl; have bb : Below w3.heap.size w3 ((w3.alloc (.cells #[.int .i64 n', .slice a9 F.length c9] 24)).alloc (.cells #[.slice a m cap, .slice a9 F.length c9] 22)) := ((Below.refl _ _).alloc (Nat.le_refl _) _).alloc (by simp) _; have HZ5 := Lib.hid (HZ.out.below bb); have HT5 := Lib.hid (HT.out.1.below bb); have HK5 : Hid (Blk ((w3.alloc (.cells #[.int .i64 n', .slice a9 F.length c9] 24)).alloc (.cells #[.slice a m cap, .slice a9 F.length c9] 22)) (w3.heap.size + 1) [.slice a m cap, .slice a9 F.length c9] 22) := (by have := Blk.new (w3.alloc (.cells #[.int .i64 n', .slice a9 F.length c9] 24)) [.slice a m cap, .slice a9 F.length c9] 22; simpa [Hid] using this); clear bb b4 HZ)) | (go_at_call 38; refine (HCC.out _ _ a9 c9 HZ5.out.2.2.2 HT5.out HK5.out).mono ?_; rintro e w5 ⟨a8, c8, rfl, hT5, hb5⟩; clear HCC HT5 HK5 c1 u1; have HY := Lib.hid (HZ5.out.below hb5); have HT6 := Lib.hid hT5; have HLT : Hid (w.heap.size + 1 + 1 < ((w3.alloc (.cells #[.int .i64 n', .slice a9 F.length c9] 24)).alloc (.cells #[.slice a m cap, .slice a9 F.length c9] 22)).heap.size ∧ w.heap.size ≤ ((w3.alloc (.cells #[.int .i64 n', .slice a9 F.length c9] 24)).alloc (.cells #[.slice a m cap, .slice a9 F.length c9] 22)).heap.size) := ⟨HZ5.out.2.2.1.lt, HZ5.out.2.2.2.size⟩; clear hb5 hT5 HZ5; have d0 := HY.out.2.2.1.cell (i := 0) rfl; have d1 := HY.out.2.2.1.cell (i := 1) rfl; have f0 := HY.out.2.2.1.frozen 0; have f1 := HY.out.2.2.1.frozen 1; have c0 := HY.out.1.cell (i := 0) rfl))
        refine named (fun V => Blk V (w.heap.size + 1 + 1) [.int .i64 n, .slice a8 G.length c8] 24 ∧ TiesNew w.heap.size V a8 G ∧ Below w.heap.size w V) ?_ ?_
        · have o1 : Only (w.heap.size + 1 + 1) w5 ((w5.setCell ⟨w.heap.size + 1 + 1, 0, none⟩ (.int .i64 n)).setCell ⟨w.heap.size + 1 + 1, 1, none⟩ (.slice a8 G.length c8)) := ((Only.refl _ w5).set_ 0 _).set_ 1 _
          exact ⟨(HY.out.2.2.1.set_ 0 _).set_ 1 _, (HT6.out.only o1 HLT.out.1).mono HLT.out.2, (HY.out.2.2.2.setCell (by show w.heap.size ≤ w.heap.size + 1 + 1; omega) _).setCell (by show w.heap.size ≤ w.heap.size + 1 + 1; omega) _⟩
        rintro V ⟨V1, V2, V3⟩
        have e0 := V1.cell (i := 0) rfl
        have e1 := V1.cell (i := 1) rfl
        refine bodyPost_ret (v := .tuple #[.agg #[.int .i64 n, .slice a8 G.length c8], .int .i64 0]) (by simp [results, Tryz.results9, go_sem, e0, e1]) rfl ?_
        exact ⟨a8, c8, rfl, V2, V3⟩
end Go.Proofs.YtklcbccfbiljjaaGreat
