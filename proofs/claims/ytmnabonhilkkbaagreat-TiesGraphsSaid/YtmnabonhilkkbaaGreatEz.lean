/- Layer 4: the law TiesGraphs. -/
import Derived.Test.YtmnabonhilkkbaaGreatEy
namespace Go.Proofs.YtmnabonhilkkbaaGreat
set_option linter.unusedSimpArgs false
set_option linter.unusedVariables false
open Go Go.RowKit

theorem addR_len (n : Int) (ts : List TieD) (t : TieD) : (addR n ts t).ts.length ≤ ts.length + 1 := by
  unfold addR
  split
  · split
    · split <;> simp
    · simp
  · simp
theorem strR_len (n : Int) (ts : List TieD) (s : Int) : (strR n ts s).ts.length ≤ ts.length := by
  unfold strR
  split
  · split
    · exact List.length_filter_le _ _
    · simp
  · simp
theorem wioR_len (n : Int) (ts : List TieD) (s : Int) : (wioR n ts s).ts.length ≤ ts.length := by
  unfold wioR
  split
  · split
    · exact List.length_filter_le _ _
    · simp
  · simp
theorem mrgR_len (n n' : Int) (ts us : List TieD) : (mrgR n ts n' us).ts.length ≤ 512 := by
  unfold mrgR
  split
  · split
    · split
      · split
        · simp
        · rename_i h; simpa using h
      · simp
    · simp
  · simp
theorem same_self (n : Int) (a b : Option Addr) (cap cap' : Nat) (ts : List TieD) (hl : ts.length ≤ 100000) (w : World) (hs : TiesAt w a ts) (ht : TiesAt w b ts) :
    Calls Tryz.prog 15 #[.agg #[.int .i64 n, .slice a ts.length cap], .agg #[.int .i64 n, .slice b ts.length cap']] w fun e w' => e = .returned (.bool true) ∧ Below w.heap.size w w' :=
  (rSameG_any n n a b cap cap' ts ts w hl hl hs ht).mono fun e w' ⟨he, hb⟩ => ⟨by rw [he]; simp [sameG], hb⟩
theorem eql_int_same (t : TypeId) (a : Int) (x y : Operand) (w : World) : (do eqGuard .eql t x y (.int .i64 a) (.int .i64 a); binOp .eql t (.int .i64 a) (.int .i64 a) : Sem Value).run Tryz.prog w = .ok (.bool true) w := eql_i64 t x y a a true (by simp) w
/-- A variable with a graph. -/
def GrA (W : World) (p : Nat) (n : Int) (a : Option Addr) (ts : List TieD) (c : Nat) : Prop := Blk W p [.int .i64 n, .slice a ts.length c] 24 ∧ TiesAt W a ts
theorem GrA.below {W W' : World} {p : Nat} {n : Int} {a : Option Addr} {ts : List TieD} {c : Nat} (h : GrA W p n a ts c) (hb : Below W.heap.size W W') : GrA W' p n a ts c := ⟨h.1.below hb, h.2.below hb⟩
theorem GrA.new (w : World) (n : Int) (a : Option Addr) (ts : List TieD) (c : Nat) (h : TiesAt w a ts) : GrA (w.alloc (.cells #[.int .i64 n, .slice a ts.length c] 24)) w.heap.size n a ts c :=
  ⟨Blk.new w _ _, h.below ((Below.refl _ _).alloc (Nat.le_refl _) _)⟩
def LB (w W : World) (g h : List Value) (t : TieD) : Prop := Blk W w.heap.size g 24 ∧ Blk W (w.heap.size + 1) h 24 ∧ Blk W (w.heap.size + 1 + 1) (tvC t) 26 ∧ Below w.heap.size w W
theorem LB.below {w W W' : World} {g h : List Value} {t : TieD} (k : LB w W g h t) (hb : Below W.heap.size W W') : LB w W' g h t := ⟨k.1.below hb, k.2.1.below hb, k.2.2.1.below hb, k.2.2.2.trans (hb.mono k.2.2.2.size)⟩
theorem LB.new (w : World) (n n' : Int) (a b : Option Addr) (m q cap cap' : Nat) (t : TieD) : LB w (((w.alloc (.cells #[.int .i64 n, .slice a m cap] 24)).alloc (.cells #[.int .i64 n', .slice b q cap'] 24)).alloc (.cells #[.int .i64 t.a, .int .i64 t.b, .int .i64 t.kind, .int .i64 t.str, .int .i64 t.src] 26)) [.int .i64 n, .slice a m cap] [.int .i64 n', .slice b q cap'] t := by
  have b1 := Blk.new w [.int .i64 n, .slice a m cap] 24
  have b2 := Blk.new (w.alloc (.cells #[.int .i64 n, .slice a m cap] 24)) [.int .i64 n', .slice b q cap'] 24
  have b3 := Blk.new ((w.alloc (.cells #[.int .i64 n, .slice a m cap] 24)).alloc (.cells #[.int .i64 n', .slice b q cap'] 24)) (tvC t) 26
  refine ⟨(b1.block (Below.heap_alloc _ _ _ (by simp))).block (Below.heap_alloc _ _ _ (by simp; omega)), ?_, ?_, (((Below.refl _ _).alloc (Nat.le_refl _) _).alloc (by simp) _).alloc (by simp; omega) _⟩
  · have := b2.block (Below.heap_alloc _ (.cells #[.int .i64 t.a, .int .i64 t.b, .int .i64 t.kind, .int .i64 t.str, .int .i64 t.src] 26) _ b2.lt)
    simpa using this
  · simpa [tvC] using b3
set_option maxRecDepth 100000 in
set_option maxHeartbeats 8000000 in
theorem tiesGraphs_any (n n' : Int) (a b : Option Addr) (cap cap' : Nat) (ts us : List TieD) (t : TieD) (s x : Int) (w : World) (hl : ts.length ≤ 9223372036854775807) (hl' : us.length ≤ 9223372036854775807) (hs : TiesAt w a ts) (ht : TiesAt w b us)
    (hsane : ∀ W, Calls Tryz.prog 4 #[] W fun e w' => e = .returned (.bool true) ∧ Below W.heap.size W w') :
    Calls Tryz.prog 3 #[gV n a ts.length cap, gV n' b us.length cap', tieV t, .int .i64 s, .int .i64 x] w fun e w' => e = .returned (.bool true) ∧ Below w.heap.size w w' := by
  have HSA := Lib.hid hsane
  have H0 : Hid (∀ W, Below w.heap.size w W → Calls Tryz.prog 5 #[gV n a ts.length cap, tieV t] W (GRes' (addR n ts t) W)) := fun W hb => tAdd_any t n a cap ts W hl (hs.below hb)
  have H1 : Hid (∀ W, Below w.heap.size w W → Calls Tryz.prog 6 #[gV n a ts.length cap, tieV t] W (GRes' (addR n ts t) W)) := fun W hb => rAdd_any keptOwn t n a cap ts W hl (hs.below hb)
  have H2 : Hid (∀ W, Below w.heap.size w W → Calls Tryz.prog 7 #[gV n a ts.length cap, .int .i64 s] W (GRes' (strR n ts s) W)) := fun W hb => Strong_any s n a cap ts W hl (hs.below hb)
  have H3 : Hid (∀ W, Below w.heap.size w W → Calls Tryz.prog 8 #[gV n a ts.length cap, .int .i64 s] W (GRes' (strR n ts s) W)) := fun W hb => rStrong_any keptOwn.ok s n a cap ts W hl (hs.below hb)
  have H4 : Hid (∀ W, Below w.heap.size w W → Calls Tryz.prog 9 #[gV n a ts.length cap, gV n' b us.length cap'] W (GRes' (mrgR n ts n' us) W)) := fun W hb => Merge_any n n' a b cap cap' ts us W hl hl' (hs.below hb) (ht.below hb)
  have H5 : Hid (∀ W, Below w.heap.size w W → Calls Tryz.prog 10 #[gV n a ts.length cap, gV n' b us.length cap'] W (GRes' (mrgR n ts n' us) W)) := fun W hb => rMerge_any n n' a b cap cap' ts us W hl hl' (hs.below hb) (ht.below hb)
  have H6 : Hid (∀ W, Below w.heap.size w W → Calls Tryz.prog 11 #[gV n a ts.length cap, .int .i64 x] W (GRes' (wioR n ts x) W)) := fun W hb => Without_any x n a cap ts W hl (hs.below hb)
  have H7 : Hid (∀ W, Below w.heap.size w W → Calls Tryz.prog 12 #[gV n a ts.length cap, .int .i64 x] W (GRes' (wioR n ts x) W)) := fun W hb => rWithout_any keptOwn.ok x n a cap ts W hl (hs.below hb)
  have HCT : Hid (∀ W, Below w.heap.size w W → Calls Tryz.prog 13 #[gV n a ts.length cap] W fun e w' => e = .returned (.int .i64 (errG n ts)) ∧ Below W.heap.size W w') := fun W hb => tCheck_any n a cap ts W hl (hs.below hb)
  have HCR : Hid (∀ W, Below w.heap.size w W → Calls Tryz.prog 14 #[gV n a ts.length cap] W fun e w' => e = .returned (.int .i64 (errG n ts)) ∧ Below W.heap.size W w') := fun W hb => rCheck_any n a cap ts W hl (hs.below hb)
  have HLA := Lib.hid (addR_len n ts t)
  have HLS := Lib.hid (strR_len n ts s)
  have HLM := Lib.hid (mrgR_len n n' ts us)
  have HLW := Lib.hid (wioR_len n ts x)
  unfold GRes' at H0 H1 H2 H3 H4 H5 H6 H7
  unfold GRes at H0 H1 H2 H3 H4 H5 H6 H7
  generalize addR n ts t = RA at *
  generalize strR n ts s = RS at *
  generalize mrgR n ts n' us = RM at *
  generalize wioR n ts x = RW at *
  generalize errG n ts = E at *
  obtain ⟨An, Al, Ae⟩ := RA
  obtain ⟨Sn, Sl, Se⟩ := RS
  obtain ⟨Mn, Ml, Me⟩ := RM
  obtain ⟨Wn, Wl, We⟩ := RW
  simp only at H0 H1 H2 H3 H4 H5 H6 H7 HLA HLS HLM HLW
  obtain ⟨m, hm⟩ : ∃ m, m = ts.length := ⟨_, rfl⟩
  rw [← hm] at hl H0 H1 H2 H3 H4 H5 H6 H7 HCT HCR HLA HLS HLW ⊢
  obtain ⟨q, hq⟩ : ∃ q, q = us.length := ⟨_, rfl⟩
  rw [← hq] at hl' H4 H5 ⊢
  have HN0 := Lib.hid (LB.new w n n' a b m q cap cap' t)
  obtain ⟨ya, yb, yk, ys, yr⟩ := t
  simp only [gV, tieV] at H0 H1 H2 H3 H4 H5 H6 H7 HCT HCR HN0 ⊢
  clear hsane hm hq hs ht
  have HNB := Lib.hid HN0.out.2.2.2
  by_cases hm5 : 520 < m
  · have t1 : decide ((520 : Int) < (m : Int)) = true := decide_eq_true (by omega)
    have t2 : decide (520 < m) = true := decide_eq_true hm5
    clear hm5 H0 H1 H2 H3 H4 H5 H6 H7 HCT HCR HLA HLS HLM HLW
    go_enter Tryz.func3, Tryz.ntmps3
    go_wp2_with (first | (go_at_call 4; refine (HSA.out _).mono ?_; rintro e w0 ⟨rfl, hb⟩; clear HSA; have FB := Lib.hid (HN0.out.below hb); clear hb HN0 HNB; have c1 := FB.out.1.cell (i := 1) rfl; have d1 := FB.out.2.1.cell (i := 1) rfl))
    go_ret
    exact ⟨rfl, FB.out.2.2.2⟩
  have t1 : decide ((520 : Int) < (m : Int)) = false := decide_eq_false (by omega)
  have t2 : decide (520 < m) = false := decide_eq_false hm5
  by_cases hq5 : 520 < q
  · have t3 : decide ((520 : Int) < (q : Int)) = true := decide_eq_true (by omega)
    have t4 : decide (520 < q) = true := decide_eq_true hq5
    clear hm5 hq5 H0 H1 H2 H3 H4 H5 H6 H7 HCT HCR HLA HLS HLM HLW
    go_enter Tryz.func3, Tryz.ntmps3
    go_wp2_with (first | (go_at_call 4; refine (HSA.out _).mono ?_; rintro e w0 ⟨rfl, hb⟩; clear HSA; have FB := Lib.hid (HN0.out.below hb); clear hb HN0 HNB; have c1 := FB.out.1.cell (i := 1) rfl; have d1 := FB.out.2.1.cell (i := 1) rfl))
    go_ret
    exact ⟨rfl, FB.out.2.2.2⟩
  have t3 : decide ((520 : Int) < (q : Int)) = false := decide_eq_false (by omega)
  have t4 : decide (520 < q) = false := decide_eq_false hq5
  have HGA : Hid (∀ W a1 c1 a2 c2, TiesAt W a1 Al → TiesAt W a2 Al → Calls Tryz.prog 15 #[.agg #[.int .i64 An, .slice a1 Al.length c1], .agg #[.int .i64 An, .slice a2 Al.length c2]] W fun e w' => e = .returned (.bool true) ∧ Below W.heap.size W w') := fun W a1 c1 a2 c2 h1 h2 => same_self An a1 a2 c1 c2 Al (by have := HLA.out; omega) W h1 h2
  have HGS : Hid (∀ W a1 c1 a2 c2, TiesAt W a1 Sl → TiesAt W a2 Sl → Calls Tryz.prog 15 #[.agg #[.int .i64 Sn, .slice a1 Sl.length c1], .agg #[.int .i64 Sn, .slice a2 Sl.length c2]] W fun e w' => e = .returned (.bool true) ∧ Below W.heap.size W w') := fun W a1 c1 a2 c2 h1 h2 => same_self Sn a1 a2 c1 c2 Sl (by have := HLS.out; omega) W h1 h2
  have HGM : Hid (∀ W a1 c1 a2 c2, TiesAt W a1 Ml → TiesAt W a2 Ml → Calls Tryz.prog 15 #[.agg #[.int .i64 Mn, .slice a1 Ml.length c1], .agg #[.int .i64 Mn, .slice a2 Ml.length c2]] W fun e w' => e = .returned (.bool true) ∧ Below W.heap.size W w') := fun W a1 c1 a2 c2 h1 h2 => same_self Mn a1 a2 c1 c2 Ml (by have := HLM.out; omega) W h1 h2
  have HGW : Hid (∀ W a1 c1 a2 c2, TiesAt W a1 Wl → TiesAt W a2 Wl → Calls Tryz.prog 15 #[.agg #[.int .i64 Wn, .slice a1 Wl.length c1], .agg #[.int .i64 Wn, .slice a2 Wl.length c2]] W fun e w' => e = .returned (.bool true) ∧ Below W.heap.size W w') := fun W a1 c1 a2 c2 h1 h2 => same_self Wn a1 a2 c1 c2 Wl (by have := HLW.out; omega) W h1 h2
  clear hm5 hq5 HLA HLS HLM HLW hl hl'
  go_enter Tryz.func3, Tryz.ntmps3
  go_upto_region 5 with (first | (go_at_call 4; refine (HSA.out _).mono ?_; rintro e w0 ⟨rfl, hb⟩; clear HSA; have FB := Lib.hid (HN0.out.below hb); clear hb HN0 HNB; have c1 := FB.out.1.cell (i := 1) rfl; have d1 := FB.out.2.1.cell (i := 1) rfl))
  clear c1 d1 t1 t2 t3 t4
  have c0 := FB.out.1.cell (i := 0) rfl
  have c1 := FB.out.1.cell (i := 1) rfl
  have y0 := FB.out.2.2.1.cell (i := 0) rfl
  have y1 := FB.out.2.2.1.cell (i := 1) rfl
  have y2 := FB.out.2.2.1.cell (i := 2) rfl
  have y3 := FB.out.2.2.1.cell (i := 3) rfl
  have y4 := FB.out.2.2.1.cell (i := 4) rfl
  go_upto_region 6 with (first | (go_at_call 5; refine (H0.out _ FB.out.2.2.2).mono ?_; rintro e w1 ⟨a11, k11, rfl, hT, hb⟩; clear H0; have HT := Lib.hid hT.1; have HBB := Lib.hid hb; clear hT hb))
  refine named (fun V => Hid (Below w0.heap.size w0 V) ∧ Hid (GrA V w1.heap.size An a11 Al k11)) ⟨HBB.out.alloc HBB.out.size _, GrA.new _ _ _ _ _ HT.out⟩ ?_
  rintro V1 ⟨HB, F11⟩
  generalize hp : w1.heap.size = p11 at F11 ⊢
  clear hp HT HBB c0 c1 y0 y1 y2 y3 y4
  replace FB := Lib.hid (FB.out.below HB.out)
  clear HB
  have c0 := FB.out.1.cell (i := 0) rfl
  have c1 := FB.out.1.cell (i := 1) rfl
  have y0 := FB.out.2.2.1.cell (i := 0) rfl
  have y1 := FB.out.2.2.1.cell (i := 1) rfl
  have y2 := FB.out.2.2.1.cell (i := 2) rfl
  have y3 := FB.out.2.2.1.cell (i := 3) rfl
  have y4 := FB.out.2.2.1.cell (i := 4) rfl
  go_upto_region 7 with (first | (go_at_call 6; refine (H1.out _ FB.out.2.2.2).mono ?_; rintro e w1 ⟨a13, k13, rfl, hT, hb⟩; clear H1; have HT := Lib.hid hT.1; have HBB := Lib.hid hb; clear hT hb))
  refine named (fun V => Hid (Below V1.heap.size V1 V) ∧ Hid (GrA V w1.heap.size An a13 Al k13)) ⟨HBB.out.alloc HBB.out.size _, GrA.new _ _ _ _ _ HT.out⟩ ?_
  rintro V2 ⟨HB, F13⟩
  generalize hp : w1.heap.size = p13 at F13 ⊢
  clear hp HT HBB c0 c1 y0 y1 y2 y3 y4
  replace FB := Lib.hid (FB.out.below HB.out)
  replace F11 := Lib.hid (F11.out.below HB.out)
  clear HB
  have c0 := FB.out.1.cell (i := 0) rfl
  have c1 := FB.out.1.cell (i := 1) rfl
  go_upto_region 8 with (first | (go_at_call 7; refine (H2.out _ FB.out.2.2.2).mono ?_; rintro e w1 ⟨a15, k15, rfl, hT, hb⟩; clear H2; have HT := Lib.hid hT.1; have HBB := Lib.hid hb; clear hT hb))
  refine named (fun V => Hid (Below V2.heap.size V2 V) ∧ Hid (GrA V w1.heap.size Sn a15 Sl k15)) ⟨HBB.out.alloc HBB.out.size _, GrA.new _ _ _ _ _ HT.out⟩ ?_
  rintro V3 ⟨HB, F15⟩
  generalize hp : w1.heap.size = p15 at F15 ⊢
  clear hp HT HBB c0 c1
  replace FB := Lib.hid (FB.out.below HB.out)
  replace F11 := Lib.hid (F11.out.below HB.out)
  replace F13 := Lib.hid (F13.out.below HB.out)
  clear HB
  have c0 := FB.out.1.cell (i := 0) rfl
  have c1 := FB.out.1.cell (i := 1) rfl
  go_upto_region 9 with (first | (go_at_call 8; refine (H3.out _ FB.out.2.2.2).mono ?_; rintro e w1 ⟨a17, k17, rfl, hT, hb⟩; clear H3; have HT := Lib.hid hT.1; have HBB := Lib.hid hb; clear hT hb))
  refine named (fun V => Hid (Below V3.heap.size V3 V) ∧ Hid (GrA V w1.heap.size Sn a17 Sl k17)) ⟨HBB.out.alloc HBB.out.size _, GrA.new _ _ _ _ _ HT.out⟩ ?_
  rintro V4 ⟨HB, F17⟩
  generalize hp : w1.heap.size = p17 at F17 ⊢
  clear hp HT HBB c0 c1
  replace FB := Lib.hid (FB.out.below HB.out)
  replace F11 := Lib.hid (F11.out.below HB.out)
  replace F13 := Lib.hid (F13.out.below HB.out)
  replace F15 := Lib.hid (F15.out.below HB.out)
  clear HB
  have c0 := FB.out.1.cell (i := 0) rfl
  have c1 := FB.out.1.cell (i := 1) rfl
  have d0 := FB.out.2.1.cell (i := 0) rfl
  have d1 := FB.out.2.1.cell (i := 1) rfl
  go_upto_region 10 with (first | (go_at_call 9; refine (H4.out _ FB.out.2.2.2).mono ?_; rintro e w1 ⟨a19, k19, rfl, hT, hb⟩; clear H4; have HT := Lib.hid hT.1; have HBB := Lib.hid hb; clear hT hb))
  refine named (fun V => Hid (Below V4.heap.size V4 V) ∧ Hid (GrA V w1.heap.size Mn a19 Ml k19)) ⟨HBB.out.alloc HBB.out.size _, GrA.new _ _ _ _ _ HT.out⟩ ?_
  rintro V5 ⟨HB, F19⟩
  generalize hp : w1.heap.size = p19 at F19 ⊢
  clear hp HT HBB c0 c1 d0 d1
  replace FB := Lib.hid (FB.out.below HB.out)
  replace F11 := Lib.hid (F11.out.below HB.out)
  replace F13 := Lib.hid (F13.out.below HB.out)
  replace F15 := Lib.hid (F15.out.below HB.out)
  replace F17 := Lib.hid (F17.out.below HB.out)
  clear HB
  have c0 := FB.out.1.cell (i := 0) rfl
  have c1 := FB.out.1.cell (i := 1) rfl
  have d0 := FB.out.2.1.cell (i := 0) rfl
  have d1 := FB.out.2.1.cell (i := 1) rfl
  go_upto_region 11 with (first | (go_at_call 10; refine (H5.out _ FB.out.2.2.2).mono ?_; rintro e w1 ⟨a21, k21, rfl, hT, hb⟩; clear H5; have HT := Lib.hid hT.1; have HBB := Lib.hid hb; clear hT hb))
  refine named (fun V => Hid (Below V5.heap.size V5 V) ∧ Hid (GrA V w1.heap.size Mn a21 Ml k21)) ⟨HBB.out.alloc HBB.out.size _, GrA.new _ _ _ _ _ HT.out⟩ ?_
  rintro V6 ⟨HB, F21⟩
  generalize hp : w1.heap.size = p21 at F21 ⊢
  clear hp HT HBB c0 c1 d0 d1
  replace FB := Lib.hid (FB.out.below HB.out)
  replace F11 := Lib.hid (F11.out.below HB.out)
  replace F13 := Lib.hid (F13.out.below HB.out)
  replace F15 := Lib.hid (F15.out.below HB.out)
  replace F17 := Lib.hid (F17.out.below HB.out)
  replace F19 := Lib.hid (F19.out.below HB.out)
  clear HB
  have c0 := FB.out.1.cell (i := 0) rfl
  have c1 := FB.out.1.cell (i := 1) rfl
  go_upto_region 12 with (first | (go_at_call 11; refine (H6.out _ FB.out.2.2.2).mono ?_; rintro e w1 ⟨a23, k23, rfl, hT, hb⟩; clear H6; have HT := Lib.hid hT.1; have HBB := Lib.hid hb; clear hT hb))
  refine named (fun V => Hid (Below V6.heap.size V6 V) ∧ Hid (GrA V w1.heap.size Wn a23 Wl k23)) ⟨HBB.out.alloc HBB.out.size _, GrA.new _ _ _ _ _ HT.out⟩ ?_
  rintro V7 ⟨HB, F23⟩
  generalize hp : w1.heap.size = p23 at F23 ⊢
  clear hp HT HBB c0 c1
  replace FB := Lib.hid (FB.out.below HB.out)
  replace F11 := Lib.hid (F11.out.below HB.out)
  replace F13 := Lib.hid (F13.out.below HB.out)
  replace F15 := Lib.hid (F15.out.below HB.out)
  replace F17 := Lib.hid (F17.out.below HB.out)
  replace F19 := Lib.hid (F19.out.below HB.out)
  replace F21 := Lib.hid (F21.out.below HB.out)
  clear HB
  have c0 := FB.out.1.cell (i := 0) rfl
  have c1 := FB.out.1.cell (i := 1) rfl
  go_upto_region 13 with (first | (go_at_call 12; refine (H7.out _ FB.out.2.2.2).mono ?_; rintro e w1 ⟨a25, k25, rfl, hT, hb⟩; clear H7; have HT := Lib.hid hT.1; have HBB := Lib.hid hb; clear hT hb))
  refine named (fun V => Hid (Below V7.heap.size V7 V) ∧ Hid (GrA V w1.heap.size Wn a25 Wl k25)) ⟨HBB.out.alloc HBB.out.size _, GrA.new _ _ _ _ _ HT.out⟩ ?_
  rintro V8 ⟨HB, F25⟩
  generalize hp : w1.heap.size = p25 at F25 ⊢
  clear hp HT HBB c0 c1
  replace FB := Lib.hid (FB.out.below HB.out)
  replace F11 := Lib.hid (F11.out.below HB.out)
  replace F13 := Lib.hid (F13.out.below HB.out)
  replace F15 := Lib.hid (F15.out.below HB.out)
  replace F17 := Lib.hid (F17.out.below HB.out)
  replace F19 := Lib.hid (F19.out.below HB.out)
  replace F21 := Lib.hid (F21.out.below HB.out)
  replace F23 := Lib.hid (F23.out.below HB.out)
  clear HB
  have HOLD : Hid (∀ w1, (clOld V8.drew).C w1 → Below V8.heap.size V8 w1) := fun w1 hC => old_end (Below.refl _ _) hC (Nat.le_refl _)
  refine wp_region_old 45 132 (by kernel_rfl) (by kernel_rfl) (by rfl) ?_
  simp only [List.take_succ_cons, List.take_zero, List.drop_succ_cons, List.drop_zero, List.drop_nil]
  refine chain_load (.agg #[.int .i64 n, .slice a m cap]) _ _ _ (fun _ _ => Below.refl _ _) rfl rfl (by kernel_rfl) (by kernel_rfl) rfl (fun w1 hC => load_g ((FB.out.1.below (HOLD.out w1 hC)).cell rfl) ((FB.out.1.below (HOLD.out w1 hC)).cell rfl)) ?_
  refine chain_call (.int .i64 E) 13 [.agg #[.int .i64 n, .slice a m cap]] _ _ (enters_of Tryz.func13 (by kernel_rfl) rfl) rfl rfl rfl (by kernel_rfl) (by kernel_rfl) rfl rfl (fun w1 hC => HCT.out w1 (FB.out.below (HOLD.out w1 hC)).2.2.2) ?_
  refine chain_load (.agg #[.int .i64 n, .slice a m cap]) _ _ _ (fun _ _ => Below.refl _ _) rfl rfl (by kernel_rfl) (by kernel_rfl) rfl (fun w1 hC => load_g ((FB.out.1.below (HOLD.out w1 hC)).cell rfl) ((FB.out.1.below (HOLD.out w1 hC)).cell rfl)) ?_
  refine chain_call (.int .i64 E) 14 [.agg #[.int .i64 n, .slice a m cap]] _ _ (enters_of Tryz.func14 (by kernel_rfl) rfl) rfl rfl rfl (by kernel_rfl) (by kernel_rfl) rfl rfl (fun w1 hC => HCR.out w1 (FB.out.below (HOLD.out w1 hC)).2.2.2) ?_
  refine chain_bin (.bool true) _ _ _ _ _ (.int .i64 E) (.int .i64 E) (fun _ _ => Below.refl _ _) rfl rfl (by kernel_rfl) (by kernel_rfl) rfl rfl (fun w => eql_int_same _ _ _ _ w) ?_
  refine chain_move (.bool true) _ (fun _ _ => Below.refl _ _) rfl rfl (by kernel_rfl) (by kernel_rfl) rfl ?_
  refine chain_load (.agg #[.int .i64 An, .slice a11 Al.length k11]) _ _ _ (fun _ _ => Below.refl _ _) rfl rfl (by kernel_rfl) (by kernel_rfl) rfl (fun w1 hC => load_g ((F11.out.below (HOLD.out w1 hC)).1.cell rfl) ((F11.out.below (HOLD.out w1 hC)).1.cell rfl)) ?_
  refine chain_load (.agg #[.int .i64 An, .slice a13 Al.length k13]) _ _ _ (fun _ _ => Below.refl _ _) rfl rfl (by kernel_rfl) (by kernel_rfl) rfl (fun w1 hC => load_g ((F13.out.below (HOLD.out w1 hC)).1.cell rfl) ((F13.out.below (HOLD.out w1 hC)).1.cell rfl)) ?_
  refine chain_call (.bool true) 15 [.agg #[.int .i64 An, .slice a11 Al.length k11], .agg #[.int .i64 An, .slice a13 Al.length k13]] _ _ (enters_of Tryz.func15 (by kernel_rfl) rfl) rfl rfl rfl (by kernel_rfl) (by kernel_rfl) rfl rfl (fun w1 hC => HGA.out w1 a11 k11 a13 k13 (F11.out.below (HOLD.out w1 hC)).2 (F13.out.below (HOLD.out w1 hC)).2) ?_
  refine chain_pick (.bool true) _ _ _ true (fun _ _ => Below.refl _ _) rfl rfl (by kernel_rfl) (by kernel_rfl) rfl rfl ?_
  refine chain_move (.bool true) _ (fun _ _ => Below.refl _ _) rfl rfl (by kernel_rfl) (by kernel_rfl) rfl ?_
  refine chain_move (.int .i64 Ae) _ (fun _ _ => Below.refl _ _) rfl rfl (by kernel_rfl) (by kernel_rfl) rfl ?_
  refine chain_move (.int .i64 Ae) _ (fun _ _ => Below.refl _ _) rfl rfl (by kernel_rfl) (by kernel_rfl) rfl ?_
  refine chain_bin (.bool true) _ _ _ _ _ (.int .i64 Ae) (.int .i64 Ae) (fun _ _ => Below.refl _ _) rfl rfl (by kernel_rfl) (by kernel_rfl) rfl rfl (fun w => eql_int_same _ _ _ _ w) ?_
  refine chain_pick (.bool true) _ _ _ true (fun _ _ => Below.refl _ _) rfl rfl (by kernel_rfl) (by kernel_rfl) rfl rfl ?_
  refine chain_move (.bool true) _ (fun _ _ => Below.refl _ _) rfl rfl (by kernel_rfl) (by kernel_rfl) rfl ?_
  refine chain_load (.agg #[.int .i64 Sn, .slice a15 Sl.length k15]) _ _ _ (fun _ _ => Below.refl _ _) rfl rfl (by kernel_rfl) (by kernel_rfl) rfl (fun w1 hC => load_g ((F15.out.below (HOLD.out w1 hC)).1.cell rfl) ((F15.out.below (HOLD.out w1 hC)).1.cell rfl)) ?_
  refine chain_load (.agg #[.int .i64 Sn, .slice a17 Sl.length k17]) _ _ _ (fun _ _ => Below.refl _ _) rfl rfl (by kernel_rfl) (by kernel_rfl) rfl (fun w1 hC => load_g ((F17.out.below (HOLD.out w1 hC)).1.cell rfl) ((F17.out.below (HOLD.out w1 hC)).1.cell rfl)) ?_
  refine chain_call (.bool true) 15 [.agg #[.int .i64 Sn, .slice a15 Sl.length k15], .agg #[.int .i64 Sn, .slice a17 Sl.length k17]] _ _ (enters_of Tryz.func15 (by kernel_rfl) rfl) rfl rfl rfl (by kernel_rfl) (by kernel_rfl) rfl rfl (fun w1 hC => HGS.out w1 a15 k15 a17 k17 (F15.out.below (HOLD.out w1 hC)).2 (F17.out.below (HOLD.out w1 hC)).2) ?_
  refine chain_pick (.bool true) _ _ _ true (fun _ _ => Below.refl _ _) rfl rfl (by kernel_rfl) (by kernel_rfl) rfl rfl ?_
  refine chain_move (.bool true) _ (fun _ _ => Below.refl _ _) rfl rfl (by kernel_rfl) (by kernel_rfl) rfl ?_
  refine chain_move (.int .i64 Se) _ (fun _ _ => Below.refl _ _) rfl rfl (by kernel_rfl) (by kernel_rfl) rfl ?_
  refine chain_move (.int .i64 Se) _ (fun _ _ => Below.refl _ _) rfl rfl (by kernel_rfl) (by kernel_rfl) rfl ?_
  refine chain_bin (.bool true) _ _ _ _ _ (.int .i64 Se) (.int .i64 Se) (fun _ _ => Below.refl _ _) rfl rfl (by kernel_rfl) (by kernel_rfl) rfl rfl (fun w => eql_int_same _ _ _ _ w) ?_
  refine chain_pick (.bool true) _ _ _ true (fun _ _ => Below.refl _ _) rfl rfl (by kernel_rfl) (by kernel_rfl) rfl rfl ?_
  refine chain_move (.bool true) _ (fun _ _ => Below.refl _ _) rfl rfl (by kernel_rfl) (by kernel_rfl) rfl ?_
  refine chain_load (.agg #[.int .i64 Mn, .slice a19 Ml.length k19]) _ _ _ (fun _ _ => Below.refl _ _) rfl rfl (by kernel_rfl) (by kernel_rfl) rfl (fun w1 hC => load_g ((F19.out.below (HOLD.out w1 hC)).1.cell rfl) ((F19.out.below (HOLD.out w1 hC)).1.cell rfl)) ?_
  refine chain_load (.agg #[.int .i64 Mn, .slice a21 Ml.length k21]) _ _ _ (fun _ _ => Below.refl _ _) rfl rfl (by kernel_rfl) (by kernel_rfl) rfl (fun w1 hC => load_g ((F21.out.below (HOLD.out w1 hC)).1.cell rfl) ((F21.out.below (HOLD.out w1 hC)).1.cell rfl)) ?_
  refine chain_call (.bool true) 15 [.agg #[.int .i64 Mn, .slice a19 Ml.length k19], .agg #[.int .i64 Mn, .slice a21 Ml.length k21]] _ _ (enters_of Tryz.func15 (by kernel_rfl) rfl) rfl rfl rfl (by kernel_rfl) (by kernel_rfl) rfl rfl (fun w1 hC => HGM.out w1 a19 k19 a21 k21 (F19.out.below (HOLD.out w1 hC)).2 (F21.out.below (HOLD.out w1 hC)).2) ?_
  refine chain_pick (.bool true) _ _ _ true (fun _ _ => Below.refl _ _) rfl rfl (by kernel_rfl) (by kernel_rfl) rfl rfl ?_
  refine chain_move (.bool true) _ (fun _ _ => Below.refl _ _) rfl rfl (by kernel_rfl) (by kernel_rfl) rfl ?_
  refine chain_move (.int .i64 Me) _ (fun _ _ => Below.refl _ _) rfl rfl (by kernel_rfl) (by kernel_rfl) rfl ?_
  refine chain_move (.int .i64 Me) _ (fun _ _ => Below.refl _ _) rfl rfl (by kernel_rfl) (by kernel_rfl) rfl ?_
  refine chain_bin (.bool true) _ _ _ _ _ (.int .i64 Me) (.int .i64 Me) (fun _ _ => Below.refl _ _) rfl rfl (by kernel_rfl) (by kernel_rfl) rfl rfl (fun w => eql_int_same _ _ _ _ w) ?_
  refine chain_pick (.bool true) _ _ _ true (fun _ _ => Below.refl _ _) rfl rfl (by kernel_rfl) (by kernel_rfl) rfl rfl ?_
  refine chain_move (.bool true) _ (fun _ _ => Below.refl _ _) rfl rfl (by kernel_rfl) (by kernel_rfl) rfl ?_
  refine chain_load (.agg #[.int .i64 Wn, .slice a23 Wl.length k23]) _ _ _ (fun _ _ => Below.refl _ _) rfl rfl (by kernel_rfl) (by kernel_rfl) rfl (fun w1 hC => load_g ((F23.out.below (HOLD.out w1 hC)).1.cell rfl) ((F23.out.below (HOLD.out w1 hC)).1.cell rfl)) ?_
  refine chain_load (.agg #[.int .i64 Wn, .slice a25 Wl.length k25]) _ _ _ (fun _ _ => Below.refl _ _) rfl rfl (by kernel_rfl) (by kernel_rfl) rfl (fun w1 hC => load_g ((F25.out.below (HOLD.out w1 hC)).1.cell rfl) ((F25.out.below (HOLD.out w1 hC)).1.cell rfl)) ?_
  refine chain_call (.bool true) 15 [.agg #[.int .i64 Wn, .slice a23 Wl.length k23], .agg #[.int .i64 Wn, .slice a25 Wl.length k25]] _ _ (enters_of Tryz.func15 (by kernel_rfl) rfl) rfl rfl rfl (by kernel_rfl) (by kernel_rfl) rfl rfl (fun w1 hC => HGW.out w1 a23 k23 a25 k25 (F23.out.below (HOLD.out w1 hC)).2 (F25.out.below (HOLD.out w1 hC)).2) ?_
  refine chain_pick (.bool true) _ _ _ true (fun _ _ => Below.refl _ _) rfl rfl (by kernel_rfl) (by kernel_rfl) rfl rfl ?_
  refine chain_move (.bool true) _ (fun _ _ => Below.refl _ _) rfl rfl (by kernel_rfl) (by kernel_rfl) rfl ?_
  refine chain_move (.int .i64 We) _ (fun _ _ => Below.refl _ _) rfl rfl (by kernel_rfl) (by kernel_rfl) rfl ?_
  refine chain_move (.int .i64 We) _ (fun _ _ => Below.refl _ _) rfl rfl (by kernel_rfl) (by kernel_rfl) rfl ?_
  refine chain_bin (.bool true) _ _ _ _ _ (.int .i64 We) (.int .i64 We) (fun _ _ => Below.refl _ _) rfl rfl (by kernel_rfl) (by kernel_rfl) rfl rfl (fun w => eql_int_same _ _ _ _ w) ?_
  refine chain_pick (.bool true) _ _ _ true (fun _ _ => Below.refl _ _) rfl rfl (by kernel_rfl) (by kernel_rfl) rfl rfl ?_
  refine chain_end (by rfl) ?_
  intro xs w9 hCw9 hrew9
  simp only [layE, List.foldr_cons, List.foldr_nil, List.set_cons_succ, List.set_cons_zero]
  have HB9 : Hid (Below w.heap.size w w9) := (FB.out.below (HOLD.out w9 hCw9)).2.2.2
  clear hCw9 hrew9
  go_wp2_with fail
  go_ret
  exact ⟨rfl, HB9.out⟩
end Go.Proofs.YtmnabonhilkkbaaGreat
