/- Layer 4: the specification's Add, over kept. -/
import Derived.Test.YtmnabonhilkkbaaGreatEs
namespace Go.Proofs.YtmnabonhilkkbaaGreat
set_option linter.unusedSimpArgs false
set_option linter.unusedVariables false
open Go Go.RowKit

/-- A call of which one argument is known by a word, and whose result is known by a word. -/
theorem chain_call_use_re {P : Program} {ops : Array Oper} {C : Cl} {L : List Value} {K : Env → Prop} {o : Oper} {rest : List Oper} {E : Env} {d : Nat} (q2 : Word) (hq2 : lasts C q2) (k : Nat) (q : Word) (f : FuncId) (vs : Value → List Value) (xs : List Operand) (c : Call) (hf : Enters P f) (hd : o.dst = some d) (ho : o.op = .call c) (hc : c.callee = .value (.func f)) (hw : wantB ops o E L = true)
    (hq : lk E k = some (.re q)) (hl : (o.looksAt ops).contains k = true) (he : ∀ x, exB ops o ((k, .ex x) :: E) = true)
    (hxs : c.args = xs.toArray) (ha : ∀ x, xs.map (evE ((k, .ex x) :: E) L) = vs x) (h : ∀ x w, C.C w → q x w → Calls P f (vs x).toArray w fun e w' => ∃ u, e = .returned u ∧ C.R w w' ∧ q2 u w') (hk : chain P ops C L rest ((d, .re q2) :: E) K) : chain P ops C L (o :: rest) E K :=
  ⟨d, .re q2, hd, hq2, obl_re k q (fun cs b e => by rw [ho] at e; cases e) hw hq hl he fun x w hC hx => by
    rw [run_enter ho hc rfl hf, hxs, List.map_toArray, ha]
    exact h x w hC hx, hk⟩
/-- What kept does, its ties in a row of their own. -/
def KeptOwn : Prop := ∀ (p : TieD → Bool) (n : Int) (a : Option Addr) (cap g : Nat) (ts : List TieD) (w : World), ts.length ≤ 1000 → TiesAt w a ts → Blk w g (bvL (ts.map p)) 4 →
    Calls Tryz.prog 35 #[gV n a ts.length cap, .slice (some ⟨g, 0, none⟩) ts.length ts.length] w fun e w' => ∃ v, e = .returned (.agg #[.int .i64 n, v]) ∧ w'.ownsRow w.heap.size 26 5 v (ts.filter p).length (tvL (ts.filter p)) ∧ Below w.heap.size w w'
theorem KeptOwn.ok (h : KeptOwn) : KeptOk := fun p n a cap g ts w h1 h2 h3 => (h p n a cap g ts w h1 h2 h3).mono fun e w' ⟨v, he, ho, hb⟩ => by
  obtain ⟨a9, c9, rfl, _, hT⟩ := own_tiesN ho
  exact ⟨a9, c9, he, hT, hb⟩
def zvG : Value := .agg #[.int .i64 0, .slice none 0 0]
theorem zero_g : ∀ w, (zeroValue 24).run Tryz.prog w = .ok zvG w := fun w => by simp [go_sem, zvG]
def kptW (B : Nat) (n : Int) (m : Nat) (xs : List Value) : Word := fun u w => ∃ v, u = .agg #[.int .i64 n, v] ∧ w.ownsRow B 26 5 v m xs
theorem kptW_lasts {w0 : World} (B : Nat) (n : Int) (m : Nat) (xs : List Value) : lasts (clOld w0) (kptW B n m xs) := fun v w w' _ hR ⟨g, hv, h⟩ => ⟨g, hv, own_below h hR⟩
theorem own_mono {W : World} {B B' : Nat} {e : TypeId} {size : Nat} {v : Value} {n : Nat} {xs : List Value} (h : W.ownsRow B e size v n xs) (hb : B' ≤ B) : W.ownsRow B' e size v n xs :=
  ⟨h.1, h.2.imp id fun ⟨g, cap, cur, h1, h2, h3⟩ => ⟨g, cap, cur, h1, Nat.le_trans hb h2, h3⟩⟩
theorem own_ne {W : World} {B q n : Nat} {v : Value} {xs ys : List Value} (h : W.ownsRow B 26 5 v n xs) (hq : Blk W q ys 24) : v.ownBlock ≠ some q := fun e => by
  rcases h.2 with ⟨rfl, _⟩ | ⟨g, cap, cur, rfl, _, h3, _⟩
  · cases e
  · have e2 : g = q := by simpa [Value.ownBlock] using e
    subst e2
    unfold Blk at hq
    rw [hq] at h3
    injection h3 with h3
    injection h3 with _ h3
    exact absurd h3 (by decide)
theorem own_only {W W' : World} {B q n : Nat} {v : Value} {xs ys : List Value} (h : W.ownsRow B 26 5 v n xs) (hq : Blk W q ys 24) (ho : Only q W W') : W'.ownsRow B 26 5 v n xs := by
  have hne := own_ne h hq
  refine ⟨h.1, h.2.imp id fun ⟨g, cap, cur, h1, h2, h3, h4⟩ => ⟨g, cap, cur, h1, h2, (ho.1 g (Array.getElem?_eq_some_iff.1 h3).1 ?_).trans h3, h4⟩⟩
  rintro rfl
  rw [h1] at hne
  exact hne (by simp [Value.ownBlock])
def KA (w W : World) (g : List Value) (t : TieD) : Prop := Blk W w.heap.size g 24 ∧ Blk W (w.heap.size + 1) (tvC t) 26 ∧ Blk W (w.heap.size + 1 + 1) [.int .i64 0, .slice none 0 0] 24 ∧ Below w.heap.size w W
theorem KA.below {w W W' : World} {g : List Value} {t : TieD} (k : KA w W g t) (hb : Below W.heap.size W W') : KA w W' g t := ⟨k.1.below hb, k.2.1.below hb, k.2.2.1.below hb, k.2.2.2.trans (hb.mono k.2.2.2.size)⟩
theorem KA.new (w : World) (n : Int) (a : Option Addr) (m cap : Nat) (t : TieD) : KA w (((w.alloc (.cells #[.int .i64 n, .slice a m cap] 24)).alloc (.cells #[.int .i64 t.a, .int .i64 t.b, .int .i64 t.kind, .int .i64 t.str, .int .i64 t.src] 26)).alloc (.cells #[.int .i64 0, .slice none 0 0] 24)) [.int .i64 n, .slice a m cap] t := by
  have b1 := Blk.new w [.int .i64 n, .slice a m cap] 24
  have b2 := Blk.new (w.alloc (.cells #[.int .i64 n, .slice a m cap] 24)) (tvC t) 26
  have b3 := Blk.new ((w.alloc (.cells #[.int .i64 n, .slice a m cap] 24)).alloc (.cells #[.int .i64 t.a, .int .i64 t.b, .int .i64 t.kind, .int .i64 t.str, .int .i64 t.src] 26)) [.int .i64 0, .slice none 0 0] 24
  refine ⟨(b1.block (Below.heap_alloc _ _ _ (by simp))).block (Below.heap_alloc _ _ _ (by simp; omega)), ?_, ?_, (((Below.refl _ _).alloc (Nat.le_refl _) _).alloc (by simp) _).alloc (by simp; omega) _⟩
  · have := b2.block (Below.heap_alloc _ (.cells #[.int .i64 0, .slice none 0 0] 24) _ b2.lt)
    simpa [tvC] using this
  · simpa using b3
def addR (n : Int) (ts : List TieD) (t : TieD) : GR := if okG n ts then (if tieB t n then (if ts.length = 512 then ⟨0, [], 2⟩ else ⟨n, ts ++ [t], 0⟩) else ⟨0, [], 1⟩) else ⟨0, [], 40⟩
set_option maxRecDepth 100000 in
set_option maxHeartbeats 4000000 in
theorem rAdd_any (HKO : KeptOwn) (t : TieD) (n : Int) (a : Option Addr) (cap : Nat) (ts : List TieD) (w : World) (hl : ts.length ≤ 9223372036854775807) (hs : TiesAt w a ts) :
    Calls Tryz.prog 6 #[gV n a ts.length cap, tieV t] w (GRes' (addR n ts t) w) := by
  have HC : Hid (∀ W, Below w.heap.size w W → Calls Tryz.prog 14 #[gV n a ts.length cap] W fun e w' => e = .returned (.int .i64 (errG n ts)) ∧ Below W.heap.size W w') := fun W hb => rCheck_any n a cap ts W hl (hs.below hb)
  have HV : Hid (okG n ts = true → ∀ W, Calls Tryz.prog 34 #[tieV t, .int .i64 n] W fun e w' => e = .returned (.bool (tieB t n)) ∧ Below W.heap.size W w') := fun h W => rValid_any t n W (by unfold okG at h; simp only [Bool.and_eq_true] at h; have h1 := h.1.1; unfold ftB at h1; simpa using h1)
  unfold errG at HC
  unfold GRes' GRes addR
  obtain ⟨m, hm⟩ : ∃ m, m = ts.length := ⟨_, rfl⟩
  have HM := Lib.hid hm
  have HS := Lib.hid hs
  rw [← hm] at hl HC ⊢
  have HN0 := Lib.hid (KA.new w n a m cap t)
  obtain ⟨ya, yb, yk, ys, yr⟩ := t
  clear hm hs
  simp only [gV, tieV] at HC HV HN0 ⊢
  cases hok : okG n ts with
  | false =>
    rw [hok] at HC
    clear HV HKO hok
    simp only [Bool.false_eq_true, if_false] at HC ⊢
    go_enter Tryz.func6, Tryz.ntmps6
    go_wp2_with (first | (go_at_call 14; refine (HC.out _ HN0.out.2.2.2).mono ?_; rintro e w1 ⟨rfl, hb⟩; clear HC; have HY := Lib.hid (HN0.out.below hb); clear hb HN0; have d0 := HY.out.2.2.1.cell (i := 0) rfl; have d1 := HY.out.2.2.1.cell (i := 1) rfl; have f0 := HY.out.2.2.1.frozen 0; have f1 := HY.out.2.2.1.frozen 1))
    refine named (fun V => Blk V (w.heap.size + 1 + 1) [.int .i64 0, .slice none 0 0] 24 ∧ Below w.heap.size w V) ⟨(HY.out.2.2.1.set_ 0 _).set_ 1 _, (HY.out.2.2.2.setCell (by show w.heap.size ≤ w.heap.size + 1 + 1; omega) _).setCell (by show w.heap.size ≤ w.heap.size + 1 + 1; omega) _⟩ ?_
    rintro V ⟨V1, V3⟩
    have e0 := V1.cell (i := 0) rfl
    have e1 := V1.cell (i := 1) rfl
    refine bodyPost_ret (v := .tuple #[.agg #[.int .i64 0, .slice none 0 0], .int .i64 40]) (by simp [results, Tryz.results6, go_sem, e0, e1]) rfl ?_
    exact gres_zero3 (b4 := 0) V3
  | true =>
    rw [hok] at HC
    replace HV := Lib.hid (HV.out hok)
    have H512 : Hid (m ≤ 512) := by have := okG_len hok; have := HM.out; rw [Hid]; omega
    clear hok
    simp only [if_true] at HC ⊢
    cases htb : tieB ⟨ya, yb, yk, ys, yr⟩ n with
    | false =>
      rw [htb] at HV
      clear HKO htb
      simp only [Bool.false_eq_true, if_false]
      go_enter Tryz.func6, Tryz.ntmps6
      go_wp2_with (first | (go_at_call 14; refine (HC.out _ HN0.out.2.2.2).mono ?_; rintro e w1 ⟨rfl, hb⟩; clear HC; have HY := Lib.hid (HN0.out.below hb); clear hb HN0; have c0 := HY.out.1.cell (i := 0) rfl; have c1 := HY.out.1.cell (i := 1) rfl; have y0 := HY.out.2.1.cell (i := 0) rfl; have y1 := HY.out.2.1.cell (i := 1) rfl; have y2 := HY.out.2.1.cell (i := 2) rfl; have y3 := HY.out.2.1.cell (i := 3) rfl; have y4 := HY.out.2.1.cell (i := 4) rfl) | (go_at_call 34; refine (HV.out _).mono ?_; rintro e w2 ⟨rfl, hb⟩; clear HV c0 c1 y0 y1 y2 y3 y4; replace HY := Lib.hid (HY.out.below hb); clear hb; have c0 := HY.out.1.cell (i := 0) rfl; have c1 := HY.out.1.cell (i := 1) rfl; have d0 := HY.out.2.2.1.cell (i := 0) rfl; have d1 := HY.out.2.2.1.cell (i := 1) rfl; have f0 := HY.out.2.2.1.frozen 0; have f1 := HY.out.2.2.1.frozen 1))
      refine named (fun V => Blk V (w.heap.size + 1 + 1) [.int .i64 0, .slice none 0 0] 24 ∧ Below w.heap.size w V) ⟨(HY.out.2.2.1.set_ 0 _).set_ 1 _, (HY.out.2.2.2.setCell (by show w.heap.size ≤ w.heap.size + 1 + 1; omega) _).setCell (by show w.heap.size ≤ w.heap.size + 1 + 1; omega) _⟩ ?_
      rintro V ⟨V1, V3⟩
      have e0 := V1.cell (i := 0) rfl
      have e1 := V1.cell (i := 1) rfl
      refine bodyPost_ret (v := .tuple #[.agg #[.int .i64 0, .slice none 0 0], .int .i64 1]) (by simp [results, Tryz.results6, go_sem, e0, e1]) rfl ?_
      exact gres_zero3 (b4 := 0) V3
    | true =>
      rw [htb] at HV
      clear htb
      simp only [if_true]
      by_cases hbig : m = 512
      · rw [if_pos hbig]
        have t2 : ((m : Int) == 512) = true := by have : (m : Int) = 512 := by omega
                                                  simpa using this
        have t3 : (m == 512) = true := by simpa using hbig
        clear hbig HKO
        go_enter Tryz.func6, Tryz.ntmps6
        go_wp2_with (first | (go_at_call 14; refine (HC.out _ HN0.out.2.2.2).mono ?_; rintro e w1 ⟨rfl, hb⟩; clear HC; have HY := Lib.hid (HN0.out.below hb); clear hb HN0; have c0 := HY.out.1.cell (i := 0) rfl; have c1 := HY.out.1.cell (i := 1) rfl; have y0 := HY.out.2.1.cell (i := 0) rfl; have y1 := HY.out.2.1.cell (i := 1) rfl; have y2 := HY.out.2.1.cell (i := 2) rfl; have y3 := HY.out.2.1.cell (i := 3) rfl; have y4 := HY.out.2.1.cell (i := 4) rfl) | (go_at_call 34; refine (HV.out _).mono ?_; rintro e w2 ⟨rfl, hb⟩; clear HV c0 c1 y0 y1 y2 y3 y4; replace HY := Lib.hid (HY.out.below hb); clear hb; have c0 := HY.out.1.cell (i := 0) rfl; have c1 := HY.out.1.cell (i := 1) rfl; have d0 := HY.out.2.2.1.cell (i := 0) rfl; have d1 := HY.out.2.2.1.cell (i := 1) rfl; have f0 := HY.out.2.2.1.frozen 0; have f1 := HY.out.2.2.1.frozen 1))
        refine named (fun V => Blk V (w.heap.size + 1 + 1) [.int .i64 0, .slice none 0 0] 24 ∧ Below w.heap.size w V) ⟨(HY.out.2.2.1.set_ 0 _).set_ 1 _, (HY.out.2.2.2.setCell (by show w.heap.size ≤ w.heap.size + 1 + 1; omega) _).setCell (by show w.heap.size ≤ w.heap.size + 1 + 1; omega) _⟩ ?_
        rintro V ⟨V1, V3⟩
        have e0 := V1.cell (i := 0) rfl
        have e1 := V1.cell (i := 1) rfl
        refine bodyPost_ret (v := .tuple #[.agg #[.int .i64 0, .slice none 0 0], .int .i64 2]) (by simp [results, Tryz.results6, go_sem, e0, e1]) rfl ?_
        exact gres_zero3 (b4 := 0) V3
      · rw [if_neg hbig]
        have t2 : ((m : Int) == 512) = false := by
          have : ¬ (m : Int) = 512 := by omega
          simpa using this
        have t3 : (m == 512) = false := by simpa using hbig
        clear hbig
        have HAL : Hid (∀ W, Calls Tryz.prog 36 #[.agg #[.int .i64 n, .slice a m cap]] W fun e w' => ∃ g, e = .returned (.slice (some ⟨g, 0, none⟩) m m) ∧ Blk w' g (bvL (ts.map fun _ => true)) 4 ∧ W.heap.size ≤ g ∧ Below W.heap.size W w') := fun W => by
          have h1 := rAll_any n a cap ts W (by have := HM.out; have := H512.out; omega)
          rw [← HM.out] at h1
          have e1 : List.replicate m true = ts.map fun _ => true := by rw [HM.out, List.map_const']
          rw [e1] at h1; exact h1
        have HKP : Hid (∀ W g, Below w.heap.size w W → Blk W g (bvL (ts.map fun _ => true)) 4 → Calls Tryz.prog 35 #[.agg #[.int .i64 n, .slice a m cap], .slice (some ⟨g, 0, none⟩) m m] W fun e w' => ∃ v, e = .returned (.agg #[.int .i64 n, v]) ∧ w'.ownsRow W.heap.size 26 5 v m (tvL ts) ∧ Below W.heap.size W w') := fun W g hb hk => by
          have h1 := HKO (fun _ => true) n a cap g ts W (by have := HM.out; have := H512.out; omega) (HS.out.below hb) hk
          rw [← HM.out] at h1
          have e1 : ts.filter (fun _ => true) = ts := List.filter_eq_self.2 fun _ _ => rfl
          rw [e1, ← HM.out] at h1; exact h1
        clear HKO
        go_enter Tryz.func6, Tryz.ntmps6
        go_upto_region 7 with (first | (go_at_call 14; refine (HC.out _ HN0.out.2.2.2).mono ?_; rintro e w1 ⟨rfl, hb⟩; clear HC; have HY := Lib.hid (HN0.out.below hb); clear hb HN0; have c0 := HY.out.1.cell (i := 0) rfl; have c1 := HY.out.1.cell (i := 1) rfl; have y0 := HY.out.2.1.cell (i := 0) rfl; have y1 := HY.out.2.1.cell (i := 1) rfl; have y2 := HY.out.2.1.cell (i := 2) rfl; have y3 := HY.out.2.1.cell (i := 3) rfl; have y4 := HY.out.2.1.cell (i := 4) rfl) | (go_at_call 34; refine (HV.out _).mono ?_; rintro e w2 ⟨rfl, hb⟩; clear HV c0 c1 y0 y1 y2 y3 y4; replace HY := Lib.hid (HY.out.below hb); clear hb; have c0 := HY.out.1.cell (i := 0) rfl; have c1 := HY.out.1.cell (i := 1) rfl; have d0 := HY.out.2.2.1.cell (i := 0) rfl; have d1 := HY.out.2.2.1.cell (i := 1) rfl; have f0 := HY.out.2.2.1.frozen 0; have f1 := HY.out.2.2.1.frozen 1))
        have HX : Hid (∀ W, (clOld w2.drew).C W → KA w W [.int .i64 n, .slice a m cap] ⟨ya, yb, yk, ys, yr⟩) := fun W hC => HY.out.below (old_end (Below.refl _ _) hC (Nat.le_refl _))
        have HB2 : Hid (w.heap.size + 1 + 1 < w2.heap.size) := HY.out.2.2.1.lt
        clear c0 c1 d0 d1 f0 f1
        refine wp_region_old2 (Z := (fun e => if e = 24 then zvG else .bool false)) 5 33 [24] (by kernel_rfl) (by kernel_rfl) (by kernel_rfl) (by kernel_rfl) (by intro e he w; simp only [List.mem_cons, List.not_mem_nil, or_false] at he; rcases he with rfl <;> first | exact zero_g w) (by rfl) ?_
        simp only [List.take_succ_cons, List.take_zero, List.drop_succ_cons, List.drop_zero, List.drop_nil]
        refine chain_load (.agg #[.int .i64 n, .slice a m cap]) _ _ _ (fun _ _ => Below.refl _ _) rfl rfl (by kernel_rfl) (by kernel_rfl) rfl (fun w1 hC => load_g ((HX.out w1 hC).1.cell rfl) ((HX.out w1 hC).1.cell rfl)) ?_
        refine chain_load (.agg #[.int .i64 n, .slice a m cap]) _ _ _ (fun _ _ => Below.refl _ _) rfl rfl (by kernel_rfl) (by kernel_rfl) rfl (fun w1 hC => load_g ((HX.out w1 hC).1.cell rfl) ((HX.out w1 hC).1.cell rfl)) ?_
        refine chain_call_re (othW (bvL (ts.map fun _ => true)) m) 36 [.agg #[.int .i64 n, .slice a m cap]] _ _ (othW_lasts _ _) (enters_of Tryz.func36 (by kernel_rfl) rfl) rfl rfl rfl (by kernel_rfl) (by kernel_rfl) rfl rfl (fun w1 hC => (HAL.out w1).mono fun e w' ⟨g, he, hk, _, hb⟩ => ⟨_, he, hb, g, rfl, hk⟩) ?_
        refine chain_call_use_re (kptW w.heap.size n m (tvL ts)) (kptW_lasts _ _ _ _) 24 _ 35 (fun x => [.agg #[.int .i64 n, .slice a m cap], x]) _ _ (enters_of Tryz.func35 (by kernel_rfl) rfl) rfl rfl rfl (by kernel_rfl) rfl rfl (fun _ => rfl) rfl (fun _ => rfl) (fun x w1 hC ⟨g, hx, hk⟩ => by subst hx; exact (HKP.out w1 g (HX.out w1 hC).2.2.2 hk).mono fun e w' ⟨v, he, ho, hb⟩ => ⟨_, he, hb, v, rfl, own_mono ho (HX.out w1 hC).2.2.2.size⟩) ?_
        refine chain_alloc 24 zvG rfl rfl (by kernel_rfl) (by kernel_rfl) (fun w => zero_g w) ?_
        refine chain_end2 (by rfl) ?_
        intro xs w6 hCw6 hrew6 hNw6
        simp only [layE, List.foldr_cons, List.foldr_nil, List.set_cons_succ, List.set_cons_zero] at hNw6 ⊢
        obtain ⟨p4, hb4⟩ := hrew6 6 ptr_w rfl
        simp only [hb4] at hNw6 ⊢
        obtain ⟨bx4, hx4, hB4, hk4⟩ := hNw6.1 4 _ _ 6 (by decide) (by rfl) (by rfl) rfl rfl rfl
        obtain rfl : p4 = bx4 := by simpa using hx4
        clear hx4
        clear hNw6  hb4
        have HO : Hid (Below w2.heap.size w2 w6) := old_end (Below.refl _ _) hCw6 (Nat.le_refl _)
        obtain ⟨v, hu, ho⟩ := hrew6 25 _ rfl
        simp only [hu]
        obtain ⟨fa, fc, rfl⟩ := own_slice ho
        have hk4' : Blk w6 p4 [.int .i64 0, .slice none 0 0] 24 := hk4
        have HP := Lib.hid hk4'
        have HOW := Lib.hid ho
        have HY6 := Lib.hid (HX.out w6 hCw6)
        have HPB : Hid (w.heap.size + 1 + 1 < p4) := Nat.lt_of_lt_of_le HB2.out hB4
        have d0 := hk4'.cell (i := 0) rfl
        have d1 := hk4'.cell (i := 1) rfl
        have f0 := hk4'.frozen 0
        have f1 := hk4'.frozen 1
        clear hk4 hk4' ho hu hrew6 hCw6 hB4 HX HAL HKP HO
        go_upto_region 8 with (fail)
        refine named (fun V => Hid (Blk V p4 [.int .i64 n, .slice fa m fc] 24) ∧ Hid (V.ownsRow w.heap.size 26 5 (.slice fa m fc) m (tvL ts)) ∧ Hid (Blk V (w.heap.size + 1) (tvC ⟨ya, yb, yk, ys, yr⟩) 26) ∧ Hid (Blk V (w.heap.size + 1 + 1) [.int .i64 0, .slice none 0 0] 24) ∧ Hid (Below w.heap.size w V)) ?_ ?_
        · have o1 : Only p4 w6 ((w6.setCell ⟨p4, 0, none⟩ (.int .i64 n)).setCell ⟨p4, 1, none⟩ (.slice fa m fc)) := ((Only.refl _ w6).set_ 0 _).set_ 1 _
          have hp := HPB.out
          have hq : w.heap.size ≤ p4 := by omega
          exact ⟨(HP.out.set_ 0 _).set_ 1 _, own_only HOW.out HP.out o1, HY6.out.2.1.only o1 (by omega), HY6.out.2.2.1.only o1 (by omega), (HY6.out.2.2.2.setCell hq _).setCell hq _⟩
        clear HP HOW HY6 d0 d1 f0 f1 HY HB2
        rintro V ⟨VP, VO, VT, VZ, VB⟩
        have c1 := VP.out.cell (i := 1) rfl
        have y0 := VT.out.cell (i := 0) rfl
        have y1 := VT.out.cell (i := 1) rfl
        have y2 := VT.out.cell (i := 2) rfl
        have y3 := VT.out.cell (i := 3) rfl
        have y4 := VT.out.cell (i := 4) rfl
        obtain ⟨i0, hi0, hz0, hz1, hz2⟩ := info_parts infoT
        have HTA : Hid (TieAt (V.alloc (.cells #[.int .i64 ya, .int .i64 yb, .int .i64 yk, .int .i64 ys, .int .i64 yr] 26)) V.heap.size ⟨ya, yb, yk, ys, yr⟩) := TieAt.new V ⟨ya, yb, yk, ys, yr⟩ _
        go_upto_region 9 with (at_builtin; go_loud (refine wpList_append_own _ rfl _ _ 22 rfl w.heap.size 26 i0 (.agg #[.int .i64 0, .int .i64 0, .int .i64 0, .int .i64 0, .int .i64 0]) 5 40 Tryz.underlying22 hi0 hz0 hz1 hz2 rfl (by decide) (.slice fa m fc) m (tvL ts) rfl (VO.out.alloc _) ⟨V.heap.size, 0, none⟩ 1 1 (tvC ⟨ya, yb, yk, ys, yr⟩) rfl rfl (tie_cells HTA.out) (by simp [tvC, Value.oneCell']) (by have := H512.out; simp only [maxLen]; omega) (by have := H512.out; omega) (by have := VB.out.size; simp; omega) ?_; intro v2 w8 hown hgrow _; obtain ⟨f2, c2, rfl⟩ := own_slice hown; have KO := Lib.hid hown; have KP : Hid (Blk w8 p4 [.int .i64 n, .slice fa m fc] 24) := (VP.out.block (Below.heap_alloc _ _ _ VP.out.lt)).block (hgrow.block _ (by have := VP.out.lt; simp; omega) (fun e => own_ne VO.out VP.out e.symm)); have KZ : Hid (Blk w8 (w.heap.size + 1 + 1) [.int .i64 0, .slice none 0 0] 24) := (VZ.out.block (Below.heap_alloc _ _ _ VZ.out.lt)).block (hgrow.block _ (by have := VZ.out.lt; simp; omega) (fun e => own_ne VO.out VZ.out e.symm)); have KB : Hid (Below w.heap.size w w8) := (VB.out.alloc (by exact VB.out.size) _).grown hgrow (by have := VB.out.size; simp; omega) (fun q hq => (World.ownsRow.lt VO.out q hq).1); clear hown hgrow; have n1 := KP.out.cell (i := 1) rfl; have f1 := KP.out.frozen 1))
        refine named (fun V => Hid (Blk V p4 [.int .i64 n, .slice f2 (m + 1) c2] 24) ∧ Hid (V.ownsRow w.heap.size 26 5 (.slice f2 (m + 1) c2) (m + 1) (tvL ts ++ tvC ⟨ya, yb, yk, ys, yr⟩)) ∧ Hid (Blk V (w.heap.size + 1 + 1) [.int .i64 0, .slice none 0 0] 24) ∧ Hid (Below w.heap.size w V)) ?_ ?_
        · have o1 : Only p4 w8 (w8.setCell ⟨p4, 1, none⟩ (.slice f2 (m + 1) c2)) := (Only.refl _ w8).set_ 1 _
          have hp := HPB.out
          have hq : w.heap.size ≤ p4 := by omega
          exact ⟨KP.out.set_ 1 _, own_only KO.out KP.out o1, KZ.out.only o1 (by omega), KB.out.setCell hq _⟩
        clear KO KP KZ KB n1 f1 VP VO VT VZ VB c1 y0 y1 y2 y3 y4 HTA
        rintro V9 ⟨VP, VO, VZ, VB⟩
        have c0 := VP.out.cell (i := 0) rfl
        have c1 := VP.out.cell (i := 1) rfl
        have d0 := VZ.out.cell (i := 0) rfl
        have d1 := VZ.out.cell (i := 1) rfl
        have f0 := VZ.out.frozen 0
        have f1 := VZ.out.frozen 1
        go_wp2_with fail
        refine named (fun W => Blk W (w.heap.size + 1 + 1) [.int .i64 n, .slice f2 (m + 1) c2] 24 ∧ W.ownsRow w.heap.size 26 5 (.slice f2 (m + 1) c2) (m + 1) (tvL ts ++ tvC ⟨ya, yb, yk, ys, yr⟩) ∧ Below w.heap.size w W) ?_ ?_
        · have o1 : Only (w.heap.size + 1 + 1) V9 ((V9.setCell ⟨w.heap.size + 1 + 1, 0, none⟩ (.int .i64 n)).setCell ⟨w.heap.size + 1 + 1, 1, none⟩ (.slice f2 (m + 1) c2)) := ((Only.refl _ V9).set_ 0 _).set_ 1 _
          exact ⟨(VZ.out.set_ 0 _).set_ 1 _, own_only VO.out VZ.out o1, (VB.out.setCell (by show w.heap.size ≤ w.heap.size + 1 + 1; omega) _).setCell (by show w.heap.size ≤ w.heap.size + 1 + 1; omega) _⟩
        rintro W ⟨W1, W2, W3⟩
        have e0 := W1.cell (i := 0) rfl
        have e1 := W1.cell (i := 1) rfl
        refine bodyPost_ret (v := .tuple #[.agg #[.int .i64 n, .slice f2 (m + 1) c2], .int .i64 0]) (by simp [results, Tryz.results6, go_sem, e0, e1]) rfl ?_
        rw [← tvL_snoc] at W2
        obtain ⟨a8, c8, he8, _, hT⟩ := own_tiesN W2
        injection he8 with h1 h2 h3
        subst h1
        exact ⟨f2, c2, by rw [← h2], hT, W3⟩
end Go.Proofs.YtmnabonhilkkbaaGreat
