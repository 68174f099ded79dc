/- Layer 4: the law TiesFollows, where it speaks. / Layer 4: the law TiesFollows, for all arguments. -/
import Derived.Test.YtjcafjffmiknmaaGreatQz
import Derived.Deep.DeepCutAuto
/- Layer 4: the law TiesFollows, where it speaks. -/
namespace Go.Proofs.YtjcafjffmiknmaaGreat
set_option linter.unusedSimpArgs false
set_option linter.unusedVariables false
open Go Go.RowKit

def FA (w W : World) (g : List Value) : Prop := Blk W w.heap.size g 24 ∧ Below w.heap.size w W
theorem FA.below {w W W' : World} {g : List Value} (k : FA w W g) (hb : Below W.heap.size W W') : FA w W' g := ⟨k.1.below hb, k.2.trans (hb.mono k.2.size)⟩
theorem FA.new (w : World) (g : List Value) : FA w (w.alloc (.cells g.toArray 24)) g := ⟨Blk.new w g _, (Below.refl _ _).alloc (Nat.le_refl _) _⟩
/-- A row, so far filled. -/
def fillK (P : List Int) (n j : Nat) : List Int := P.take j ++ List.replicate (n - j) 0
theorem fillK_at {P : List Int} {n j : Nat} (hP : P.length = n) (hj : j < n) : (fillK P n j)[j]? = some 0 := by
  unfold fillK
  have hl : (P.take j).length = j := by rw [List.length_take]; omega
  rw [List.getElem?_append_right (by omega), hl, Nat.sub_self, show n - j = (n - (j + 1)) + 1 by omega, List.replicate_succ]; rfl
theorem fillK_set {P : List Int} {n j : Nat} (hP : P.length = n) (hj : j < n) (v : Int) (hv : P[j]? = some v) : (fillK P n j).set j v = fillK P n (j + 1) := by
  unfold fillK
  have hl : (P.take j).length = j := by rw [List.length_take]; omega
  rw [List.set_append_right _ _ (by omega), hl, Nat.sub_self, show n - j = (n - (j + 1)) + 1 by omega, List.replicate_succ, List.set_cons_zero]
  have hj' : j < P.length := by omega
  rw [← List.take_append_getElem hj', List.append_assoc]
  have : P[j] = v := by rw [List.getElem?_eq_getElem hj'] at hv; exact Option.some.inj hv
  rw [this]; simp
theorem fillK_end {P : List Int} {n : Nat} (hP : P.length = n) : fillK P n n = P := by unfold fillK; rw [← hP]; simp
theorem set_twice (l : List Int) (j : Nat) (a b : Int) : (l.set j a).set j b = l.set j b := by simp
theorem FA.set_ {w W : World} {g : List Value} (k : FA w W g) {b : Nat} (hb : w.heap.size < b) (i : Nat) (v : Value) : FA w (W.setCell ⟨b, i, none⟩ v) g := by
  refine ⟨?_, k.2.setCell (Nat.le_of_lt hb) v⟩
  have h := ((Only.refl b W).set_ i v).1 w.heap.size k.1.lt (by omega)
  unfold FA Blk at *
  rw [h]; exact k.1
theorem IntsAt.only {W W' : World} {b o g : Nat} {L : List Int} (h : IntsAt W (some ⟨b, o, none⟩) L) (ho : Only g W W') (hne : b ≠ g) : IntsAt W' (some ⟨b, o, none⟩) L := by
  rcases h with h | ⟨b', o', e, hl, h⟩
  · exact .inl h
  · cases e
    refine .inr ⟨b, o, rfl, Nat.lt_of_lt_of_le hl ho.2, fun i x hx => ?_⟩
    have h1 := h i x hx
    simp only [World.cell?, ho.1 b hl hne] at h1 ⊢
    exact h1
theorem any_step {ts : List TieD} {f : TieD → Bool} {j : Nat} (h : j < ts.length) : (ts.take (j + 1)).any f = ((ts.take j).any f || f ts[j]) := by
  rw [← List.take_append_getElem h, List.any_append]; simp
set_option maxRecDepth 100000 in
set_option maxHeartbeats 8000000 in
theorem tiesFollows_yes (k : Nat) (a r : Option Addr) (cap cq m q : Nat) (ts : List TieD) (L P : List Int) (p z : Nat) (w : World) (S A C G : Bool) (hp : p < k) (hz : z < k) (hk32 : k ≤ 32) (hLk : L.length = k) (HPQ : Hid (q = P.length)) (HML : Hid (m = ts.length)) (hm9 : m ≤ 600) (HTS : Hid (TiesAt w a ts)) (HPR : Hid (IntsAt w r P)) (HV : Hid (∀ t ∈ ts, tieB t k = true))
    (HSA : Hid (∀ W, Calls Tryz.prog 7 #[] W fun e w' => e = .returned (.bool true) ∧ Below W.heap.size W w'))
    (HF : Hid (∀ W, Calls Tryz.prog 8 #[.agg #[.int .i64 k, .slice a m cap]] W fun e w' => e = .returned (.bool true) ∧ Below W.heap.size W w'))
    (HC : Hid (∀ W, Below w.heap.size w W → Calls Tryz.prog 22 #[.agg #[.int .i64 k, .slice a m cap]] W fun e w' => e = .returned (.int .i64 0) ∧ Below W.heap.size W w'))
    (HS : Hid (∀ W, Below w.heap.size w W → Calls Tryz.prog 23 #[.agg #[.int .i64 k, .slice a m cap], .int .i64 p, .int .i64 z] W fun e w' => e = .returned (.tuple #[.bool S, .int .i64 0]) ∧ Below W.heap.size W w'))
    (HA : Hid (∀ W, Below w.heap.size w W → Calls Tryz.prog 24 #[.agg #[.int .i64 k, .slice a m cap], .int .i64 p, .int .i64 z] W fun e w' => e = .returned (.tuple #[.bool A, .int .i64 0]) ∧ Below W.heap.size W w'))
    (HG : Hid (∀ W, Below w.heap.size w W → Calls Tryz.prog 25 #[.agg #[.int .i64 k, .slice a m cap]] W fun e w' => ∃ r' c, e = .returned (.tuple #[.slice r' k c, .int .i64 0]) ∧ IntsAt w' r' L ∧ Below W.heap.size W w'))
    (HCL : Hid (∀ W, Below w.heap.size w W → Calls Tryz.prog 19 #[.agg #[.int .i64 k, .slice a m cap]] W fun e w' => (∃ u, e = .returned (.tuple #[u, .bool C, .int .i64 0])) ∧ Below W.heap.size W w'))
    (HAGQ : Hid (q = k → ∀ W, Below w.heap.size w W → Calls Tryz.prog 26 #[.agg #[.int .i64 k, .slice a m cap], .slice r q cq] W fun e w' => e = .returned (.bool G) ∧ Below W.heap.size W w'))
    (HAG2 : Hid (C = false → ∀ W r' c, Below w.heap.size w W → IntsAt W r' L → Calls Tryz.prog 27 #[.agg #[.int .i64 k, .slice a m cap], .slice r' k c] W fun e w' => e = .returned (.bool true) ∧ Below W.heap.size W w'))
    (HAGO : Hid (C = false → A = false → ∀ W r' c, Below w.heap.size w W → IntsAt W r' (oneL L p z) → Calls Tryz.prog 26 #[.agg #[.int .i64 k, .slice a m cap], .slice r' k c] W fun e w' => e = .returned (.bool true) ∧ Below W.heap.size W w'))
    (HCW : Hid (C = ts.any (wrB L))) (HSL : Hid (S = decide (atI L p = atI L z))) (HSAX : Hid (C = false → ¬ (S = true ∧ A = true)))
    (HAGR : Hid (q = k → G = true → C = false ∧ (S = true → atI P p = atI P z) ∧ (A = true → atI P p ≠ atI P z)))
    : Calls Tryz.prog 5 #[.agg #[.int .i64 k, .slice a m cap], .slice r q cq, .int .i64 p, .int .i64 z] w fun e w' => e = .returned (.bool true) ∧ Below w.heap.size w w' := by
  have FB := Lib.hid (FA.new w [.int .i64 k, .slice a m cap])
  have t1 : decide ((k : Int) ≤ (p : Int)) = false := decide_eq_false (by omega)
  have t2 : decide (k ≤ p) = false := decide_eq_false (by omega)
  have t3 : decide ((k : Int) ≤ (z : Int)) = false := decide_eq_false (by omega)
  have t4 : decide (k ≤ z) = false := decide_eq_false (by omega)
  have t5 : decide ((p : Int) < 0) = false := decide_eq_false (by omega)
  have t6 : decide ((z : Int) < 0) = false := decide_eq_false (by omega)
  have HPZ : Hid (p < k ∧ z < k ∧ k ≤ 32 ∧ L.length = k) := ⟨hp, hz, hk32, hLk⟩
  clear hp hz hk32 hLk
  go_enter Tryz.func5, Tryz.ntmps5
  go_upto_region 5 with (first | (go_at_call 7; refine (HSA.out _).mono ?_; rintro e w1 ⟨rfl, hb⟩; clear HSA; replace FB := Lib.hid (FB.out.below hb); clear hb; have c0 := FB.out.1.cell (i := 0) rfl; have c1 := FB.out.1.cell (i := 1) rfl) | (go_at_call 8; refine (HF.out _).mono ?_; rintro e w2 ⟨rfl, hb⟩; clear HF c0 c1; replace FB := Lib.hid (FB.out.below hb); clear hb; have c0 := FB.out.1.cell (i := 0) rfl; have c1 := FB.out.1.cell (i := 1) rfl) | (go_at_call 22; refine (HC.out _ FB.out.2).mono ?_; rintro e w3 ⟨rfl, hb⟩; clear HC c0 c1; replace FB := Lib.hid (FB.out.below hb); clear hb; have c0 := FB.out.1.cell (i := 0) rfl; have c1 := FB.out.1.cell (i := 1) rfl))
  clear t1 t2 t3 t4 t5 t6
  go_upto_region 6 with (first | (go_at_call 23; go_loud (refine (HS.out _ FB.out.2).mono ?_; rintro e w4 ⟨rfl, hb⟩; clear HS c0 c1; replace FB := Lib.hid (FB.out.below hb); clear hb)))
  have c0 := FB.out.1.cell (i := 0) rfl
  have c1 := FB.out.1.cell (i := 1) rfl
  go_upto_region 7 with (first | (go_at_call 24; go_loud (refine (HA.out _ FB.out.2).mono ?_; rintro e w5 ⟨rfl, hb⟩; clear HA c0 c1; replace FB := Lib.hid (FB.out.below hb); clear hb)))
  have c0 := FB.out.1.cell (i := 0) rfl
  have c1 := FB.out.1.cell (i := 1) rfl
  go_upto_region 8 with (first | (go_at_call 25; go_loud (refine (HG.out _ FB.out.2).mono ?_; rintro e w6 ⟨r', kc, rfl, hi, hb⟩; clear HG c0 c1; replace FB := Lib.hid (FB.out.below hb); have HI := Lib.hid hi; clear hb hi)))
  have c0 := FB.out.1.cell (i := 0) rfl
  have c1 := FB.out.1.cell (i := 1) rfl
  go_upto_region 9 with (first | (go_at_call 19; go_loud (refine (HCL.out _ FB.out.2).mono ?_; rintro e w7 ⟨⟨uc, rfl⟩, hb⟩; clear HCL c0 c1; replace FB := Lib.hid (FB.out.below hb); replace HI := Lib.hid (HI.out.below hb); clear hb)))
  have c0 := FB.out.1.cell (i := 0) rfl
  go_upto_region 11 with (fail)
  clear c0
  have HOWD : Hid (∀ w1, (clOld w7.drew).C w1 → Below w7.heap.size w7 w1) := fun w1 hC => old_end (Below.refl _ _) hC (Nat.le_refl _)
  go_cut [138] (fun s138 wx => s138 = .bool false ∧ FA w wx [.int .i64 k, .slice a m cap] ∧ IntsAt wx r' L)
  case first =>
    by_cases hq : q = k
    · have HQK : Hid (true = decide ((q : Int) = (k : Int))) := by simp [Hid, hq]
      have HAG := Lib.hid (HAGQ.out hq)
      rcases Bool.eq_false_or_eq_true G with hg | hg
      · obtain ⟨hc, hs1, ha1⟩ := HAGR.out hq hg
        have HPK : Hid (P.length = k) := by rw [← HPQ.out]; exact hq
        have hpl : p < P.length := by rw [HPK.out]; exact HPZ.out.1
        have hzl : z < P.length := by rw [HPK.out]; exact HPZ.out.2.1
        obtain ⟨rb, ro, rfl, hrb, pa1⟩ := (HPR.out.below FB.out.2).at hpl
        obtain ⟨rb', ro', e2, _, pb1⟩ := (HPR.out.below FB.out.2).at hzl
        obtain ⟨rfl, rfl⟩ : rb = rb' ∧ ro = ro' := by simpa using e2
        have ea : P[p] = atI P p := by unfold atI; rw [Int.toNat_natCast, List.getElem?_eq_getElem hpl]; rfl
        have eb : P[z] = atI P z := by unfold atI; rw [Int.toNat_natCast, List.getElem?_eq_getElem hzl]; rfl
        rw [ea] at pa1
        rw [eb] at pb1
        generalize atI P p = u at *
        generalize atI P z = v at *
        have HUS := Lib.hid hs1
        have HUA := Lib.hid ha1
        have HXB : Hid (p < q ∧ z < q) := ⟨by rw [hq]; exact HPZ.out.1, by rw [hq]; exact HPZ.out.2.1⟩
        have HPA := Lib.hid pa1
        have HPB := Lib.hid pb1
        have HPL := Lib.hid hrb
        have HPX : Hid (∀ w1 x y, (clOld w7.drew).C w1 → w7.cell? ⟨rb, x, none⟩ = some y → w1.cell? ⟨rb, x, none⟩ = some y) := fun w1 x y hC h => by rw [Below.cell (HOWD.out w1 hC) (by exact HPL.out)]; exact h
        have HSX := Lib.hid (HSAX.out hc)
        clear HSAX HAGR HSL HCW HAG2 HAGO HAGQ hs1 ha1 e2 pa1 pb1 ea eb hrb hpl hzl
        subst hc hg
        clear hq
        cases S <;> cases A
        · clear HUS HUA
          refine wp_region_old 41 243 (by kernel_rfl) (by kernel_rfl) (by rfl) ?_
          simp only [List.take_succ_cons, List.take_zero, List.drop_succ_cons, List.drop_zero, List.drop_nil]
          refine chain_move (.slice (some ⟨rb, ro, none⟩) q cq) _ (fun _ _ => Below.refl _ _) rfl rfl (by kernel_rfl) (by kernel_rfl) rfl ?_
          refine chain_val (.int .i64 q) (fun _ _ => Below.refl _ _) rfl (by intro cs b h; cases h) (by kernel_rfl) (by kernel_rfl) (fun w1 _ => by simp [execOp, evE, lk_cons, lk_nil, slotL, go_sem]) ?_
          refine chain_val (.pointer (some ⟨w.heap.size, 0, none⟩)) (fun _ _ => Below.refl _ _) rfl (by intro cs b h; cases h) (by kernel_rfl) (by kernel_rfl) (fun w1 _ => by simp [execOp, evE, lk_cons, lk_nil, slotL, go_sem]) ?_
          refine chain_load (.int .i64 k) _ _ _ (fun _ _ => Below.refl _ _) rfl rfl (by kernel_rfl) (by kernel_rfl) rfl (fun w1 hC => load_i64 ((FB.out.1.below (HOWD.out w1 hC)).cell rfl)) ?_
          refine chain_bin (.bool true) _ _ _ _ _ (.int .i64 q) (.int .i64 k) (fun _ _ => Below.refl _ _) rfl rfl (by kernel_rfl) (by kernel_rfl) rfl rfl (fun w1 => eql_i64 _ _ _ _ _ _ HQK.out w1) ?_
          refine chain_move (.bool true) _ (fun _ _ => Below.refl _ _) rfl rfl (by kernel_rfl) (by kernel_rfl) rfl ?_
          refine chain_load (.agg #[.int .i64 k, .slice a m cap]) _ _ _ (fun _ _ => Below.refl _ _) rfl rfl (by kernel_rfl) (by kernel_rfl) rfl (fun w1 hC => load_g ((FB.out.1.below (HOWD.out w1 hC)).cell rfl) ((FB.out.1.below (HOWD.out w1 hC)).cell rfl)) ?_
          refine chain_move (.slice (some ⟨rb, ro, none⟩) q cq) _ (fun _ _ => Below.refl _ _) rfl rfl (by kernel_rfl) (by kernel_rfl) rfl ?_
          refine chain_call (.bool true) 26 [.agg #[.int .i64 k, .slice a m cap], .slice (some ⟨rb, ro, none⟩) q cq] _ _ (enters_of Tryz.func26 (by kernel_rfl) rfl) rfl rfl rfl (by kernel_rfl) (by kernel_rfl) rfl rfl (fun w1 hC => HAG.out w1 (FB.out.2.trans ((HOWD.out w1 hC).mono FB.out.2.size))) ?_
          refine chain_pick (.bool true) _ _ _ true (fun _ _ => Below.refl _ _) rfl rfl (by kernel_rfl) (by kernel_rfl) rfl rfl ?_
          refine chain_move (.bool true) _ (fun _ _ => Below.refl _ _) rfl rfl (by kernel_rfl) (by kernel_rfl) rfl ?_
          refine chain_move (.bool false) _ (fun _ _ => Below.refl _ _) rfl rfl (by kernel_rfl) (by kernel_rfl) rfl ?_
          refine chain_move (.bool false) _ (fun _ _ => Below.refl _ _) rfl rfl (by kernel_rfl) (by kernel_rfl) rfl ?_
          refine chain_move (.bool false) _ (fun _ _ => Below.refl _ _) rfl rfl (by kernel_rfl) (by kernel_rfl) rfl ?_
          refine chain_move (.bool false) _ (fun _ _ => Below.refl _ _) rfl rfl (by kernel_rfl) (by kernel_rfl) rfl ?_
          refine chain_skip rfl (by kernel_rfl) ?_
          refine chain_skip rfl (by kernel_rfl) ?_
          refine chain_skip rfl (by kernel_rfl) ?_
          refine chain_skip rfl (by kernel_rfl) ?_
          refine chain_skip rfl (by kernel_rfl) ?_
          refine chain_skip rfl (by kernel_rfl) ?_
          refine chain_skip rfl (by kernel_rfl) ?_
          refine chain_skip rfl (by kernel_rfl) ?_
          refine chain_skip rfl (by kernel_rfl) ?_
          refine chain_pick (.bool false) _ _ _ false (fun _ _ => Below.refl _ _) rfl rfl (by kernel_rfl) (by kernel_rfl) rfl rfl ?_
          refine chain_pick (.bool false) _ _ _ false (fun _ _ => Below.refl _ _) rfl rfl (by kernel_rfl) (by kernel_rfl) rfl rfl ?_
          refine chain_move (.bool false) _ (fun _ _ => Below.refl _ _) rfl rfl (by kernel_rfl) (by kernel_rfl) rfl ?_
          refine chain_move (.bool false) _ (fun _ _ => Below.refl _ _) rfl rfl (by kernel_rfl) (by kernel_rfl) rfl ?_
          refine chain_move (.bool false) _ (fun _ _ => Below.refl _ _) rfl rfl (by kernel_rfl) (by kernel_rfl) rfl ?_
          refine chain_skip rfl (by kernel_rfl) ?_
          refine chain_skip rfl (by kernel_rfl) ?_
          refine chain_skip rfl (by kernel_rfl) ?_
          refine chain_skip rfl (by kernel_rfl) ?_
          refine chain_skip rfl (by kernel_rfl) ?_
          refine chain_skip rfl (by kernel_rfl) ?_
          refine chain_skip rfl (by kernel_rfl) ?_
          refine chain_skip rfl (by kernel_rfl) ?_
          refine chain_skip rfl (by kernel_rfl) ?_
          refine chain_pick (.bool false) _ _ _ false (fun _ _ => Below.refl _ _) rfl rfl (by kernel_rfl) (by kernel_rfl) rfl rfl ?_
          refine chain_pick (.bool false) _ _ _ false (fun _ _ => Below.refl _ _) rfl rfl (by kernel_rfl) (by kernel_rfl) rfl rfl ?_
          refine chain_pick (.bool false) _ _ _ true (fun _ _ => Below.refl _ _) rfl rfl (by kernel_rfl) (by kernel_rfl) rfl rfl ?_
          refine chain_end (by rfl) ?_
          intro xs w9 hCw9 hrew9
          simp only [layE, List.foldr_cons, List.foldr_nil, List.set_cons_succ, List.set_cons_zero]
          go_wp2_with fail
          go_meet
          have HY := HOWD.out w9 hCw9
          exact ⟨rfl, FB.out.below HY, HI.out.below HY⟩
        · clear HUS
          refine wp_region_old 41 243 (by kernel_rfl) (by kernel_rfl) (by rfl) ?_
          simp only [List.take_succ_cons, List.take_zero, List.drop_succ_cons, List.drop_zero, List.drop_nil]
          refine chain_move (.slice (some ⟨rb, ro, none⟩) q cq) _ (fun _ _ => Below.refl _ _) rfl rfl (by kernel_rfl) (by kernel_rfl) rfl ?_
          refine chain_val (.int .i64 q) (fun _ _ => Below.refl _ _) rfl (by intro cs b h; cases h) (by kernel_rfl) (by kernel_rfl) (fun w1 _ => by simp [execOp, evE, lk_cons, lk_nil, slotL, go_sem]) ?_
          refine chain_val (.pointer (some ⟨w.heap.size, 0, none⟩)) (fun _ _ => Below.refl _ _) rfl (by intro cs b h; cases h) (by kernel_rfl) (by kernel_rfl) (fun w1 _ => by simp [execOp, evE, lk_cons, lk_nil, slotL, go_sem]) ?_
          refine chain_load (.int .i64 k) _ _ _ (fun _ _ => Below.refl _ _) rfl rfl (by kernel_rfl) (by kernel_rfl) rfl (fun w1 hC => load_i64 ((FB.out.1.below (HOWD.out w1 hC)).cell rfl)) ?_
          refine chain_bin (.bool true) _ _ _ _ _ (.int .i64 q) (.int .i64 k) (fun _ _ => Below.refl _ _) rfl rfl (by kernel_rfl) (by kernel_rfl) rfl rfl (fun w1 => eql_i64 _ _ _ _ _ _ HQK.out w1) ?_
          refine chain_move (.bool true) _ (fun _ _ => Below.refl _ _) rfl rfl (by kernel_rfl) (by kernel_rfl) rfl ?_
          refine chain_load (.agg #[.int .i64 k, .slice a m cap]) _ _ _ (fun _ _ => Below.refl _ _) rfl rfl (by kernel_rfl) (by kernel_rfl) rfl (fun w1 hC => load_g ((FB.out.1.below (HOWD.out w1 hC)).cell rfl) ((FB.out.1.below (HOWD.out w1 hC)).cell rfl)) ?_
          refine chain_move (.slice (some ⟨rb, ro, none⟩) q cq) _ (fun _ _ => Below.refl _ _) rfl rfl (by kernel_rfl) (by kernel_rfl) rfl ?_
          refine chain_call (.bool true) 26 [.agg #[.int .i64 k, .slice a m cap], .slice (some ⟨rb, ro, none⟩) q cq] _ _ (enters_of Tryz.func26 (by kernel_rfl) rfl) rfl rfl rfl (by kernel_rfl) (by kernel_rfl) rfl rfl (fun w1 hC => HAG.out w1 (FB.out.2.trans ((HOWD.out w1 hC).mono FB.out.2.size))) ?_
          refine chain_pick (.bool true) _ _ _ true (fun _ _ => Below.refl _ _) rfl rfl (by kernel_rfl) (by kernel_rfl) rfl rfl ?_
          refine chain_move (.bool true) _ (fun _ _ => Below.refl _ _) rfl rfl (by kernel_rfl) (by kernel_rfl) rfl ?_
          refine chain_move (.bool false) _ (fun _ _ => Below.refl _ _) rfl rfl (by kernel_rfl) (by kernel_rfl) rfl ?_
          refine chain_move (.bool false) _ (fun _ _ => Below.refl _ _) rfl rfl (by kernel_rfl) (by kernel_rfl) rfl ?_
          refine chain_move (.bool false) _ (fun _ _ => Below.refl _ _) rfl rfl (by kernel_rfl) (by kernel_rfl) rfl ?_
          refine chain_move (.bool false) _ (fun _ _ => Below.refl _ _) rfl rfl (by kernel_rfl) (by kernel_rfl) rfl ?_
          refine chain_skip rfl (by kernel_rfl) ?_
          refine chain_skip rfl (by kernel_rfl) ?_
          refine chain_skip rfl (by kernel_rfl) ?_
          refine chain_skip rfl (by kernel_rfl) ?_
          refine chain_skip rfl (by kernel_rfl) ?_
          refine chain_skip rfl (by kernel_rfl) ?_
          refine chain_skip rfl (by kernel_rfl) ?_
          refine chain_skip rfl (by kernel_rfl) ?_
          refine chain_skip rfl (by kernel_rfl) ?_
          refine chain_pick (.bool false) _ _ _ false (fun _ _ => Below.refl _ _) rfl rfl (by kernel_rfl) (by kernel_rfl) rfl rfl ?_
          refine chain_pick (.bool false) _ _ _ false (fun _ _ => Below.refl _ _) rfl rfl (by kernel_rfl) (by kernel_rfl) rfl rfl ?_
          refine chain_move (.bool false) _ (fun _ _ => Below.refl _ _) rfl rfl (by kernel_rfl) (by kernel_rfl) rfl ?_
          refine chain_move (.bool true) _ (fun _ _ => Below.refl _ _) rfl rfl (by kernel_rfl) (by kernel_rfl) rfl ?_
          refine chain_move (.bool true) _ (fun _ _ => Below.refl _ _) rfl rfl (by kernel_rfl) (by kernel_rfl) rfl ?_
          refine chain_move (.slice (some ⟨rb, ro, none⟩) q cq) _ (fun _ _ => Below.refl _ _) rfl rfl (by kernel_rfl) (by kernel_rfl) rfl ?_
          refine chain_move (.int .i64 p) _ (fun _ _ => Below.refl _ _) rfl rfl (by kernel_rfl) (by kernel_rfl) rfl ?_
          refine chain_idx (.pointer (some ⟨rb, ro + p, none⟩)) _ _ _ (.slice (some ⟨rb, ro, none⟩) q cq) (.int .i64 p) (fun _ _ => Below.refl _ _) rfl rfl (by kernel_rfl) (by kernel_rfl) rfl rfl (fun w1 => idx_i64 _ _ _ _ _ HXB.out.1 w1) ?_
          refine chain_load (.int .i64 u) _ _ _ (fun _ _ => Below.refl _ _) rfl rfl (by kernel_rfl) (by kernel_rfl) rfl (fun w1 hC => load_i64 (HPX.out w1 _ _ hC HPA.out)) ?_
          refine chain_move (.slice (some ⟨rb, ro, none⟩) q cq) _ (fun _ _ => Below.refl _ _) rfl rfl (by kernel_rfl) (by kernel_rfl) rfl ?_
          refine chain_move (.int .i64 z) _ (fun _ _ => Below.refl _ _) rfl rfl (by kernel_rfl) (by kernel_rfl) rfl ?_
          refine chain_idx (.pointer (some ⟨rb, ro + z, none⟩)) _ _ _ (.slice (some ⟨rb, ro, none⟩) q cq) (.int .i64 z) (fun _ _ => Below.refl _ _) rfl rfl (by kernel_rfl) (by kernel_rfl) rfl rfl (fun w1 => idx_i64 _ _ _ _ _ HXB.out.2 w1) ?_
          refine chain_load (.int .i64 v) _ _ _ (fun _ _ => Below.refl _ _) rfl rfl (by kernel_rfl) (by kernel_rfl) rfl (fun w1 hC => load_i64 (HPX.out w1 _ _ hC HPB.out)) ?_
          refine chain_bin (.bool false) _ _ _ _ _ (.int .i64 u) (.int .i64 v) (fun _ _ => Below.refl _ _) rfl rfl (by kernel_rfl) (by kernel_rfl) rfl rfl (fun w1 => eql_i64 _ _ _ _ _ _ (by have := HUA.out (by trivial); simp [this]) w1) ?_
          refine chain_pick (.bool false) _ _ _ true (fun _ _ => Below.refl _ _) rfl rfl (by kernel_rfl) (by kernel_rfl) rfl rfl ?_
          refine chain_pick (.bool false) _ _ _ false (fun _ _ => Below.refl _ _) rfl rfl (by kernel_rfl) (by kernel_rfl) rfl rfl ?_
          refine chain_pick (.bool false) _ _ _ true (fun _ _ => Below.refl _ _) rfl rfl (by kernel_rfl) (by kernel_rfl) rfl rfl ?_
          refine chain_end (by rfl) ?_
          intro xs w9 hCw9 hrew9
          simp only [layE, List.foldr_cons, List.foldr_nil, List.set_cons_succ, List.set_cons_zero]
          go_wp2_with fail
          go_meet
          have HY := HOWD.out w9 hCw9
          exact ⟨rfl, FB.out.below HY, HI.out.below HY⟩
        · clear HUA
          refine wp_region_old 41 243 (by kernel_rfl) (by kernel_rfl) (by rfl) ?_
          simp only [List.take_succ_cons, List.take_zero, List.drop_succ_cons, List.drop_zero, List.drop_nil]
          refine chain_move (.slice (some ⟨rb, ro, none⟩) q cq) _ (fun _ _ => Below.refl _ _) rfl rfl (by kernel_rfl) (by kernel_rfl) rfl ?_
          refine chain_val (.int .i64 q) (fun _ _ => Below.refl _ _) rfl (by intro cs b h; cases h) (by kernel_rfl) (by kernel_rfl) (fun w1 _ => by simp [execOp, evE, lk_cons, lk_nil, slotL, go_sem]) ?_
          refine chain_val (.pointer (some ⟨w.heap.size, 0, none⟩)) (fun _ _ => Below.refl _ _) rfl (by intro cs b h; cases h) (by kernel_rfl) (by kernel_rfl) (fun w1 _ => by simp [execOp, evE, lk_cons, lk_nil, slotL, go_sem]) ?_
          refine chain_load (.int .i64 k) _ _ _ (fun _ _ => Below.refl _ _) rfl rfl (by kernel_rfl) (by kernel_rfl) rfl (fun w1 hC => load_i64 ((FB.out.1.below (HOWD.out w1 hC)).cell rfl)) ?_
          refine chain_bin (.bool true) _ _ _ _ _ (.int .i64 q) (.int .i64 k) (fun _ _ => Below.refl _ _) rfl rfl (by kernel_rfl) (by kernel_rfl) rfl rfl (fun w1 => eql_i64 _ _ _ _ _ _ HQK.out w1) ?_
          refine chain_move (.bool true) _ (fun _ _ => Below.refl _ _) rfl rfl (by kernel_rfl) (by kernel_rfl) rfl ?_
          refine chain_load (.agg #[.int .i64 k, .slice a m cap]) _ _ _ (fun _ _ => Below.refl _ _) rfl rfl (by kernel_rfl) (by kernel_rfl) rfl (fun w1 hC => load_g ((FB.out.1.below (HOWD.out w1 hC)).cell rfl) ((FB.out.1.below (HOWD.out w1 hC)).cell rfl)) ?_
          refine chain_move (.slice (some ⟨rb, ro, none⟩) q cq) _ (fun _ _ => Below.refl _ _) rfl rfl (by kernel_rfl) (by kernel_rfl) rfl ?_
          refine chain_call (.bool true) 26 [.agg #[.int .i64 k, .slice a m cap], .slice (some ⟨rb, ro, none⟩) q cq] _ _ (enters_of Tryz.func26 (by kernel_rfl) rfl) rfl rfl rfl (by kernel_rfl) (by kernel_rfl) rfl rfl (fun w1 hC => HAG.out w1 (FB.out.2.trans ((HOWD.out w1 hC).mono FB.out.2.size))) ?_
          refine chain_pick (.bool true) _ _ _ true (fun _ _ => Below.refl _ _) rfl rfl (by kernel_rfl) (by kernel_rfl) rfl rfl ?_
          refine chain_move (.bool true) _ (fun _ _ => Below.refl _ _) rfl rfl (by kernel_rfl) (by kernel_rfl) rfl ?_
          refine chain_move (.bool false) _ (fun _ _ => Below.refl _ _) rfl rfl (by kernel_rfl) (by kernel_rfl) rfl ?_
          refine chain_move (.bool false) _ (fun _ _ => Below.refl _ _) rfl rfl (by kernel_rfl) (by kernel_rfl) rfl ?_
          refine chain_move (.bool true) _ (fun _ _ => Below.refl _ _) rfl rfl (by kernel_rfl) (by kernel_rfl) rfl ?_
          refine chain_move (.bool true) _ (fun _ _ => Below.refl _ _) rfl rfl (by kernel_rfl) (by kernel_rfl) rfl ?_
          refine chain_move (.slice (some ⟨rb, ro, none⟩) q cq) _ (fun _ _ => Below.refl _ _) rfl rfl (by kernel_rfl) (by kernel_rfl) rfl ?_
          refine chain_move (.int .i64 p) _ (fun _ _ => Below.refl _ _) rfl rfl (by kernel_rfl) (by kernel_rfl) rfl ?_
          refine chain_idx (.pointer (some ⟨rb, ro + p, none⟩)) _ _ _ (.slice (some ⟨rb, ro, none⟩) q cq) (.int .i64 p) (fun _ _ => Below.refl _ _) rfl rfl (by kernel_rfl) (by kernel_rfl) rfl rfl (fun w1 => idx_i64 _ _ _ _ _ HXB.out.1 w1) ?_
          refine chain_load (.int .i64 u) _ _ _ (fun _ _ => Below.refl _ _) rfl rfl (by kernel_rfl) (by kernel_rfl) rfl (fun w1 hC => load_i64 (HPX.out w1 _ _ hC HPA.out)) ?_
          refine chain_move (.slice (some ⟨rb, ro, none⟩) q cq) _ (fun _ _ => Below.refl _ _) rfl rfl (by kernel_rfl) (by kernel_rfl) rfl ?_
          refine chain_move (.int .i64 z) _ (fun _ _ => Below.refl _ _) rfl rfl (by kernel_rfl) (by kernel_rfl) rfl ?_
          refine chain_idx (.pointer (some ⟨rb, ro + z, none⟩)) _ _ _ (.slice (some ⟨rb, ro, none⟩) q cq) (.int .i64 z) (fun _ _ => Below.refl _ _) rfl rfl (by kernel_rfl) (by kernel_rfl) rfl rfl (fun w1 => idx_i64 _ _ _ _ _ HXB.out.2 w1) ?_
          refine chain_load (.int .i64 v) _ _ _ (fun _ _ => Below.refl _ _) rfl rfl (by kernel_rfl) (by kernel_rfl) rfl (fun w1 hC => load_i64 (HPX.out w1 _ _ hC HPB.out)) ?_
          refine chain_bin (.bool false) _ _ _ _ _ (.int .i64 u) (.int .i64 v) (fun _ _ => Below.refl _ _) rfl rfl (by kernel_rfl) (by kernel_rfl) rfl rfl (fun w1 => neq_i64 _ _ _ _ _ _ (by have := HUS.out (by trivial); simp [this]) w1) ?_
          refine chain_pick (.bool false) _ _ _ true (fun _ _ => Below.refl _ _) rfl rfl (by kernel_rfl) (by kernel_rfl) rfl rfl ?_
          refine chain_pick (.bool false) _ _ _ false (fun _ _ => Below.refl _ _) rfl rfl (by kernel_rfl) (by kernel_rfl) rfl rfl ?_
          refine chain_move (.bool false) _ (fun _ _ => Below.refl _ _) rfl rfl (by kernel_rfl) (by kernel_rfl) rfl ?_
          refine chain_move (.bool false) _ (fun _ _ => Below.refl _ _) rfl rfl (by kernel_rfl) (by kernel_rfl) rfl ?_
          refine chain_move (.bool false) _ (fun _ _ => Below.refl _ _) rfl rfl (by kernel_rfl) (by kernel_rfl) rfl ?_
          refine chain_skip rfl (by kernel_rfl) ?_
          refine chain_skip rfl (by kernel_rfl) ?_
          refine chain_skip rfl (by kernel_rfl) ?_
          refine chain_skip rfl (by kernel_rfl) ?_
          refine chain_skip rfl (by kernel_rfl) ?_
          refine chain_skip rfl (by kernel_rfl) ?_
          refine chain_skip rfl (by kernel_rfl) ?_
          refine chain_skip rfl (by kernel_rfl) ?_
          refine chain_skip rfl (by kernel_rfl) ?_
          refine chain_pick (.bool false) _ _ _ false (fun _ _ => Below.refl _ _) rfl rfl (by kernel_rfl) (by kernel_rfl) rfl rfl ?_
          refine chain_pick (.bool false) _ _ _ false (fun _ _ => Below.refl _ _) rfl rfl (by kernel_rfl) (by kernel_rfl) rfl rfl ?_
          refine chain_pick (.bool false) _ _ _ true (fun _ _ => Below.refl _ _) rfl rfl (by kernel_rfl) (by kernel_rfl) rfl rfl ?_
          refine chain_end (by rfl) ?_
          intro xs w9 hCw9 hrew9
          simp only [layE, List.foldr_cons, List.foldr_nil, List.set_cons_succ, List.set_cons_zero]
          go_wp2_with fail
          go_meet
          have HY := HOWD.out w9 hCw9
          exact ⟨rfl, FB.out.below HY, HI.out.below HY⟩
        · exact absurd ⟨rfl, rfl⟩ HSX.out
      · subst hg
        clear hq
        refine wp_region_old 41 243 (by kernel_rfl) (by kernel_rfl) (by rfl) ?_
        simp only [List.take_succ_cons, List.take_zero, List.drop_succ_cons, List.drop_zero, List.drop_nil]
        refine chain_move (.slice r q cq) _ (fun _ _ => Below.refl _ _) rfl rfl (by kernel_rfl) (by kernel_rfl) rfl ?_
        refine chain_val (.int .i64 q) (fun _ _ => Below.refl _ _) rfl (by intro cs b h; cases h) (by kernel_rfl) (by kernel_rfl) (fun w1 _ => by simp [execOp, evE, lk_cons, lk_nil, slotL, go_sem]) ?_
        refine chain_val (.pointer (some ⟨w.heap.size, 0, none⟩)) (fun _ _ => Below.refl _ _) rfl (by intro cs b h; cases h) (by kernel_rfl) (by kernel_rfl) (fun w1 _ => by simp [execOp, evE, lk_cons, lk_nil, slotL, go_sem]) ?_
        refine chain_load (.int .i64 k) _ _ _ (fun _ _ => Below.refl _ _) rfl rfl (by kernel_rfl) (by kernel_rfl) rfl (fun w1 hC => load_i64 ((FB.out.1.below (HOWD.out w1 hC)).cell rfl)) ?_
        refine chain_bin (.bool true) _ _ _ _ _ (.int .i64 q) (.int .i64 k) (fun _ _ => Below.refl _ _) rfl rfl (by kernel_rfl) (by kernel_rfl) rfl rfl (fun w1 => eql_i64 _ _ _ _ _ _ HQK.out w1) ?_
        refine chain_move (.bool true) _ (fun _ _ => Below.refl _ _) rfl rfl (by kernel_rfl) (by kernel_rfl) rfl ?_
        refine chain_load (.agg #[.int .i64 k, .slice a m cap]) _ _ _ (fun _ _ => Below.refl _ _) rfl rfl (by kernel_rfl) (by kernel_rfl) rfl (fun w1 hC => load_g ((FB.out.1.below (HOWD.out w1 hC)).cell rfl) ((FB.out.1.below (HOWD.out w1 hC)).cell rfl)) ?_
        refine chain_move (.slice r q cq) _ (fun _ _ => Below.refl _ _) rfl rfl (by kernel_rfl) (by kernel_rfl) rfl ?_
        refine chain_call (.bool false) 26 [.agg #[.int .i64 k, .slice a m cap], .slice r q cq] _ _ (enters_of Tryz.func26 (by kernel_rfl) rfl) rfl rfl rfl (by kernel_rfl) (by kernel_rfl) rfl rfl (fun w1 hC => HAG.out w1 (FB.out.2.trans ((HOWD.out w1 hC).mono FB.out.2.size))) ?_
        refine chain_pick (.bool false) _ _ _ true (fun _ _ => Below.refl _ _) rfl rfl (by kernel_rfl) (by kernel_rfl) rfl rfl ?_
        refine chain_move (.bool false) _ (fun _ _ => Below.refl _ _) rfl rfl (by kernel_rfl) (by kernel_rfl) rfl ?_
        refine chain_skip rfl (by kernel_rfl) ?_
        refine chain_skip rfl (by kernel_rfl) ?_
        refine chain_skipU rfl (by kernel_rfl) ?_
        refine chain_skipU rfl (by kernel_rfl) ?_
        refine chain_skipU rfl (by kernel_rfl) ?_
        refine chain_skipU rfl (by kernel_rfl) ?_
        refine chain_skipU rfl (by kernel_rfl) ?_
        refine chain_skipU rfl (by kernel_rfl) ?_
        refine chain_skipU rfl (by kernel_rfl) ?_
        refine chain_skipU rfl (by kernel_rfl) ?_
        refine chain_skipU rfl (by kernel_rfl) ?_
        refine chain_skipU rfl (by kernel_rfl) ?_
        refine chain_skipU rfl (by kernel_rfl) ?_
        refine chain_skipU rfl (by kernel_rfl) ?_
        refine chain_skip rfl (by kernel_rfl) ?_
        refine chain_skip rfl (by kernel_rfl) ?_
        refine chain_skipU rfl (by kernel_rfl) ?_
        refine chain_skipU rfl (by kernel_rfl) ?_
        refine chain_skipU rfl (by kernel_rfl) ?_
        refine chain_skipU rfl (by kernel_rfl) ?_
        refine chain_skipU rfl (by kernel_rfl) ?_
        refine chain_skipU rfl (by kernel_rfl) ?_
        refine chain_skipU rfl (by kernel_rfl) ?_
        refine chain_skipU rfl (by kernel_rfl) ?_
        refine chain_skipU rfl (by kernel_rfl) ?_
        refine chain_skipU rfl (by kernel_rfl) ?_
        refine chain_skipU rfl (by kernel_rfl) ?_
        refine chain_skipU rfl (by kernel_rfl) ?_
        refine chain_skip rfl (by kernel_rfl) ?_
        refine chain_pick (.bool false) _ _ _ false (fun _ _ => Below.refl _ _) rfl rfl (by kernel_rfl) (by kernel_rfl) rfl rfl ?_
        refine chain_end (by rfl) ?_
        intro xs w9 hCw9 hrew9
        simp only [layE, List.foldr_cons, List.foldr_nil, List.set_cons_succ, List.set_cons_zero]
        go_wp2_with fail
        go_meet
        have HY := HOWD.out w9 hCw9
        exact ⟨rfl, FB.out.below HY, HI.out.below HY⟩
    · have HQK : Hid (false = decide ((q : Int) = (k : Int))) := by simp only [Hid]; exact (decide_eq_false (by omega)).symm
      clear hq
      refine wp_region_old 41 243 (by kernel_rfl) (by kernel_rfl) (by rfl) ?_
      simp only [List.take_succ_cons, List.take_zero, List.drop_succ_cons, List.drop_zero, List.drop_nil]
      refine chain_move (.slice r q cq) _ (fun _ _ => Below.refl _ _) rfl rfl (by kernel_rfl) (by kernel_rfl) rfl ?_
      refine chain_val (.int .i64 q) (fun _ _ => Below.refl _ _) rfl (by intro cs b h; cases h) (by kernel_rfl) (by kernel_rfl) (fun w1 _ => by simp [execOp, evE, lk_cons, lk_nil, slotL, go_sem]) ?_
      refine chain_val (.pointer (some ⟨w.heap.size, 0, none⟩)) (fun _ _ => Below.refl _ _) rfl (by intro cs b h; cases h) (by kernel_rfl) (by kernel_rfl) (fun w1 _ => by simp [execOp, evE, lk_cons, lk_nil, slotL, go_sem]) ?_
      refine chain_load (.int .i64 k) _ _ _ (fun _ _ => Below.refl _ _) rfl rfl (by kernel_rfl) (by kernel_rfl) rfl (fun w1 hC => load_i64 ((FB.out.1.below (HOWD.out w1 hC)).cell rfl)) ?_
      refine chain_bin (.bool false) _ _ _ _ _ (.int .i64 q) (.int .i64 k) (fun _ _ => Below.refl _ _) rfl rfl (by kernel_rfl) (by kernel_rfl) rfl rfl (fun w1 => eql_i64 _ _ _ _ _ _ HQK.out w1) ?_
      refine chain_move (.bool false) _ (fun _ _ => Below.refl _ _) rfl rfl (by kernel_rfl) (by kernel_rfl) rfl ?_
      refine chain_skip rfl (by kernel_rfl) ?_
      refine chain_skip rfl (by kernel_rfl) ?_
      refine chain_skip rfl (by kernel_rfl) ?_
      refine chain_pick (.bool false) _ _ _ false (fun _ _ => Below.refl _ _) rfl rfl (by kernel_rfl) (by kernel_rfl) rfl rfl ?_
      refine chain_move (.bool false) _ (fun _ _ => Below.refl _ _) rfl rfl (by kernel_rfl) (by kernel_rfl) rfl ?_
      refine chain_skip rfl (by kernel_rfl) ?_
      refine chain_skip rfl (by kernel_rfl) ?_
      refine chain_skipU rfl (by kernel_rfl) ?_
      refine chain_skipU rfl (by kernel_rfl) ?_
      refine chain_skipU rfl (by kernel_rfl) ?_
      refine chain_skipU rfl (by kernel_rfl) ?_
      refine chain_skipU rfl (by kernel_rfl) ?_
      refine chain_skipU rfl (by kernel_rfl) ?_
      refine chain_skipU rfl (by kernel_rfl) ?_
      refine chain_skipU rfl (by kernel_rfl) ?_
      refine chain_skipU rfl (by kernel_rfl) ?_
      refine chain_skipU rfl (by kernel_rfl) ?_
      refine chain_skipU rfl (by kernel_rfl) ?_
      refine chain_skipU rfl (by kernel_rfl) ?_
      refine chain_skip rfl (by kernel_rfl) ?_
      refine chain_skip rfl (by kernel_rfl) ?_
      refine chain_skipU rfl (by kernel_rfl) ?_
      refine chain_skipU rfl (by kernel_rfl) ?_
      refine chain_skipU rfl (by kernel_rfl) ?_
      refine chain_skipU rfl (by kernel_rfl) ?_
      refine chain_skipU rfl (by kernel_rfl) ?_
      refine chain_skipU rfl (by kernel_rfl) ?_
      refine chain_skipU rfl (by kernel_rfl) ?_
      refine chain_skipU rfl (by kernel_rfl) ?_
      refine chain_skipU rfl (by kernel_rfl) ?_
      refine chain_skipU rfl (by kernel_rfl) ?_
      refine chain_skipU rfl (by kernel_rfl) ?_
      refine chain_skipU rfl (by kernel_rfl) ?_
      refine chain_skip rfl (by kernel_rfl) ?_
      refine chain_pick (.bool false) _ _ _ false (fun _ _ => Below.refl _ _) rfl rfl (by kernel_rfl) (by kernel_rfl) rfl rfl ?_
      refine chain_end (by rfl) ?_
      intro xs w9 hCw9 hrew9
      simp only [layE, List.foldr_cons, List.foldr_nil, List.set_cons_succ, List.set_cons_zero]
      go_wp2_with fail
      go_meet
      have HY := HOWD.out w9 hCw9
      exact ⟨rfl, FB.out.below HY, HI.out.below HY⟩
  case rest =>
    obtain ⟨rfl, hf, hi⟩ := hcut
    replace FB := Lib.hid hf
    replace HI := Lib.hid hi
    clear hf hi HOWD HAGQ HAGR HPR HPQ
    rcases Bool.eq_false_or_eq_true C with hc | hc
    · -- it contradicts itself
      have HCT : Hid (ts.any (wrB L) = true) := by rw [← HCW.out]; exact hc
      clear HCW HSL HSAX HAG2 HAGO
      subst hc
      go_wp2_with fail
      go_loopg [18, 19] m (fun gk t18 t19 wr => ∃ j : Nat, j + gk = m ∧ t18 = .bool ((ts.take j).any (wrB L)) ∧ t19 = .int .i64 j ∧ Hid (FA w wr [.int .i64 k, .slice a m cap]) ∧ Hid (IntsAt wr r' L))
      case atStart => exact ⟨0, by omega, by simp, rfl, FB, HI⟩
      case round =>
        clear FB HI
        obtain ⟨j, hjg, rfl, rfl, FB, HI⟩ := hrel
        have c1 := FB.out.1.cell (i := 1) rfl
        by_cases hlt : j < m
        · have hjl : j < ts.length := by rw [← HML.out]; exact hlt
          obtain ⟨t, ht⟩ : ∃ t, t = ts[j] := ⟨_, rfl⟩
          have htm : t ∈ ts := by rw [ht]; exact List.getElem_mem hjl
          have HST : Hid ((ts.take (j + 1)).any (wrB L) = ((ts.take j).any (wrB L) || wrB L t)) := by rw [ht]; exact any_step hjl
          obtain ⟨F, hF⟩ : ∃ F, F = (ts.take j).any (wrB L) := ⟨_, rfl⟩
          rw [← hF] at HST ⊢
          obtain ⟨lb, lo, rfl, hlb, c0, c2, c3, c4, c5⟩ := (HTS.out.below FB.out.2).at hjl
          rw [← ht] at c0 c2 c3 c4 c5
          obtain ⟨g0, _, g1, _, g2, g3⟩ := tieB_in (HV.out t htm)
          clear hjl ht htm hF
          obtain ⟨za, zb, zk, zs, zr⟩ := t
          simp only at c0 c2 c3 c4 c5 g0 g1 g2 g3
          obtain ⟨xa, rfl⟩ := Int.eq_ofNat_of_zero_le g0
          obtain ⟨xb, rfl⟩ := Int.eq_ofNat_of_zero_le g1
          have ga : xa < L.length := by rw [HPZ.out.2.2.2]; omega
          have gb : xb < L.length := by rw [HPZ.out.2.2.2]; omega
          have HXB : Hid (xa < k ∧ xb < k) := ⟨by have := HPZ.out.2.2.2; omega, by have := HPZ.out.2.2.2; omega⟩
          obtain ⟨pb, po, rfl, hpb, pa1⟩ := HI.out.at ga
          obtain ⟨pb', po', e2, _, pb1⟩ := HI.out.at gb
          obtain ⟨rfl, rfl⟩ : pb = pb' ∧ po = po' := by simpa using e2
          have ea : L[xa] = atI L xa := by unfold atI; rw [Int.toNat_natCast, List.getElem?_eq_getElem ga]; rfl
          have eb : L[xb] = atI L xb := by unfold atI; rw [Int.toNat_natCast, List.getElem?_eq_getElem gb]; rfl
          rw [ea] at pa1
          rw [eb] at pb1
          have HWR : Hid (wrB L ⟨xa, xb, zk, zs, zr⟩ = (zk == 1 && atI L xa == atI L xb)) := rfl
          generalize atI L xa = u at *
          generalize atI L xb = v at *
          have HC0 := Lib.hid c0
          have HC2 := Lib.hid c2
          have HC3 := Lib.hid c3
          have HPA := Lib.hid pa1
          have HPB := Lib.hid pb1
          have HPL := Lib.hid hpb
          have HLL := Lib.hid hlb
          have HJM := Lib.hid hlt
          clear g0 g1 g2 g3 ga gb e2 pa1 pb1 hpb ea eb c0 c2 c3 c4 c5 hlb
          have HOWD : Hid (∀ w1, (clOld wr.drew).C w1 → Below wr.heap.size wr w1) := fun w1 hC => old_end (Below.refl _ _) hC (Nat.le_refl _)
          have HPX : Hid (∀ w1 x y, (clOld wr.drew).C w1 → wr.cell? ⟨pb, x, none⟩ = some y → w1.cell? ⟨pb, x, none⟩ = some y) := fun w1 x y hC h => by rw [Below.cell (HOWD.out w1 hC) (by exact HPL.out)]; exact h
          have HLX : Hid (∀ w1 x y, (clOld wr.drew).C w1 → wr.cell? ⟨lb, x, none⟩ = some y → w1.cell? ⟨lb, x, none⟩ = some y) := fun w1 x y hC h => by rw [Below.cell (HOWD.out w1 hC) (by exact HLL.out)]; exact h
          go_upto_region 18 with (fail)
          cases F
          · by_cases hk1 : zk = 1
            · have HDK : Hid (true = decide (zk = 1)) := by simp [Hid, hk1]
              obtain ⟨d, hd⟩ : ∃ d, d = decide (u = v) := ⟨_, rfl⟩
              have HDD := Lib.hid hd
              have HST2 : Hid ((ts.take (j + 1)).any (wrB L) = d) := by rw [HST.out, HWR.out, hk1, hd]; simp only [Bool.false_or, beq_self_eq_true, Bool.true_and]; rfl
              clear hd hk1 HST HWR
              refine wp_region_old 31 243 (by kernel_rfl) (by kernel_rfl) (by rfl) ?_
              simp only [List.take_succ_cons, List.take_zero, List.drop_succ_cons, List.drop_zero, List.drop_nil]
              refine chain_move (.bool false) _ (fun _ _ => Below.refl _ _) rfl rfl (by kernel_rfl) (by kernel_rfl) rfl ?_
              refine chain_move (.bool false) _ (fun _ _ => Below.refl _ _) rfl rfl (by kernel_rfl) (by kernel_rfl) rfl ?_
              refine chain_val (.pointer (some ⟨w.heap.size, 1, none⟩)) (fun _ _ => Below.refl _ _) rfl (by intro cs b h; cases h) (by kernel_rfl) (by kernel_rfl) (fun w1 _ => by simp [execOp, evE, lk_cons, lk_nil, slotL, go_sem]) ?_
              refine chain_load (.slice (some ⟨lb, lo, none⟩) m cap) _ _ _ (fun _ _ => Below.refl _ _) rfl rfl (by kernel_rfl) (by kernel_rfl) rfl (fun w1 hC => load_slt ((FB.out.1.below (HOWD.out w1 hC)).cell rfl)) ?_
              refine chain_move (.int .i64 j) _ (fun _ _ => Below.refl _ _) rfl rfl (by kernel_rfl) (by kernel_rfl) rfl ?_
              refine chain_idx (.pointer (some ⟨lb, lo + j * 5, none⟩)) _ _ _ (.slice (some ⟨lb, lo, none⟩) m cap) (.int .i64 j) (fun _ _ => Below.refl _ _) rfl rfl (by kernel_rfl) (by kernel_rfl) rfl rfl (fun w1 => idx_tie _ _ _ _ _ HJM.out w1) ?_
              refine chain_val (.pointer (some ⟨lb, lo + j * 5 + 2, none⟩)) (fun _ _ => Below.refl _ _) rfl (by intro cs b h; cases h) (by kernel_rfl) (by kernel_rfl) (fun w1 _ => by simp [execOp, evE, lk_cons, lk_nil, slotL, go_sem]) ?_
              refine chain_load (.int .i64 zk) _ _ _ (fun _ _ => Below.refl _ _) rfl rfl (by kernel_rfl) (by kernel_rfl) rfl (fun w1 hC => load_i64 (HLX.out w1 _ _ hC HC3.out)) ?_
              refine chain_bin (.bool true) _ _ _ _ _ (.int .i64 zk) (.int .i64 1) (fun _ _ => Below.refl _ _) rfl rfl (by kernel_rfl) (by kernel_rfl) rfl rfl (fun w1 => eql_i64 _ _ _ _ _ _ HDK.out w1) ?_
              refine chain_move (.bool true) _ (fun _ _ => Below.refl _ _) rfl rfl (by kernel_rfl) (by kernel_rfl) rfl ?_
              refine chain_move (.slice (some ⟨pb, po, none⟩) k kc) _ (fun _ _ => Below.refl _ _) rfl rfl (by kernel_rfl) (by kernel_rfl) rfl ?_
              refine chain_val (.pointer (some ⟨w.heap.size, 1, none⟩)) (fun _ _ => Below.refl _ _) rfl (by intro cs b h; cases h) (by kernel_rfl) (by kernel_rfl) (fun w1 _ => by simp [execOp, evE, lk_cons, lk_nil, slotL, go_sem]) ?_
              refine chain_load (.slice (some ⟨lb, lo, none⟩) m cap) _ _ _ (fun _ _ => Below.refl _ _) rfl rfl (by kernel_rfl) (by kernel_rfl) rfl (fun w1 hC => load_slt ((FB.out.1.below (HOWD.out w1 hC)).cell rfl)) ?_
              refine chain_move (.int .i64 j) _ (fun _ _ => Below.refl _ _) rfl rfl (by kernel_rfl) (by kernel_rfl) rfl ?_
              refine chain_idx (.pointer (some ⟨lb, lo + j * 5, none⟩)) _ _ _ (.slice (some ⟨lb, lo, none⟩) m cap) (.int .i64 j) (fun _ _ => Below.refl _ _) rfl rfl (by kernel_rfl) (by kernel_rfl) rfl rfl (fun w1 => idx_tie _ _ _ _ _ HJM.out w1) ?_
              refine chain_val (.pointer (some ⟨lb, lo + j * 5, none⟩)) (fun _ _ => Below.refl _ _) rfl (by intro cs b h; cases h) (by kernel_rfl) (by kernel_rfl) (fun w1 _ => by simp [execOp, evE, lk_cons, lk_nil, slotL, go_sem]) ?_
              refine chain_load (.int .i64 xa) _ _ _ (fun _ _ => Below.refl _ _) rfl rfl (by kernel_rfl) (by kernel_rfl) rfl (fun w1 hC => load_i64 (HLX.out w1 _ _ hC HC0.out)) ?_
              refine chain_idx (.pointer (some ⟨pb, po + xa, none⟩)) _ _ _ (.slice (some ⟨pb, po, none⟩) k kc) (.int .i64 xa) (fun _ _ => Below.refl _ _) rfl rfl (by kernel_rfl) (by kernel_rfl) rfl rfl (fun w1 => idx_i64 _ _ _ _ _ HXB.out.1 w1) ?_
              refine chain_load (.int .i64 u) _ _ _ (fun _ _ => Below.refl _ _) rfl rfl (by kernel_rfl) (by kernel_rfl) rfl (fun w1 hC => load_i64 (HPX.out w1 _ _ hC HPA.out)) ?_
              refine chain_move (.slice (some ⟨pb, po, none⟩) k kc) _ (fun _ _ => Below.refl _ _) rfl rfl (by kernel_rfl) (by kernel_rfl) rfl ?_
              refine chain_val (.pointer (some ⟨w.heap.size, 1, none⟩)) (fun _ _ => Below.refl _ _) rfl (by intro cs b h; cases h) (by kernel_rfl) (by kernel_rfl) (fun w1 _ => by simp [execOp, evE, lk_cons, lk_nil, slotL, go_sem]) ?_
              refine chain_load (.slice (some ⟨lb, lo, none⟩) m cap) _ _ _ (fun _ _ => Below.refl _ _) rfl rfl (by kernel_rfl) (by kernel_rfl) rfl (fun w1 hC => load_slt ((FB.out.1.below (HOWD.out w1 hC)).cell rfl)) ?_
              refine chain_move (.int .i64 j) _ (fun _ _ => Below.refl _ _) rfl rfl (by kernel_rfl) (by kernel_rfl) rfl ?_
              refine chain_idx (.pointer (some ⟨lb, lo + j * 5, none⟩)) _ _ _ (.slice (some ⟨lb, lo, none⟩) m cap) (.int .i64 j) (fun _ _ => Below.refl _ _) rfl rfl (by kernel_rfl) (by kernel_rfl) rfl rfl (fun w1 => idx_tie _ _ _ _ _ HJM.out w1) ?_
              refine chain_val (.pointer (some ⟨lb, lo + j * 5 + 1, none⟩)) (fun _ _ => Below.refl _ _) rfl (by intro cs b h; cases h) (by kernel_rfl) (by kernel_rfl) (fun w1 _ => by simp [execOp, evE, lk_cons, lk_nil, slotL, go_sem]) ?_
              refine chain_load (.int .i64 xb) _ _ _ (fun _ _ => Below.refl _ _) rfl rfl (by kernel_rfl) (by kernel_rfl) rfl (fun w1 hC => load_i64 (HLX.out w1 _ _ hC HC2.out)) ?_
              refine chain_idx (.pointer (some ⟨pb, po + xb, none⟩)) _ _ _ (.slice (some ⟨pb, po, none⟩) k kc) (.int .i64 xb) (fun _ _ => Below.refl _ _) rfl rfl (by kernel_rfl) (by kernel_rfl) rfl rfl (fun w1 => idx_i64 _ _ _ _ _ HXB.out.2 w1) ?_
              refine chain_load (.int .i64 v) _ _ _ (fun _ _ => Below.refl _ _) rfl rfl (by kernel_rfl) (by kernel_rfl) rfl (fun w1 hC => load_i64 (HPX.out w1 _ _ hC HPB.out)) ?_
              refine chain_bin (.bool d) _ _ _ _ _ (.int .i64 u) (.int .i64 v) (fun _ _ => Below.refl _ _) rfl rfl (by kernel_rfl) (by kernel_rfl) rfl rfl (fun w1 => eql_i64 _ _ _ _ _ _ HDD.out w1) ?_
              refine chain_pick (.bool d) _ _ _ true (fun _ _ => Below.refl _ _) rfl rfl (by kernel_rfl) (by kernel_rfl) rfl rfl ?_
              refine chain_pick (.bool d) _ _ _ false (fun _ _ => Below.refl _ _) rfl rfl (by kernel_rfl) (by kernel_rfl) rfl rfl ?_
              refine chain_end (by rfl) ?_
              intro xs w5 hCw5 hrew5
              simp only [layE, List.foldr_cons, List.foldr_nil, List.set_cons_succ, List.set_cons_zero]
              have HY := Lib.hid (HOWD.out w5 hCw5)
              clear hCw5 hrew5 HOWD HPX HLX
              go_wp2_with fail
              go_roundg (gk - 1)
              case measure => omega
              case rel => exact ⟨j + 1, by omega, by rw [HST2.out], by simp, FB.out.below HY.out, HI.out.below HY.out⟩
            · have HDK : Hid (false = decide (zk = 1)) := by simp [Hid, hk1]
              have HST2 : Hid ((ts.take (j + 1)).any (wrB L) = false) := by rw [HST.out, HWR.out]; simp [Hid, hk1]
              clear hk1 HST HWR
              refine wp_region_old 31 243 (by kernel_rfl) (by kernel_rfl) (by rfl) ?_
              simp only [List.take_succ_cons, List.take_zero, List.drop_succ_cons, List.drop_zero, List.drop_nil]
              refine chain_move (.bool false) _ (fun _ _ => Below.refl _ _) rfl rfl (by kernel_rfl) (by kernel_rfl) rfl ?_
              refine chain_move (.bool false) _ (fun _ _ => Below.refl _ _) rfl rfl (by kernel_rfl) (by kernel_rfl) rfl ?_
              refine chain_val (.pointer (some ⟨w.heap.size, 1, none⟩)) (fun _ _ => Below.refl _ _) rfl (by intro cs b h; cases h) (by kernel_rfl) (by kernel_rfl) (fun w1 _ => by simp [execOp, evE, lk_cons, lk_nil, slotL, go_sem]) ?_
              refine chain_load (.slice (some ⟨lb, lo, none⟩) m cap) _ _ _ (fun _ _ => Below.refl _ _) rfl rfl (by kernel_rfl) (by kernel_rfl) rfl (fun w1 hC => load_slt ((FB.out.1.below (HOWD.out w1 hC)).cell rfl)) ?_
              refine chain_move (.int .i64 j) _ (fun _ _ => Below.refl _ _) rfl rfl (by kernel_rfl) (by kernel_rfl) rfl ?_
              refine chain_idx (.pointer (some ⟨lb, lo + j * 5, none⟩)) _ _ _ (.slice (some ⟨lb, lo, none⟩) m cap) (.int .i64 j) (fun _ _ => Below.refl _ _) rfl rfl (by kernel_rfl) (by kernel_rfl) rfl rfl (fun w1 => idx_tie _ _ _ _ _ HJM.out w1) ?_
              refine chain_val (.pointer (some ⟨lb, lo + j * 5 + 2, none⟩)) (fun _ _ => Below.refl _ _) rfl (by intro cs b h; cases h) (by kernel_rfl) (by kernel_rfl) (fun w1 _ => by simp [execOp, evE, lk_cons, lk_nil, slotL, go_sem]) ?_
              refine chain_load (.int .i64 zk) _ _ _ (fun _ _ => Below.refl _ _) rfl rfl (by kernel_rfl) (by kernel_rfl) rfl (fun w1 hC => load_i64 (HLX.out w1 _ _ hC HC3.out)) ?_
              refine chain_bin (.bool false) _ _ _ _ _ (.int .i64 zk) (.int .i64 1) (fun _ _ => Below.refl _ _) rfl rfl (by kernel_rfl) (by kernel_rfl) rfl rfl (fun w1 => eql_i64 _ _ _ _ _ _ HDK.out w1) ?_
              refine chain_move (.bool false) _ (fun _ _ => Below.refl _ _) rfl rfl (by kernel_rfl) (by kernel_rfl) rfl ?_
              refine chain_skip rfl (by kernel_rfl) ?_
              refine chain_skip rfl (by kernel_rfl) ?_
              refine chain_skip rfl (by kernel_rfl) ?_
              refine chain_skip rfl (by kernel_rfl) ?_
              refine chain_skip rfl (by kernel_rfl) ?_
              refine chain_skip rfl (by kernel_rfl) ?_
              refine chain_skip rfl (by kernel_rfl) ?_
              refine chain_skip rfl (by kernel_rfl) ?_
              refine chain_skip rfl (by kernel_rfl) ?_
              refine chain_skip rfl (by kernel_rfl) ?_
              refine chain_skip rfl (by kernel_rfl) ?_
              refine chain_skip rfl (by kernel_rfl) ?_
              refine chain_skip rfl (by kernel_rfl) ?_
              refine chain_skip rfl (by kernel_rfl) ?_
              refine chain_skip rfl (by kernel_rfl) ?_
              refine chain_skip rfl (by kernel_rfl) ?_
              refine chain_skip rfl (by kernel_rfl) ?_
              refine chain_skip rfl (by kernel_rfl) ?_
              refine chain_skip rfl (by kernel_rfl) ?_
              refine chain_pick (.bool false) _ _ _ false (fun _ _ => Below.refl _ _) rfl rfl (by kernel_rfl) (by kernel_rfl) rfl rfl ?_
              refine chain_pick (.bool false) _ _ _ false (fun _ _ => Below.refl _ _) rfl rfl (by kernel_rfl) (by kernel_rfl) rfl rfl ?_
              refine chain_end (by rfl) ?_
              intro xs w5 hCw5 hrew5
              simp only [layE, List.foldr_cons, List.foldr_nil, List.set_cons_succ, List.set_cons_zero]
              have HY := Lib.hid (HOWD.out w5 hCw5)
              clear hCw5 hrew5 HOWD HPX HLX
              go_wp2_with fail
              go_roundg (gk - 1)
              case measure => omega
              case rel => exact ⟨j + 1, by omega, by rw [HST2.out], by simp, FB.out.below HY.out, HI.out.below HY.out⟩
          · have HST2 : Hid ((ts.take (j + 1)).any (wrB L) = true) := by rw [HST.out]; simp [Hid]
            clear HST HWR
            refine wp_region_old 31 243 (by kernel_rfl) (by kernel_rfl) (by rfl) ?_
            simp only [List.take_succ_cons, List.take_zero, List.drop_succ_cons, List.drop_zero, List.drop_nil]
            refine chain_move (.bool true) _ (fun _ _ => Below.refl _ _) rfl rfl (by kernel_rfl) (by kernel_rfl) rfl ?_
            refine chain_move (.bool true) _ (fun _ _ => Below.refl _ _) rfl rfl (by kernel_rfl) (by kernel_rfl) rfl ?_
            refine chain_skip rfl (by kernel_rfl) ?_
            refine chain_skip rfl (by kernel_rfl) ?_
            refine chain_skip rfl (by kernel_rfl) ?_
            refine chain_skip rfl (by kernel_rfl) ?_
            refine chain_skip rfl (by kernel_rfl) ?_
            refine chain_skip rfl (by kernel_rfl) ?_
            refine chain_skip rfl (by kernel_rfl) ?_
            refine chain_skip rfl (by kernel_rfl) ?_
            refine chain_skipU rfl (by kernel_rfl) ?_
            refine chain_skipU rfl (by kernel_rfl) ?_
            refine chain_skipU rfl (by kernel_rfl) ?_
            refine chain_skipU rfl (by kernel_rfl) ?_
            refine chain_skipU rfl (by kernel_rfl) ?_
            refine chain_skipU rfl (by kernel_rfl) ?_
            refine chain_skipU rfl (by kernel_rfl) ?_
            refine chain_skipU rfl (by kernel_rfl) ?_
            refine chain_skipU rfl (by kernel_rfl) ?_
            refine chain_skipU rfl (by kernel_rfl) ?_
            refine chain_skipU rfl (by kernel_rfl) ?_
            refine chain_skipU rfl (by kernel_rfl) ?_
            refine chain_skipU rfl (by kernel_rfl) ?_
            refine chain_skipU rfl (by kernel_rfl) ?_
            refine chain_skipU rfl (by kernel_rfl) ?_
            refine chain_skipU rfl (by kernel_rfl) ?_
            refine chain_skipU rfl (by kernel_rfl) ?_
            refine chain_skipU rfl (by kernel_rfl) ?_
            refine chain_skipU rfl (by kernel_rfl) ?_
            refine chain_skip rfl (by kernel_rfl) ?_
            refine chain_pick (.bool true) _ _ _ true (fun _ _ => Below.refl _ _) rfl rfl (by kernel_rfl) (by kernel_rfl) rfl rfl ?_
            refine chain_end (by rfl) ?_
            intro xs w5 hCw5 hrew5
            simp only [layE, List.foldr_cons, List.foldr_nil, List.set_cons_succ, List.set_cons_zero]
            have HY := Lib.hid (HOWD.out w5 hCw5)
            clear hCw5 hrew5 HOWD HPX HLX
            go_wp2_with fail
            go_roundg (gk - 1)
            case measure => omega
            case rel => exact ⟨j + 1, by omega, by rw [HST2.out], by simp, FB.out.below HY.out, HI.out.below HY.out⟩
        · have HE : Hid ((ts.take j).any (wrB L) = true) := by
            have := HCT.out
            rwa [List.take_of_length_le (by rw [← HML.out]; omega)]
          rw [HE.out]
          go_wp2_with fail
          go_ret
          exact ⟨rfl, FB.out.2⟩
    · -- it does not
      replace HAG2 := Lib.hid (HAG2.out hc)
      replace HAGO := Lib.hid (HAGO.out hc)
      replace HSAX := Lib.hid (HSAX.out hc)
      clear HCW HTS HV
      subst hc
      have hpl : p < L.length := by rw [HPZ.out.2.2.2]; exact HPZ.out.1
      have hzl : z < L.length := by rw [HPZ.out.2.2.2]; exact HPZ.out.2.1
      obtain ⟨pb, po, rfl, hpb, pa1⟩ := HI.out.at hpl
      obtain ⟨pb', po', e2, _, pb1⟩ := HI.out.at hzl
      obtain ⟨rfl, rfl⟩ : pb = pb' ∧ po = po' := by simpa using e2
      have ea : L[p] = atI L p := by unfold atI; rw [Int.toNat_natCast, List.getElem?_eq_getElem hpl]; rfl
      have eb : L[z] = atI L z := by unfold atI; rw [Int.toNat_natCast, List.getElem?_eq_getElem hzl]; rfl
      rw [ea] at pa1
      rw [eb] at pb1
      have HPA := Lib.hid pa1
      have HPB := Lib.hid pb1
      have HPL := Lib.hid hpb
      obtain ⟨u, hu⟩ : ∃ u, u = atI L p := ⟨_, rfl⟩
      obtain ⟨v, hv⟩ : ∃ v, v = atI L z := ⟨_, rfl⟩
      have HUV : Hid (u = atI L p ∧ v = atI L z) := ⟨hu, hv⟩
      rw [← hu] at HPA
      rw [← hv] at HPB
      have HSD : Hid (S = decide (u = v)) := by rw [hu, hv]; exact HSL.out
      have HXB : Hid (p < k ∧ z < k) := ⟨HPZ.out.1, HPZ.out.2.1⟩
      clear e2 pa1 pb1 ea eb hpb hpl hzl HSL hu hv
      go_upto_region 20 with (fail)
      have HOWD : Hid (∀ w1, (clOld wc.drew).C w1 → Below wc.heap.size wc w1) := fun w1 hC => old_end (Below.refl _ _) hC (Nat.le_refl _)
      have HPX : Hid (∀ w1 x y, (clOld wc.drew).C w1 → wc.cell? ⟨pb, x, none⟩ = some y → w1.cell? ⟨pb, x, none⟩ = some y) := fun w1 x y hC h => by rw [Below.cell (HOWD.out w1 hC) (by exact HPL.out)]; exact h
      cases S <;> cases A
      · replace HAGO := Lib.hid (HAGO.out rfl)
        clear HSAX
        refine wp_region_old 23 243 (by kernel_rfl) (by kernel_rfl) (by rfl) ?_
        simp only [List.take_succ_cons, List.take_zero, List.drop_succ_cons, List.drop_zero, List.drop_nil]
        refine chain_load (.agg #[.int .i64 k, .slice a m cap]) _ _ _ (fun _ _ => Below.refl _ _) rfl rfl (by kernel_rfl) (by kernel_rfl) rfl (fun w1 hC => load_g ((FB.out.1.below (HOWD.out w1 hC)).cell rfl) ((FB.out.1.below (HOWD.out w1 hC)).cell rfl)) ?_
        refine chain_move (.slice (some ⟨pb, po, none⟩) k kc) _ (fun _ _ => Below.refl _ _) rfl rfl (by kernel_rfl) (by kernel_rfl) rfl ?_
        refine chain_call (.bool true) 27 [.agg #[.int .i64 k, .slice a m cap], .slice (some ⟨pb, po, none⟩) k kc] _ _ (enters_of Tryz.func27 (by kernel_rfl) rfl) rfl rfl rfl (by kernel_rfl) (by kernel_rfl) rfl rfl (fun w1 hC => HAG2.out w1 _ _ (FB.out.2.trans ((HOWD.out w1 hC).mono FB.out.2.size)) (HI.out.below (HOWD.out w1 hC))) ?_
        refine chain_un (.bool false) _ _ _ (.bool true) (fun _ _ => Below.refl _ _) rfl rfl (by kernel_rfl) (by kernel_rfl) rfl (fun w => un_not _ w) ?_
        refine chain_move (.bool false) _ (fun _ _ => Below.refl _ _) rfl rfl (by kernel_rfl) (by kernel_rfl) rfl ?_
        refine chain_move (.bool false) _ (fun _ _ => Below.refl _ _) rfl rfl (by kernel_rfl) (by kernel_rfl) rfl ?_
        refine chain_move (.slice (some ⟨pb, po, none⟩) k kc) _ (fun _ _ => Below.refl _ _) rfl rfl (by kernel_rfl) (by kernel_rfl) rfl ?_
        refine chain_move (.int .i64 p) _ (fun _ _ => Below.refl _ _) rfl rfl (by kernel_rfl) (by kernel_rfl) rfl ?_
        refine chain_idx (.pointer (some ⟨pb, po + p, none⟩)) _ _ _ (.slice (some ⟨pb, po, none⟩) k kc) (.int .i64 p) (fun _ _ => Below.refl _ _) rfl rfl (by kernel_rfl) (by kernel_rfl) rfl rfl (fun w1 => idx_i64 _ _ _ _ _ HXB.out.1 w1) ?_
        refine chain_load (.int .i64 u) _ _ _ (fun _ _ => Below.refl _ _) rfl rfl (by kernel_rfl) (by kernel_rfl) rfl (fun w1 hC => load_i64 (HPX.out w1 _ _ hC HPA.out)) ?_
        refine chain_move (.slice (some ⟨pb, po, none⟩) k kc) _ (fun _ _ => Below.refl _ _) rfl rfl (by kernel_rfl) (by kernel_rfl) rfl ?_
        refine chain_move (.int .i64 z) _ (fun _ _ => Below.refl _ _) rfl rfl (by kernel_rfl) (by kernel_rfl) rfl ?_
        refine chain_idx (.pointer (some ⟨pb, po + z, none⟩)) _ _ _ (.slice (some ⟨pb, po, none⟩) k kc) (.int .i64 z) (fun _ _ => Below.refl _ _) rfl rfl (by kernel_rfl) (by kernel_rfl) rfl rfl (fun w1 => idx_i64 _ _ _ _ _ HXB.out.2 w1) ?_
        refine chain_load (.int .i64 v) _ _ _ (fun _ _ => Below.refl _ _) rfl rfl (by kernel_rfl) (by kernel_rfl) rfl (fun w1 hC => load_i64 (HPX.out w1 _ _ hC HPB.out)) ?_
        refine chain_bin (.bool false) _ _ _ _ _ (.int .i64 u) (.int .i64 v) (fun _ _ => Below.refl _ _) rfl rfl (by kernel_rfl) (by kernel_rfl) rfl rfl (fun w1 => eql_i64 _ _ _ _ _ _ HSD.out w1) ?_
        refine chain_bin (.bool false) _ _ _ _ _ (.bool false) (.bool false) (fun _ _ => Below.refl _ _) rfl rfl (by kernel_rfl) (by kernel_rfl) rfl rfl (fun w1 => neq_bool _ _ _ _ _ (by trivial) w1) ?_
        refine chain_pick (.bool false) _ _ _ false (fun _ _ => Below.refl _ _) rfl rfl (by kernel_rfl) (by kernel_rfl) rfl rfl ?_
        refine chain_move (.bool false) _ (fun _ _ => Below.refl _ _) rfl rfl (by kernel_rfl) (by kernel_rfl) rfl ?_
        refine chain_move (.bool false) _ (fun _ _ => Below.refl _ _) rfl rfl (by kernel_rfl) (by kernel_rfl) rfl ?_
        refine chain_move (.bool false) _ (fun _ _ => Below.refl _ _) rfl rfl (by kernel_rfl) (by kernel_rfl) rfl ?_
        refine chain_skip rfl (by kernel_rfl) ?_
        refine chain_pick (.bool false) _ _ _ false (fun _ _ => Below.refl _ _) rfl rfl (by kernel_rfl) (by kernel_rfl) rfl rfl ?_
        refine chain_pick (.bool false) _ _ _ false (fun _ _ => Below.refl _ _) rfl rfl (by kernel_rfl) (by kernel_rfl) rfl rfl ?_
        refine chain_end (by rfl) ?_
        intro xs w9 hCw9 hrew9
        simp only [layE, List.foldr_cons, List.foldr_nil, List.set_cons_succ, List.set_cons_zero]
        have HY := Lib.hid (HOWD.out w9 hCw9)
        clear hCw9 hrew9
        replace FB := Lib.hid (FB.out.below HY.out)
        replace HI := Lib.hid (HI.out.below HY.out)
        clear HOWD HPX HAG2 HPA HPB HSD
        have hk0 := FB.out.1.cell (i := 0) rfl
        have hmk := run_make_row' (P := Tryz.prog) 25 3 (.int .i64 0) 8 Tryz.underlying25 infoInt rfl .i64 .i64 k (by have := HPZ.out.2.2.1; omega) (by have := HPZ.out.2.2.1; omega)
        go_wp2_with fail
        have HROW : Hid (NB (w9.alloc (.cells (madeCells #[.int .i64 0] k) 3)) w9.heap.size (fillK (oneL L p z) k 0)) := by have := NB.made w9 k; unfold fillK; simpa [Hid] using this
        have HPG : Hid (pb < w9.heap.size ∧ w.heap.size < w9.heap.size) := ⟨Nat.lt_of_lt_of_le HPL.out HY.out.size, FB.out.1.lt⟩
        refine named (fun V => Hid (NB V w9.heap.size (fillK (oneL L p z) k 0)) ∧ Hid (FA w V [.int .i64 k, .slice a m cap]) ∧ Hid (IntsAt V (some ⟨pb, po, none⟩) L)) ⟨HROW, FB.out.below ((Below.refl _ _).alloc (Nat.le_refl _) _), HI.out.below ((Below.refl _ _).alloc (Nat.le_refl _) _)⟩ ?_
        rintro V ⟨HN, FV, IV⟩
        generalize w9.heap.size = g at HPG HN ⊢
        clear FB HI HROW hmk hk0 HY HPL
        have HOL : Hid ((oneL L p z).length = k) := by unfold oneL; simp only [Hid, List.length_map]; exact HPZ.out.2.2.2
        have HOA : Hid (∀ j, j < k → (oneL L p z)[j]? = some (if atI L (j : Int) = v then u else atI L (j : Int))) := fun j hj => by
          have h := atI_some (l := oneL L p z) (i := (j : Int)) (by rw [HOL.out, Int.toNat_natCast]; exact hj)
          rw [Int.toNat_natCast] at h
          rw [h, one_at (by rw [Int.toNat_natCast, HPZ.out.2.2.2]; exact hj), HUV.out.1, HUV.out.2]
        obtain ⟨O, hO⟩ : ∃ O, O = oneL L p z := ⟨_, rfl⟩
        rw [← hO] at HN HOL HOA HAGO
        clear hO
        go_loopg [21] k (fun gk t21 wr => ∃ j : Nat, j + gk = k ∧ t21 = .int .i64 j ∧ Hid (NB wr g (fillK O k j)) ∧ Hid (FA w wr [.int .i64 k, .slice a m cap]) ∧ Hid (IntsAt wr (some ⟨pb, po, none⟩) L))
        case atStart => exact ⟨0, by omega, rfl, HN, FV, IV⟩
        case round =>
          clear HN FV IV
          obtain ⟨j, hjg, rfl, HN, FB, HI⟩ := hrel
          have c0 := FB.out.1.cell (i := 0) rfl
          by_cases hlt : j < k
          · have hjl : j < L.length := by rw [HPZ.out.2.2.2]; exact hlt
            have ej : L[j] = atI L j := by unfold atI; rw [Int.toNat_natCast, List.getElem?_eq_getElem hjl]; rfl
            obtain ⟨_, _, e2, hpb, pa1⟩ := HI.out.at hjl
            cases e2
            rw [ej] at pa1
            have HOJ := Lib.hid (HOA.out j hlt)
            obtain ⟨e, he⟩ : ∃ e, e = atI L (j : Int) := ⟨_, rfl⟩
            rw [← he] at pa1 HOJ
            have HEJ := Lib.hid he
            have hn0 := HN.out.cell (fillK_at HOL.out hlt)
            have hf0 := HN.out.frozen j
            have HNE : Hid (pb ≠ g) := by have := HPG.out.1; simp only [Hid]; omega
            have HJK := Lib.hid hlt
            clear he hjl ej
            go_upto_region 28 with (fail)
            refine named (fun V => Hid (NB V g ((fillK O k j).set j e)) ∧ Hid (FA w V [.int .i64 k, .slice a m cap]) ∧ Hid (IntsAt V (some ⟨pb, po, none⟩) L)) ⟨HN.out.set_ j e, FB.out.set_ HPG.out.2 _ _, HI.out.only ((Only.refl g wr).set_ _ _) HNE.out⟩ ?_
            rintro V ⟨HN1, FV, IV⟩
            clear c0 pa1 hn0 hf0 hpb HN FB HI
            have HOWD : Hid (∀ w1, (clOld V.drew).C w1 → Below V.heap.size V w1) := fun w1 hC => old_end (Below.refl _ _) hC (Nat.le_refl _)
            have HCE : Hid (∀ w1 (i : Nat), (clOld V.drew).C w1 → i < k → w1.cell? ⟨pb, po + i, none⟩ = some (.int .i64 (atI L (i : Int)))) := fun w1 i hC hi => by
              have hil : i < L.length := by rw [HPZ.out.2.2.2]; exact hi
              obtain ⟨_, _, e2, _, h⟩ := (IV.out.below (HOWD.out w1 hC)).at hil
              cases e2
              rw [h]; unfold atI; rw [Int.toNat_natCast, List.getElem?_eq_getElem hil]; rfl
            rcases Bool.eq_false_or_eq_true (decide (e = v)) with hd | hd
            · have HDD := Lib.hid hd
              clear hd
              refine wp_region_old 9 243 (by kernel_rfl) (by kernel_rfl) (by rfl) ?_
              simp only [List.take_succ_cons, List.take_zero, List.drop_succ_cons, List.drop_zero, List.drop_nil]
              refine chain_move (.slice (some ⟨pb, po, none⟩) k kc) _ (fun _ _ => Below.refl _ _) rfl rfl (by kernel_rfl) (by kernel_rfl) rfl ?_
              refine chain_move (.int .i64 j) _ (fun _ _ => Below.refl _ _) rfl rfl (by kernel_rfl) (by kernel_rfl) rfl ?_
              refine chain_idx (.pointer (some ⟨pb, po + j, none⟩)) _ _ _ (.slice (some ⟨pb, po, none⟩) k kc) (.int .i64 j) (fun _ _ => Below.refl _ _) rfl rfl (by kernel_rfl) (by kernel_rfl) rfl rfl (fun w1 => idx_i64 _ _ _ _ _ HJK.out w1) ?_
              refine chain_load (.int .i64 e) _ _ _ (fun _ _ => Below.refl _ _) rfl rfl (by kernel_rfl) (by kernel_rfl) rfl (fun w1 hC => load_i64 (by rw [HEJ.out]; exact HCE.out w1 j hC HJK.out)) ?_
              refine chain_move (.slice (some ⟨pb, po, none⟩) k kc) _ (fun _ _ => Below.refl _ _) rfl rfl (by kernel_rfl) (by kernel_rfl) rfl ?_
              refine chain_move (.int .i64 z) _ (fun _ _ => Below.refl _ _) rfl rfl (by kernel_rfl) (by kernel_rfl) rfl ?_
              refine chain_idx (.pointer (some ⟨pb, po + z, none⟩)) _ _ _ (.slice (some ⟨pb, po, none⟩) k kc) (.int .i64 z) (fun _ _ => Below.refl _ _) rfl rfl (by kernel_rfl) (by kernel_rfl) rfl rfl (fun w1 => idx_i64 _ _ _ _ _ HXB.out.2 w1) ?_
              refine chain_load (.int .i64 v) _ _ _ (fun _ _ => Below.refl _ _) rfl rfl (by kernel_rfl) (by kernel_rfl) rfl (fun w1 hC => load_i64 (by rw [HUV.out.2]; exact HCE.out w1 z hC HXB.out.2)) ?_
              refine chain_bin (.bool true) _ _ _ _ _ (.int .i64 e) (.int .i64 v) (fun _ _ => Below.refl _ _) rfl rfl (by kernel_rfl) (by kernel_rfl) rfl rfl (fun w1 => eql_i64 _ _ _ _ _ _ HDD.out.symm w1) ?_
              refine chain_end (by rfl) ?_
              intro xs w5 hCw5 hrew5
              simp only [layE, List.foldr_cons, List.foldr_nil, List.set_cons_succ, List.set_cons_zero]
              have HY := Lib.hid (HOWD.out w5 hCw5)
              have HOK : Hid (((fillK O k j).set j e).set j u = fillK O k (j + 1)) := by
                rw [set_twice]
                exact fillK_set HOL.out HJK.out _ (by rw [HOJ.out, if_pos (by have := HDD.out; simpa using this)])
              have HN2 := Lib.hid (HN1.out.block (HY.out.block g HN1.out.lt))
              have FB := Lib.hid (FV.out.below HY.out)
              have HI := Lib.hid (IV.out.below HY.out)
              have pc := HCE.out _ p hCw5 HXB.out.1
              rw [← HUV.out.1] at pc
              have hn0 := HN2.out.cell (i := j) (x := e) (by rw [List.getElem?_set]; simp; unfold fillK; simp; have := HOL.out; have := HJK.out; omega)
              have hf0 := HN2.out.frozen j
              have HXP := HXB.out.1
              have hk32 := HPZ.out.2.2.1
              clear hCw5 hrew5 HOWD HCE HN1 FV IV HOJ HDD
              go_wp2_with fail
              go_roundg (gk - 1)
              case measure => omega
              case rel => exact ⟨j + 1, by omega, by simp, (by have := HN2.out.set_ j u; rw [HOK.out] at this; exact this), FB.out.set_ HPG.out.2 _ _, HI.out.only ((Only.refl g _).set_ _ _) HNE.out⟩
            · have HDD := Lib.hid hd
              clear hd
              refine wp_region_old 9 243 (by kernel_rfl) (by kernel_rfl) (by rfl) ?_
              simp only [List.take_succ_cons, List.take_zero, List.drop_succ_cons, List.drop_zero, List.drop_nil]
              refine chain_move (.slice (some ⟨pb, po, none⟩) k kc) _ (fun _ _ => Below.refl _ _) rfl rfl (by kernel_rfl) (by kernel_rfl) rfl ?_
              refine chain_move (.int .i64 j) _ (fun _ _ => Below.refl _ _) rfl rfl (by kernel_rfl) (by kernel_rfl) rfl ?_
              refine chain_idx (.pointer (some ⟨pb, po + j, none⟩)) _ _ _ (.slice (some ⟨pb, po, none⟩) k kc) (.int .i64 j) (fun _ _ => Below.refl _ _) rfl rfl (by kernel_rfl) (by kernel_rfl) rfl rfl (fun w1 => idx_i64 _ _ _ _ _ HJK.out w1) ?_
              refine chain_load (.int .i64 e) _ _ _ (fun _ _ => Below.refl _ _) rfl rfl (by kernel_rfl) (by kernel_rfl) rfl (fun w1 hC => load_i64 (by rw [HEJ.out]; exact HCE.out w1 j hC HJK.out)) ?_
              refine chain_move (.slice (some ⟨pb, po, none⟩) k kc) _ (fun _ _ => Below.refl _ _) rfl rfl (by kernel_rfl) (by kernel_rfl) rfl ?_
              refine chain_move (.int .i64 z) _ (fun _ _ => Below.refl _ _) rfl rfl (by kernel_rfl) (by kernel_rfl) rfl ?_
              refine chain_idx (.pointer (some ⟨pb, po + z, none⟩)) _ _ _ (.slice (some ⟨pb, po, none⟩) k kc) (.int .i64 z) (fun _ _ => Below.refl _ _) rfl rfl (by kernel_rfl) (by kernel_rfl) rfl rfl (fun w1 => idx_i64 _ _ _ _ _ HXB.out.2 w1) ?_
              refine chain_load (.int .i64 v) _ _ _ (fun _ _ => Below.refl _ _) rfl rfl (by kernel_rfl) (by kernel_rfl) rfl (fun w1 hC => load_i64 (by rw [HUV.out.2]; exact HCE.out w1 z hC HXB.out.2)) ?_
              refine chain_bin (.bool false) _ _ _ _ _ (.int .i64 e) (.int .i64 v) (fun _ _ => Below.refl _ _) rfl rfl (by kernel_rfl) (by kernel_rfl) rfl rfl (fun w1 => eql_i64 _ _ _ _ _ _ HDD.out.symm w1) ?_
              refine chain_end (by rfl) ?_
              intro xs w5 hCw5 hrew5
              simp only [layE, List.foldr_cons, List.foldr_nil, List.set_cons_succ, List.set_cons_zero]
              have HY := Lib.hid (HOWD.out w5 hCw5)
              have HOK : Hid ((fillK O k j).set j e = fillK O k (j + 1)) := fillK_set HOL.out HJK.out _ (by rw [HOJ.out, if_neg (by have := HDD.out; simpa using this)])
              have HN2 := Lib.hid (HN1.out.block (HY.out.block g HN1.out.lt))
              rw [HOK.out] at HN2
              have FB := Lib.hid (FV.out.below HY.out)
              have HI := Lib.hid (IV.out.below HY.out)
              have hk32 := HPZ.out.2.2.1
              clear hCw5 hrew5 HOWD HCE HN1 FV IV HOJ HDD
              go_wp2_with fail
              go_roundg (gk - 1)
              case measure => omega
              case rel => exact ⟨j + 1, by omega, by simp, HN2, FB, HI⟩
          · have c1 := FB.out.1.cell (i := 1) rfl
            have HJE : j = k := by omega
            subst HJE
            have HIN := Lib.hid HN.out.ints
            rw [fillK_end HOL.out] at HIN
            go_wp2_with (first | (go_at_call 26; go_loud (refine (HAGO.out _ _ _ FB.out.2 HIN.out).mono ?_; rintro e w3 ⟨rfl, hb⟩); have HB3 := Lib.hid (FB.out.2.trans (hb.mono FB.out.2.size)); clear hb))
            go_ret
            exact ⟨rfl, HB3.out⟩
      · clear HAGO HSAX
        refine wp_region_old 23 243 (by kernel_rfl) (by kernel_rfl) (by rfl) ?_
        simp only [List.take_succ_cons, List.take_zero, List.drop_succ_cons, List.drop_zero, List.drop_nil]
        refine chain_load (.agg #[.int .i64 k, .slice a m cap]) _ _ _ (fun _ _ => Below.refl _ _) rfl rfl (by kernel_rfl) (by kernel_rfl) rfl (fun w1 hC => load_g ((FB.out.1.below (HOWD.out w1 hC)).cell rfl) ((FB.out.1.below (HOWD.out w1 hC)).cell rfl)) ?_
        refine chain_move (.slice (some ⟨pb, po, none⟩) k kc) _ (fun _ _ => Below.refl _ _) rfl rfl (by kernel_rfl) (by kernel_rfl) rfl ?_
        refine chain_call (.bool true) 27 [.agg #[.int .i64 k, .slice a m cap], .slice (some ⟨pb, po, none⟩) k kc] _ _ (enters_of Tryz.func27 (by kernel_rfl) rfl) rfl rfl rfl (by kernel_rfl) (by kernel_rfl) rfl rfl (fun w1 hC => HAG2.out w1 _ _ (FB.out.2.trans ((HOWD.out w1 hC).mono FB.out.2.size)) (HI.out.below (HOWD.out w1 hC))) ?_
        refine chain_un (.bool false) _ _ _ (.bool true) (fun _ _ => Below.refl _ _) rfl rfl (by kernel_rfl) (by kernel_rfl) rfl (fun w => un_not _ w) ?_
        refine chain_move (.bool false) _ (fun _ _ => Below.refl _ _) rfl rfl (by kernel_rfl) (by kernel_rfl) rfl ?_
        refine chain_move (.bool false) _ (fun _ _ => Below.refl _ _) rfl rfl (by kernel_rfl) (by kernel_rfl) rfl ?_
        refine chain_move (.slice (some ⟨pb, po, none⟩) k kc) _ (fun _ _ => Below.refl _ _) rfl rfl (by kernel_rfl) (by kernel_rfl) rfl ?_
        refine chain_move (.int .i64 p) _ (fun _ _ => Below.refl _ _) rfl rfl (by kernel_rfl) (by kernel_rfl) rfl ?_
        refine chain_idx (.pointer (some ⟨pb, po + p, none⟩)) _ _ _ (.slice (some ⟨pb, po, none⟩) k kc) (.int .i64 p) (fun _ _ => Below.refl _ _) rfl rfl (by kernel_rfl) (by kernel_rfl) rfl rfl (fun w1 => idx_i64 _ _ _ _ _ HXB.out.1 w1) ?_
        refine chain_load (.int .i64 u) _ _ _ (fun _ _ => Below.refl _ _) rfl rfl (by kernel_rfl) (by kernel_rfl) rfl (fun w1 hC => load_i64 (HPX.out w1 _ _ hC HPA.out)) ?_
        refine chain_move (.slice (some ⟨pb, po, none⟩) k kc) _ (fun _ _ => Below.refl _ _) rfl rfl (by kernel_rfl) (by kernel_rfl) rfl ?_
        refine chain_move (.int .i64 z) _ (fun _ _ => Below.refl _ _) rfl rfl (by kernel_rfl) (by kernel_rfl) rfl ?_
        refine chain_idx (.pointer (some ⟨pb, po + z, none⟩)) _ _ _ (.slice (some ⟨pb, po, none⟩) k kc) (.int .i64 z) (fun _ _ => Below.refl _ _) rfl rfl (by kernel_rfl) (by kernel_rfl) rfl rfl (fun w1 => idx_i64 _ _ _ _ _ HXB.out.2 w1) ?_
        refine chain_load (.int .i64 v) _ _ _ (fun _ _ => Below.refl _ _) rfl rfl (by kernel_rfl) (by kernel_rfl) rfl (fun w1 hC => load_i64 (HPX.out w1 _ _ hC HPB.out)) ?_
        refine chain_bin (.bool false) _ _ _ _ _ (.int .i64 u) (.int .i64 v) (fun _ _ => Below.refl _ _) rfl rfl (by kernel_rfl) (by kernel_rfl) rfl rfl (fun w1 => eql_i64 _ _ _ _ _ _ HSD.out w1) ?_
        refine chain_bin (.bool false) _ _ _ _ _ (.bool false) (.bool false) (fun _ _ => Below.refl _ _) rfl rfl (by kernel_rfl) (by kernel_rfl) rfl rfl (fun w1 => neq_bool _ _ _ _ _ (by trivial) w1) ?_
        refine chain_pick (.bool false) _ _ _ false (fun _ _ => Below.refl _ _) rfl rfl (by kernel_rfl) (by kernel_rfl) rfl rfl ?_
        refine chain_move (.bool false) _ (fun _ _ => Below.refl _ _) rfl rfl (by kernel_rfl) (by kernel_rfl) rfl ?_
        refine chain_move (.bool false) _ (fun _ _ => Below.refl _ _) rfl rfl (by kernel_rfl) (by kernel_rfl) rfl ?_
        refine chain_move (.bool false) _ (fun _ _ => Below.refl _ _) rfl rfl (by kernel_rfl) (by kernel_rfl) rfl ?_
        refine chain_skip rfl (by kernel_rfl) ?_
        refine chain_pick (.bool false) _ _ _ false (fun _ _ => Below.refl _ _) rfl rfl (by kernel_rfl) (by kernel_rfl) rfl rfl ?_
        refine chain_pick (.bool false) _ _ _ false (fun _ _ => Below.refl _ _) rfl rfl (by kernel_rfl) (by kernel_rfl) rfl rfl ?_
        refine chain_end (by rfl) ?_
        intro xs w9 hCw9 hrew9
        simp only [layE, List.foldr_cons, List.foldr_nil, List.set_cons_succ, List.set_cons_zero]
        have HY := Lib.hid (HOWD.out w9 hCw9)
        clear hCw9 hrew9
        replace FB := Lib.hid (FB.out.below HY.out)
        replace HI := Lib.hid (HI.out.below HY.out)
        go_wp2_with fail
        go_ret
        exact ⟨rfl, FB.out.2⟩
      · clear HAGO HSAX
        refine wp_region_old 23 243 (by kernel_rfl) (by kernel_rfl) (by rfl) ?_
        simp only [List.take_succ_cons, List.take_zero, List.drop_succ_cons, List.drop_zero, List.drop_nil]
        refine chain_load (.agg #[.int .i64 k, .slice a m cap]) _ _ _ (fun _ _ => Below.refl _ _) rfl rfl (by kernel_rfl) (by kernel_rfl) rfl (fun w1 hC => load_g ((FB.out.1.below (HOWD.out w1 hC)).cell rfl) ((FB.out.1.below (HOWD.out w1 hC)).cell rfl)) ?_
        refine chain_move (.slice (some ⟨pb, po, none⟩) k kc) _ (fun _ _ => Below.refl _ _) rfl rfl (by kernel_rfl) (by kernel_rfl) rfl ?_
        refine chain_call (.bool true) 27 [.agg #[.int .i64 k, .slice a m cap], .slice (some ⟨pb, po, none⟩) k kc] _ _ (enters_of Tryz.func27 (by kernel_rfl) rfl) rfl rfl rfl (by kernel_rfl) (by kernel_rfl) rfl rfl (fun w1 hC => HAG2.out w1 _ _ (FB.out.2.trans ((HOWD.out w1 hC).mono FB.out.2.size)) (HI.out.below (HOWD.out w1 hC))) ?_
        refine chain_un (.bool false) _ _ _ (.bool true) (fun _ _ => Below.refl _ _) rfl rfl (by kernel_rfl) (by kernel_rfl) rfl (fun w => un_not _ w) ?_
        refine chain_move (.bool false) _ (fun _ _ => Below.refl _ _) rfl rfl (by kernel_rfl) (by kernel_rfl) rfl ?_
        refine chain_move (.bool true) _ (fun _ _ => Below.refl _ _) rfl rfl (by kernel_rfl) (by kernel_rfl) rfl ?_
        refine chain_move (.slice (some ⟨pb, po, none⟩) k kc) _ (fun _ _ => Below.refl _ _) rfl rfl (by kernel_rfl) (by kernel_rfl) rfl ?_
        refine chain_move (.int .i64 p) _ (fun _ _ => Below.refl _ _) rfl rfl (by kernel_rfl) (by kernel_rfl) rfl ?_
        refine chain_idx (.pointer (some ⟨pb, po + p, none⟩)) _ _ _ (.slice (some ⟨pb, po, none⟩) k kc) (.int .i64 p) (fun _ _ => Below.refl _ _) rfl rfl (by kernel_rfl) (by kernel_rfl) rfl rfl (fun w1 => idx_i64 _ _ _ _ _ HXB.out.1 w1) ?_
        refine chain_load (.int .i64 u) _ _ _ (fun _ _ => Below.refl _ _) rfl rfl (by kernel_rfl) (by kernel_rfl) rfl (fun w1 hC => load_i64 (HPX.out w1 _ _ hC HPA.out)) ?_
        refine chain_move (.slice (some ⟨pb, po, none⟩) k kc) _ (fun _ _ => Below.refl _ _) rfl rfl (by kernel_rfl) (by kernel_rfl) rfl ?_
        refine chain_move (.int .i64 z) _ (fun _ _ => Below.refl _ _) rfl rfl (by kernel_rfl) (by kernel_rfl) rfl ?_
        refine chain_idx (.pointer (some ⟨pb, po + z, none⟩)) _ _ _ (.slice (some ⟨pb, po, none⟩) k kc) (.int .i64 z) (fun _ _ => Below.refl _ _) rfl rfl (by kernel_rfl) (by kernel_rfl) rfl rfl (fun w1 => idx_i64 _ _ _ _ _ HXB.out.2 w1) ?_
        refine chain_load (.int .i64 v) _ _ _ (fun _ _ => Below.refl _ _) rfl rfl (by kernel_rfl) (by kernel_rfl) rfl (fun w1 hC => load_i64 (HPX.out w1 _ _ hC HPB.out)) ?_
        refine chain_bin (.bool true) _ _ _ _ _ (.int .i64 u) (.int .i64 v) (fun _ _ => Below.refl _ _) rfl rfl (by kernel_rfl) (by kernel_rfl) rfl rfl (fun w1 => eql_i64 _ _ _ _ _ _ HSD.out w1) ?_
        refine chain_bin (.bool false) _ _ _ _ _ (.bool true) (.bool true) (fun _ _ => Below.refl _ _) rfl rfl (by kernel_rfl) (by kernel_rfl) rfl rfl (fun w1 => neq_bool _ _ _ _ _ (by trivial) w1) ?_
        refine chain_pick (.bool false) _ _ _ false (fun _ _ => Below.refl _ _) rfl rfl (by kernel_rfl) (by kernel_rfl) rfl rfl ?_
        refine chain_move (.bool false) _ (fun _ _ => Below.refl _ _) rfl rfl (by kernel_rfl) (by kernel_rfl) rfl ?_
        refine chain_move (.bool true) _ (fun _ _ => Below.refl _ _) rfl rfl (by kernel_rfl) (by kernel_rfl) rfl ?_
        refine chain_move (.bool true) _ (fun _ _ => Below.refl _ _) rfl rfl (by kernel_rfl) (by kernel_rfl) rfl ?_
        refine chain_move (.bool false) _ (fun _ _ => Below.refl _ _) rfl rfl (by kernel_rfl) (by kernel_rfl) rfl ?_
        refine chain_pick (.bool false) _ _ _ true (fun _ _ => Below.refl _ _) rfl rfl (by kernel_rfl) (by kernel_rfl) rfl rfl ?_
        refine chain_pick (.bool false) _ _ _ false (fun _ _ => Below.refl _ _) rfl rfl (by kernel_rfl) (by kernel_rfl) rfl rfl ?_
        refine chain_end (by rfl) ?_
        intro xs w9 hCw9 hrew9
        simp only [layE, List.foldr_cons, List.foldr_nil, List.set_cons_succ, List.set_cons_zero]
        have HY := Lib.hid (HOWD.out w9 hCw9)
        clear hCw9 hrew9
        replace FB := Lib.hid (FB.out.below HY.out)
        replace HI := Lib.hid (HI.out.below HY.out)
        go_wp2_with fail
        go_ret
        exact ⟨rfl, FB.out.2⟩
      · exact absurd ⟨rfl, rfl⟩ HSAX.out
end Go.Proofs.YtjcafjffmiknmaaGreat
/- Layer 4: the law TiesFollows, for all arguments. -/
namespace Go.Proofs.YtjcafjffmiknmaaGreat
set_option linter.unusedSimpArgs false
set_option linter.unusedVariables false
open Go Go.RowKit

theorem same_dec {k : Nat} {ts : List TieD} {x y : Int} (h0 : errA k ts x y = 0) : sameR k ts x y = decide (atI (grpL k ts) x = atI (grpL k ts) y) := by
  unfold sameR
  rw [if_pos h0, Int.toNat_natCast]
  exact Bool.eq_iff_iff.2 (by simp)
theorem apart_dec {k : Nat} {ts : List TieD} {x y : Int} (h0 : errA k ts x y = 0) : apartR k ts x y = apB (grpL k ts) ts x y := by
  unfold apartR
  rw [if_pos h0, Int.toNat_natCast]
set_option maxRecDepth 100000 in
set_option maxHeartbeats 4000000 in
theorem tiesFollows_any (n : Int) (a r : Option Addr) (cap cq : Nat) (ts : List TieD) (P : List Int) (x y : Int) (w : World) (hl : ts.length ≤ 9223372036854775807) (hs : TiesAt w a ts) (hr : IntsAt w r P)
    (hsane : ∀ W, Calls Tryz.prog 7 #[] W fun e w' => e = .returned (.bool true) ∧ Below W.heap.size W w') :
    Calls Tryz.prog 5 #[gV n a ts.length cap, .slice r P.length cq, .int .i64 x, .int .i64 y] w fun e w' => e = .returned (.bool true) ∧ Below w.heap.size w w' := by
  by_cases hno : fewB ts.length = false ∨ errA n ts x y ≠ 0
  · exact tiesFollows_no n a r cap cq ts.length P.length ts x y w rfl hl hs hno hsane
  have hf : fewB ts.length = true := by cases h : fewB ts.length with | true => rfl | false => exact absurd (.inl h) hno
  have h0 : errA n ts x y = 0 := Classical.byContradiction fun h => hno (.inr h)
  clear hno
  obtain ⟨hok, hxy⟩ := errA_ok h0
  obtain ⟨k, rfl, hk1, hk2, hl5, hv⟩ := okG_parts hok
  unfold ftB at hxy
  simp only [Bool.and_eq_true, decide_eq_true_eq] at hxy
  obtain ⟨p, rfl⟩ := Int.eq_ofNat_of_zero_le hxy.1.1
  obtain ⟨z, rfl⟩ := Int.eq_ofNat_of_zero_le hxy.2.1
  have hp : p < k := by omega
  have hz : z < k := by omega
  have hG : errG (k : Int) ts = 0 := by unfold errG; rw [hok]; rfl
  have hLk : (grpL k ts).length = k := grpL_len k ts
  have hvL : ∀ t ∈ ts, tieB t ((grpL k ts).length : Nat) = true := by rw [hLk]; exact hv
  refine tiesFollows_yes k a r cap cq ts.length P.length ts (grpL k ts) P p z w (sameR k ts p z) (apartR k ts p z) (ts.any (wrB (grpL k ts))) (ts.all (agB P)) hp hz hk2 hLk rfl rfl (by omega) hs hr hv (Lib.hid hsane) ?_ ?_ ?_ ?_ ?_ ?_ ?_ ?_ ?_ rfl (same_dec h0) ?_ ?_
  · intro W; have h := few_any (k : Int) a ts.length cap W hl; rw [hf] at h; exact h
  · intro W hb; have h := tCheck_any (k : Int) a cap ts W hl (hs.below hb); rw [hG] at h; exact h
  · intro W hb; have h := tSame_any (k : Int) a cap ts p z W hl (hs.below hb); rw [h0] at h; exact h
  · intro W hb; have h := tApart_any (k : Int) a cap ts p z W hl (hs.below hb); rw [h0] at h; exact h
  · intro W hb
    have h := tGroups_any (k : Int) a cap ts W hl (hs.below hb)
    rw [hok, hG, if_pos rfl, Int.toNat_natCast, hLk] at h
    exact h
  · intro W hb; exact clash_bool k a cap ts W hok (hs.below hb)
  · intro hq W hb
    exact agrees_any (k : Int) a cap cq ts r P W (by omega) (by rw [hq]; exact hv) (hs.below hb) (hr.below hb)
  · intro hc W r' c hb hi
    have h := agrees2_any (k : Int) a cap c ts r' (grpL k ts) W (by omega) (by omega) hvL (grp_fix hv) (hs.below hb) hi
    rw [grp_agr hv hc, hLk] at h
    exact h
  · intro hc ha W r' c hb hi
    rw [apart_dec h0] at ha
    have hol : (oneL (grpL k ts) p z).length = k := by unfold oneL; rw [List.length_map, hLk]
    have h := agrees_any (k : Int) a cap c ts r' (oneL (grpL k ts) p z) W (by omega) (by rw [hol]; exact hv) (hs.below hb) hi
    rw [one_agr hv hc ha, hol] at h
    exact h
  · rintro hc ⟨h1, h2⟩
    rw [same_dec h0, decide_eq_true_eq] at h1
    rw [apart_dec h0] at h2
    have h3 := both_wrong h1 h2
    rw [hc] at h3; cases h3
  · intro hq hg
    refine ⟨agr_wrong hv hq hg, fun h1 => ?_, fun h2 => ?_⟩
    · rw [same_dec h0, decide_eq_true_eq] at h1
      exact agr_const hv hq hg (by rw [Int.toNat_natCast]; exact hp) (by rw [Int.toNat_natCast]; exact hz) h1
    · rw [apart_dec h0] at h2
      exact agr_apart hv hq hg (by rw [Int.toNat_natCast]; exact hp) (by rw [Int.toNat_natCast]; exact hz) h2
end Go.Proofs.YtjcafjffmiknmaaGreat
