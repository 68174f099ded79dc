/- Layer 4: the law TiesBridges. -/
import Derived.Test.YtlllmoafhfjbbaaGreatBm
import Derived.Test.YtlllmoafhfjbbaaGreatUk
namespace Go.Proofs.YtlllmoafhfjbbaaGreat
set_option linter.unusedSimpArgs false
set_option linter.unusedVariables false
open Go Go.RowKit

theorem lss_i (t : TypeId) (x y : Operand) (a b : Int) (p : Bool) (hp : decide (a < b) = p) (w : World) : (do eqGuard .lss t x y (.int .i64 a) (.int .i64 b); binOp .lss t (.int .i64 a) (.int .i64 b) : Sem Value).run Tryz.prog w = .ok (.bool p) w := by
  subst hp; simp [go_sem]
theorem geq_i (t : TypeId) (x y : Operand) (a b : Int) (p : Bool) (hp : decide (b ≤ a) = p) (w : World) : (do eqGuard .geq t x y (.int .i64 a) (.int .i64 b); binOp .geq t (.int .i64 a) (.int .i64 b) : Sem Value).run Tryz.prog w = .ok (.bool p) w := by
  subst hp; simp [go_sem]
theorem gtr_i (t : TypeId) (x y : Operand) (a b : Int) (p : Bool) (hp : decide (b < a) = p) (w : World) : (do eqGuard .gtr t x y (.int .i64 a) (.int .i64 b); binOp .gtr t (.int .i64 a) (.int .i64 b) : Sem Value).run Tryz.prog w = .ok (.bool p) w := by
  subst hp; simp [go_sem]
theorem sub_one (t : TypeId) (x y : Operand) (j j' : Nat) (h : j = j' + 1) (hb : j ≤ 100000) (w : World) : (do eqGuard .sub t x y (.int .i64 (j : Int)) (.int .i64 1); binOp .sub t (.int .i64 (j : Int)) (.int .i64 1) : Sem Value).run Tryz.prog w = .ok (.int .i64 (j' : Int)) w := by
  have hw : IntKind.i64.wrap ((j : Int) - 1) = (j' : Int) := by simp [IntKind.wrap, IntKind.bits, IntKind.signed]; omega
  simp [go_sem, hw]
theorem neq_bool_same (a : Bool) (x y : Operand) (w : World) : (do eqGuard .neq 4 x y (.bool a) (.bool a); binOp .neq 4 (.bool a) (.bool a) : Sem Value).run Tryz.prog w = .ok (.bool false) w := by
  cases a <;> simp [go_sem]
theorem neq_int_same (t : TypeId) (a : Int) (x y : Operand) (w : World) : (do eqGuard .neq t x y (.int .i64 a) (.int .i64 a); binOp .neq t (.int .i64 a) (.int .i64 a) : Sem Value).run Tryz.prog w = .ok (.bool false) w := neq_i64 t x y a a false (by simp) w
set_option maxRecDepth 100000 in
set_option maxHeartbeats 8000000 in
theorem tiesBridges_any (n v : Int) (a r : Option Addr) (cap cq : Nat) (ts : List TieD) (l : List Int) (w : World) (hl : ts.length ≤ 9223372036854775807) (hlq : l.length ≤ 9223372036854775807) (hcap : ts.length ≤ cap) (hs : TiesAt w a ts) (hr : IntsAt w r l)
    (hsane : ∀ W, Calls Tryz.prog 4 #[] W fun e w' => e = .returned (.bool true) ∧ Below W.heap.size W w') :
    Calls Tryz.prog 3 #[gV n a ts.length cap, .int .i64 v, .slice r l.length cq] w fun e w' => e = .returned (.bool true) ∧ Below w.heap.size w w' := by
  have HSA := Lib.hid hsane
  have HS := Lib.hid hs
  have HR := Lib.hid hr
  obtain ⟨m, hm⟩ : ∃ m, m = ts.length := ⟨_, rfl⟩
  have HM := Lib.hid hm
  obtain ⟨q, hq⟩ : ∃ q, q = l.length := ⟨_, rfl⟩
  have HQ := Lib.hid hq
  have HF : Hid (∀ W, Calls Tryz.prog 5 #[gV n a m cap] W fun e w' => e = .returned (.bool (fewB m)) ∧ Below W.heap.size W w') := fun W => few_any n a m cap W (by rw [hm]; exact hl)
  have HC : Hid (∀ W, Below w.heap.size w W → Calls Tryz.prog 6 #[gV n a m cap] W fun e w' => e = .returned (.int .i64 (errG n ts)) ∧ Below W.heap.size W w') := fun W hb => by rw [hm]; exact tCheck_any n a cap ts W hl (hs.below hb)
  have HK0 := Lib.hid (Blk.new w [.int .i64 n, .slice a m cap] 24)
  have HB0 : Hid (Below w.heap.size w (w.alloc (.cells #[.int .i64 n, .slice a m cap] 24))) := (Below.refl _ _).alloc (Nat.le_refl _) _
  have hq63 : q ≤ 9223372036854775807 := by rw [hq]; exact hlq
  have hm63 : m ≤ 9223372036854775807 := by rw [hm]; exact hl
  rw [← hm, ← hq]
  simp only [gV] at HF HC ⊢
  clear hsane
  obtain ⟨fw, hfw⟩ : ∃ fw, fw = fewB m := ⟨_, rfl⟩
  rw [← hfw] at HF
  cases fw with
  | false =>
    clear hs hr hm hq hl hlq hcap hfw HC
    go_enter Tryz.func3, Tryz.ntmps3
    go_wp2_with (first | (go_at_call 4; refine (HSA.out _).mono ?_; rintro e w0 ⟨rfl, hb⟩; clear HSA; have FK := Lib.hid (HK0.out.below hb); have FB := Lib.hid (HB0.out.trans (hb.mono HB0.out.size)); clear hb HK0 HB0; have c0 := FK.out.cell (i := 0) rfl; have c1 := FK.out.cell (i := 1) rfl) | (go_at_call 5; refine (HF.out _).mono ?_; rintro e w2 ⟨rfl, hb⟩; clear HF c0 c1; replace FK := Lib.hid (FK.out.below hb); replace FB := Lib.hid (FB.out.trans (hb.mono FB.out.size)); clear hb; have c0 := FK.out.cell (i := 0) rfl; have c1 := FK.out.cell (i := 1) rfl))
    go_ret
    exact ⟨rfl, FB.out⟩
  | true =>
  by_cases h100 : 100 < q
  · have t1 : decide ((100 : Int) < (q : Int)) = true := decide_eq_true (by omega)
    have t2 : decide (100 < q) = true := decide_eq_true h100
    clear hs hr hm hq hl hlq hcap hfw HC h100
    go_enter Tryz.func3, Tryz.ntmps3
    go_wp2_with (first | (go_at_call 4; refine (HSA.out _).mono ?_; rintro e w0 ⟨rfl, hb⟩; clear HSA; have FK := Lib.hid (HK0.out.below hb); have FB := Lib.hid (HB0.out.trans (hb.mono HB0.out.size)); clear hb HK0 HB0; have c0 := FK.out.cell (i := 0) rfl; have c1 := FK.out.cell (i := 1) rfl) | (go_at_call 5; refine (HF.out _).mono ?_; rintro e w2 ⟨rfl, hb⟩; clear HF c0 c1; replace FK := Lib.hid (FK.out.below hb); replace FB := Lib.hid (FB.out.trans (hb.mono FB.out.size)); clear hb; have c0 := FK.out.cell (i := 0) rfl; have c1 := FK.out.cell (i := 1) rfl))
    go_ret
    exact ⟨rfl, FB.out⟩
  have t1 : decide ((100 : Int) < (q : Int)) = false := decide_eq_false (by omega)
  have t2 : decide (100 < q) = false := decide_eq_false h100
  cases hok : okG n ts with
  | false =>
    rw [show errG n ts = 40 from by unfold errG; rw [hok]; rfl] at HC
    clear hs hr hm hq hl hlq hcap hfw h100 hok
    go_enter Tryz.func3, Tryz.ntmps3
    go_wp2_with (first | (go_at_call 4; refine (HSA.out _).mono ?_; rintro e w0 ⟨rfl, hb⟩; clear HSA; have FK := Lib.hid (HK0.out.below hb); have FB := Lib.hid (HB0.out.trans (hb.mono HB0.out.size)); clear hb HK0 HB0; have c0 := FK.out.cell (i := 0) rfl; have c1 := FK.out.cell (i := 1) rfl) | (go_at_call 5; refine (HF.out _).mono ?_; rintro e w2 ⟨rfl, hb⟩; clear HF c0 c1; replace FK := Lib.hid (FK.out.below hb); replace FB := Lib.hid (FB.out.trans (hb.mono FB.out.size)); clear hb; have c0 := FK.out.cell (i := 0) rfl; have c1 := FK.out.cell (i := 1) rfl) | (go_at_call 6; refine (HC.out _ FB.out).mono ?_; rintro e w3 ⟨rfl, hb⟩; clear HC c0 c1; replace FK := Lib.hid (FK.out.below hb); replace FB := Lib.hid (FB.out.trans (hb.mono FB.out.size)); clear hb; have c0 := FK.out.cell (i := 0) rfl; have c1 := FK.out.cell (i := 1) rfl))
    go_ret
    exact ⟨rfl, FB.out⟩
  | true =>
  rw [show errG n ts = 0 from by unfold errG; rw [hok]; rfl] at HC
  have HML : Hid (m ≤ 512) := by rw [hm]; exact okG_len hok
  have HQL : Hid (q ≤ 100) := by rw [Hid]; omega
  have HOK : Hid (okG n ts = true) := hok
  have HBR : Hid (∀ W, Below w.heap.size w W → Calls Tryz.prog 7 #[.agg #[.int .i64 n, .slice a m cap]] W fun e w' => ∃ r c, e = .returned (.tuple #[.slice r (brL n.toNat ts m).length c, .int .i64 0]) ∧ IntsAt w' r (brL n.toNat ts m) ∧ Below W.heap.size W w') := fun W hb => by rw [hm]; exact bridges_any n a cap ts W hok hcap (hs.below hb)
  obtain ⟨B, hB⟩ : ∃ B, B = brL n.toNat ts m := ⟨_, rfl⟩
  have HBD := Lib.hid hB
  rw [← hB] at HBR
  obtain ⟨bl, hbl⟩ : ∃ bl, bl = B.length := ⟨_, rfl⟩
  have HBL := Lib.hid hbl
  have HBM : Hid (bl ≤ m) := by rw [hbl, hB]; exact brL_len _ _ _
  rw [← hbl] at HBR
  have t3 : decide ((m : Int) < (bl : Int)) = false := decide_eq_false (by have := HBM.out; omega)
  have t4 : decide (m < bl) = false := decide_eq_false (by have := HBM.out; omega)
  clear hs hr hm hq hl hlq hcap hfw h100 hok hB hbl
  go_enter Tryz.func3, Tryz.ntmps3
  go_upto_region 5 with (first | (go_at_call 4; refine (HSA.out _).mono ?_; rintro e w0 ⟨rfl, hb⟩; clear HSA; have FK := Lib.hid (HK0.out.below hb); have FB := Lib.hid (HB0.out.trans (hb.mono HB0.out.size)); clear hb HK0 HB0; have c0 := FK.out.cell (i := 0) rfl; have c1 := FK.out.cell (i := 1) rfl) | (go_at_call 5; refine (HF.out _).mono ?_; rintro e w2 ⟨rfl, hb⟩; clear HF c0 c1; replace FK := Lib.hid (FK.out.below hb); replace FB := Lib.hid (FB.out.trans (hb.mono FB.out.size)); clear hb; have c0 := FK.out.cell (i := 0) rfl; have c1 := FK.out.cell (i := 1) rfl) | (go_at_call 6; refine (HC.out _ FB.out).mono ?_; rintro e w3 ⟨rfl, hb⟩; clear HC c0 c1; replace FK := Lib.hid (FK.out.below hb); replace FB := Lib.hid (FB.out.trans (hb.mono FB.out.size)); clear hb; have c0 := FK.out.cell (i := 0) rfl; have c1 := FK.out.cell (i := 1) rfl))
  clear t1 t2
  go_upto_region 6 with (first | (go_at_call 7; go_loud (refine (HBR.out _ FB.out).mono ?_; rintro e w4 ⟨rb, cb, rfl, hI, hb⟩; clear HBR c0 c1; have HI := Lib.hid hI; replace FK := Lib.hid (FK.out.below hb); replace FB := Lib.hid (FB.out.trans (hb.mono FB.out.size)); clear hI hb)))
  generalize hb1 : w.heap.size = b1 at FK ⊢
  have HBB : Hid (w.heap.size = b1) := hb1
  clear hb1
  have c1 := FK.out.cell (i := 1) rfl
  go_wp2_with fail
  clear c1 t3 t4
  go_loopg [9] bl (fun gk t9 wr => ∃ j : Nat, j + gk = bl ∧ t9 = .int .i64 j ∧ Hid (IntsAt wr rb B) ∧ Hid (Blk wr b1 [.int .i64 n, .slice a m cap] 24) ∧ Hid (Below w.heap.size w wr))
  case atStart => exact ⟨0, by omega, rfl, HI, FK, FB⟩
  case round =>
    clear HI FK FB
    obtain ⟨j, hjg, rfl, HI, FK, FB⟩ := hrel
    by_cases hlt : j < bl
    · have hjl : j < B.length := by rw [← HBL.out]; exact hlt
      obtain ⟨lb, lo, rfl, hlb, lc⟩ := HI.out.at hjl
      have t1 : decide (j < bl) = true := decide_eq_true hlt
      have HLT : Hid (j < bl) := hlt
      have HJB : Hid (j ≤ 100000) := by have h1 := HBM.out; have h2 := HML.out; rw [Hid]; omega
      obtain ⟨x, hx⟩ : ∃ x, x = B[j] := ⟨_, rfl⟩
      rw [← hx] at lc
      have HXI : Hid (0 ≤ x ∧ x < m) := by
        have h1 := HBD.out
        subst h1
        obtain ⟨i, h2, h3⟩ := brL_at hjl
        rw [hx, h2]; exact ⟨by omega, by omega⟩
      have HLC := Lib.hid lc
      have HLB : Hid (lb < wr.heap.size) := hlb
      have HOWD : Hid (∀ w1, (clOld wr.drew).C w1 → Below wr.heap.size wr w1) := fun w1 hC => old_end (Below.refl _ _) hC (Nat.le_refl _)
      have HXC : Hid (∀ w1, (clOld wr.drew).C w1 → w1.cell? ⟨lb, lo + j, none⟩ = some (.int .i64 x)) := fun w1 hC => by rw [Below.cell (HOWD.out w1 hC) (by exact hlb)]; exact lc
      rcases Nat.eq_zero_or_pos j with hj0 | hj0
      · have HJ0 : Hid (j = 0) := hj0
        clear hlb lc hx hjl hj0
        go_upto_region 11 with (fail)
        refine wp_region_old 31 139 (by kernel_rfl) (by kernel_rfl) (by rfl) ?_
        simp only [List.take_succ_cons, List.take_zero, List.drop_succ_cons, List.drop_zero, List.drop_nil]
        refine chain_move (.slice (some ⟨lb, lo, none⟩) bl cb) _ (fun _ _ => Below.refl _ _) rfl rfl (by kernel_rfl) (by kernel_rfl) rfl ?_
        refine chain_move (.int .i64 j) _ (fun _ _ => Below.refl _ _) rfl rfl (by kernel_rfl) (by kernel_rfl) rfl ?_
        refine chain_idx (.pointer (some ⟨lb, lo + j, none⟩)) _ _ _ (.slice (some ⟨lb, lo, none⟩) bl cb) (.int .i64 j) (fun _ _ => Below.refl _ _) rfl rfl (by kernel_rfl) (by kernel_rfl) rfl rfl (fun w1 => idx_i64 _ _ _ _ _ HLT.out w1) ?_
        refine chain_load (.int .i64 x) _ _ _ (fun _ _ => Below.refl _ _) rfl rfl (by kernel_rfl) (by kernel_rfl) rfl (fun w1 hC => load_i64 (HXC.out w1 hC)) ?_
        refine chain_bin (.bool false) _ _ _ _ _ (.int .i64 x) (.int .i64 0) (fun _ _ => Below.refl _ _) rfl rfl (by kernel_rfl) (by kernel_rfl) rfl rfl (fun w1 => lss_i _ _ _ _ _ _ (decide_eq_false (by have := HXI.out; omega)) w1) ?_
        refine chain_move (.bool false) _ (fun _ _ => Below.refl _ _) rfl rfl (by kernel_rfl) (by kernel_rfl) rfl ?_
        refine chain_move (.slice (some ⟨lb, lo, none⟩) bl cb) _ (fun _ _ => Below.refl _ _) rfl rfl (by kernel_rfl) (by kernel_rfl) rfl ?_
        refine chain_move (.int .i64 j) _ (fun _ _ => Below.refl _ _) rfl rfl (by kernel_rfl) (by kernel_rfl) rfl ?_
        refine chain_idx (.pointer (some ⟨lb, lo + j, none⟩)) _ _ _ (.slice (some ⟨lb, lo, none⟩) bl cb) (.int .i64 j) (fun _ _ => Below.refl _ _) rfl rfl (by kernel_rfl) (by kernel_rfl) rfl rfl (fun w1 => idx_i64 _ _ _ _ _ HLT.out w1) ?_
        refine chain_load (.int .i64 x) _ _ _ (fun _ _ => Below.refl _ _) rfl rfl (by kernel_rfl) (by kernel_rfl) rfl (fun w1 hC => load_i64 (HXC.out w1 hC)) ?_
        refine chain_val (.pointer (some ⟨b1, 1, none⟩)) (fun _ _ => Below.refl _ _) rfl (by intro cs b h; cases h) (by kernel_rfl) (by kernel_rfl) (fun w1 _ => by simp [execOp, evE, lk_cons, lk_nil, slotL, go_sem]) ?_
        refine chain_load (.slice a m cap) _ _ _ (fun _ _ => Below.refl _ _) rfl rfl (by kernel_rfl) (by kernel_rfl) rfl (fun w1 hC => load_slq ((FK.out.below (HOWD.out w1 hC)).cell rfl)) ?_
        refine chain_val (.int .i64 m) (fun _ _ => Below.refl _ _) rfl (by intro cs b h; cases h) (by kernel_rfl) (by kernel_rfl) (fun w1 _ => by simp [execOp, evE, lk_cons, lk_nil, slotL, go_sem]) ?_
        refine chain_bin (.bool false) _ _ _ _ _ (.int .i64 x) (.int .i64 m) (fun _ _ => Below.refl _ _) rfl rfl (by kernel_rfl) (by kernel_rfl) rfl rfl (fun w1 => geq_i _ _ _ _ _ _ (decide_eq_false (by have := HXI.out; omega)) w1) ?_
        refine chain_pick (.bool false) _ _ _ false (fun _ _ => Below.refl _ _) rfl rfl (by kernel_rfl) (by kernel_rfl) rfl rfl ?_
        refine chain_move (.bool false) _ (fun _ _ => Below.refl _ _) rfl rfl (by kernel_rfl) (by kernel_rfl) rfl ?_
        refine chain_move (.int .i64 j) _ (fun _ _ => Below.refl _ _) rfl rfl (by kernel_rfl) (by kernel_rfl) rfl ?_
        refine chain_bin (.bool false) _ _ _ _ _ (.int .i64 j) (.int .i64 0) (fun _ _ => Below.refl _ _) rfl rfl (by kernel_rfl) (by kernel_rfl) rfl rfl (fun w1 => gtr_i _ _ _ _ _ _ (decide_eq_false (by have := HJ0.out; omega)) w1) ?_
        refine chain_move (.bool false) _ (fun _ _ => Below.refl _ _) rfl rfl (by kernel_rfl) (by kernel_rfl) rfl ?_
        refine chain_skip rfl (by kernel_rfl) ?_
        refine chain_skip rfl (by kernel_rfl) ?_
        refine chain_skip rfl (by kernel_rfl) ?_
        refine chain_skip rfl (by kernel_rfl) ?_
        refine chain_skip rfl (by kernel_rfl) ?_
        refine chain_skip rfl (by kernel_rfl) ?_
        refine chain_skip rfl (by kernel_rfl) ?_
        refine chain_skip rfl (by kernel_rfl) ?_
        refine chain_skip rfl (by kernel_rfl) ?_
        refine chain_skip rfl (by kernel_rfl) ?_
        refine chain_pick (.bool false) _ _ _ false (fun _ _ => Below.refl _ _) rfl rfl (by kernel_rfl) (by kernel_rfl) rfl rfl ?_
        refine chain_pick (.bool false) _ _ _ false (fun _ _ => Below.refl _ _) rfl rfl (by kernel_rfl) (by kernel_rfl) rfl rfl ?_
        refine chain_end (by rfl) ?_
        intro xs w9 hCw9 hrew9
        simp only [layE, List.foldr_cons, List.foldr_nil, List.set_cons_succ, List.set_cons_zero]
        have HY := Lib.hid (HOWD.out w9 hCw9)
        clear hCw9 hrew9 HXC HLC HOWD
        have hjb : j ≤ 100000 := HJB.out
        go_wp2_with fail
        go_roundg (gk - 1)
        case measure => omega
        case rel => exact ⟨j + 1, by omega, by simp, HI.out.below HY.out, FK.out.below HY.out, FB.out.trans (HY.out.mono FB.out.size)⟩
      · obtain ⟨j', hj'⟩ : ∃ j', j = j' + 1 := ⟨j - 1, by omega⟩
        have HJP := Lib.hid hj'
        have hjl' : j' < B.length := by omega
        obtain ⟨lb2, lo2, e2, hlb2, lc2⟩ := HI.out.at hjl'
        obtain ⟨rfl, rfl⟩ : lb = lb2 ∧ lo = lo2 := by simpa using e2
        obtain ⟨x', hx'⟩ : ∃ x', x' = B[j'] := ⟨_, rfl⟩
        rw [← hx'] at lc2
        have HXX : Hid (x' < x) := by
          have h1 := HBD.out
          subst h1
          subst hj'
          rw [hx, hx']; exact brL_lt hjl
        have HXP : Hid (∀ w1, (clOld wr.drew).C w1 → w1.cell? ⟨lb, lo + j', none⟩ = some (.int .i64 x')) := fun w1 hC => by rw [Below.cell (HOWD.out w1 hC) (by exact hlb)]; exact lc2
        have HJ1 : Hid (0 < j ∧ j' < bl) := ⟨hj0, by omega⟩
        clear hlb lc hx hjl hj0 hjl' lc2 e2 hlb2 hx' hj'
        go_upto_region 11 with (fail)
        refine wp_region_old 31 139 (by kernel_rfl) (by kernel_rfl) (by rfl) ?_
        simp only [List.take_succ_cons, List.take_zero, List.drop_succ_cons, List.drop_zero, List.drop_nil]
        refine chain_move (.slice (some ⟨lb, lo, none⟩) bl cb) _ (fun _ _ => Below.refl _ _) rfl rfl (by kernel_rfl) (by kernel_rfl) rfl ?_
        refine chain_move (.int .i64 j) _ (fun _ _ => Below.refl _ _) rfl rfl (by kernel_rfl) (by kernel_rfl) rfl ?_
        refine chain_idx (.pointer (some ⟨lb, lo + j, none⟩)) _ _ _ (.slice (some ⟨lb, lo, none⟩) bl cb) (.int .i64 j) (fun _ _ => Below.refl _ _) rfl rfl (by kernel_rfl) (by kernel_rfl) rfl rfl (fun w1 => idx_i64 _ _ _ _ _ HLT.out w1) ?_
        refine chain_load (.int .i64 x) _ _ _ (fun _ _ => Below.refl _ _) rfl rfl (by kernel_rfl) (by kernel_rfl) rfl (fun w1 hC => load_i64 (HXC.out w1 hC)) ?_
        refine chain_bin (.bool false) _ _ _ _ _ (.int .i64 x) (.int .i64 0) (fun _ _ => Below.refl _ _) rfl rfl (by kernel_rfl) (by kernel_rfl) rfl rfl (fun w1 => lss_i _ _ _ _ _ _ (decide_eq_false (by have := HXI.out; omega)) w1) ?_
        refine chain_move (.bool false) _ (fun _ _ => Below.refl _ _) rfl rfl (by kernel_rfl) (by kernel_rfl) rfl ?_
        refine chain_move (.slice (some ⟨lb, lo, none⟩) bl cb) _ (fun _ _ => Below.refl _ _) rfl rfl (by kernel_rfl) (by kernel_rfl) rfl ?_
        refine chain_move (.int .i64 j) _ (fun _ _ => Below.refl _ _) rfl rfl (by kernel_rfl) (by kernel_rfl) rfl ?_
        refine chain_idx (.pointer (some ⟨lb, lo + j, none⟩)) _ _ _ (.slice (some ⟨lb, lo, none⟩) bl cb) (.int .i64 j) (fun _ _ => Below.refl _ _) rfl rfl (by kernel_rfl) (by kernel_rfl) rfl rfl (fun w1 => idx_i64 _ _ _ _ _ HLT.out w1) ?_
        refine chain_load (.int .i64 x) _ _ _ (fun _ _ => Below.refl _ _) rfl rfl (by kernel_rfl) (by kernel_rfl) rfl (fun w1 hC => load_i64 (HXC.out w1 hC)) ?_
        refine chain_val (.pointer (some ⟨b1, 1, none⟩)) (fun _ _ => Below.refl _ _) rfl (by intro cs b h; cases h) (by kernel_rfl) (by kernel_rfl) (fun w1 _ => by simp [execOp, evE, lk_cons, lk_nil, slotL, go_sem]) ?_
        refine chain_load (.slice a m cap) _ _ _ (fun _ _ => Below.refl _ _) rfl rfl (by kernel_rfl) (by kernel_rfl) rfl (fun w1 hC => load_slq ((FK.out.below (HOWD.out w1 hC)).cell rfl)) ?_
        refine chain_val (.int .i64 m) (fun _ _ => Below.refl _ _) rfl (by intro cs b h; cases h) (by kernel_rfl) (by kernel_rfl) (fun w1 _ => by simp [execOp, evE, lk_cons, lk_nil, slotL, go_sem]) ?_
        refine chain_bin (.bool false) _ _ _ _ _ (.int .i64 x) (.int .i64 m) (fun _ _ => Below.refl _ _) rfl rfl (by kernel_rfl) (by kernel_rfl) rfl rfl (fun w1 => geq_i _ _ _ _ _ _ (decide_eq_false (by have := HXI.out; omega)) w1) ?_
        refine chain_pick (.bool false) _ _ _ false (fun _ _ => Below.refl _ _) rfl rfl (by kernel_rfl) (by kernel_rfl) rfl rfl ?_
        refine chain_move (.bool false) _ (fun _ _ => Below.refl _ _) rfl rfl (by kernel_rfl) (by kernel_rfl) rfl ?_
        refine chain_move (.int .i64 j) _ (fun _ _ => Below.refl _ _) rfl rfl (by kernel_rfl) (by kernel_rfl) rfl ?_
        refine chain_bin (.bool true) _ _ _ _ _ (.int .i64 j) (.int .i64 0) (fun _ _ => Below.refl _ _) rfl rfl (by kernel_rfl) (by kernel_rfl) rfl rfl (fun w1 => gtr_i _ _ _ _ _ _ (decide_eq_true (by have := HJ1.out.1; omega)) w1) ?_
        refine chain_move (.bool true) _ (fun _ _ => Below.refl _ _) rfl rfl (by kernel_rfl) (by kernel_rfl) rfl ?_
        refine chain_move (.slice (some ⟨lb, lo, none⟩) bl cb) _ (fun _ _ => Below.refl _ _) rfl rfl (by kernel_rfl) (by kernel_rfl) rfl ?_
        refine chain_move (.int .i64 j) _ (fun _ _ => Below.refl _ _) rfl rfl (by kernel_rfl) (by kernel_rfl) rfl ?_
        refine chain_bin (.int .i64 j') _ _ _ _ _ (.int .i64 j) (.int .i64 1) (fun _ _ => Below.refl _ _) rfl rfl (by kernel_rfl) (by kernel_rfl) rfl rfl (fun w1 => sub_one _ _ _ _ _ HJP.out HJB.out w1) ?_
        refine chain_idx (.pointer (some ⟨lb, lo + j', none⟩)) _ _ _ (.slice (some ⟨lb, lo, none⟩) bl cb) (.int .i64 j') (fun _ _ => Below.refl _ _) rfl rfl (by kernel_rfl) (by kernel_rfl) rfl rfl (fun w1 => idx_i64 _ _ _ _ _ HJ1.out.2 w1) ?_
        refine chain_load (.int .i64 x') _ _ _ (fun _ _ => Below.refl _ _) rfl rfl (by kernel_rfl) (by kernel_rfl) rfl (fun w1 hC => load_i64 (HXP.out w1 hC)) ?_
        refine chain_move (.slice (some ⟨lb, lo, none⟩) bl cb) _ (fun _ _ => Below.refl _ _) rfl rfl (by kernel_rfl) (by kernel_rfl) rfl ?_
        refine chain_move (.int .i64 j) _ (fun _ _ => Below.refl _ _) rfl rfl (by kernel_rfl) (by kernel_rfl) rfl ?_
        refine chain_idx (.pointer (some ⟨lb, lo + j, none⟩)) _ _ _ (.slice (some ⟨lb, lo, none⟩) bl cb) (.int .i64 j) (fun _ _ => Below.refl _ _) rfl rfl (by kernel_rfl) (by kernel_rfl) rfl rfl (fun w1 => idx_i64 _ _ _ _ _ HLT.out w1) ?_
        refine chain_load (.int .i64 x) _ _ _ (fun _ _ => Below.refl _ _) rfl rfl (by kernel_rfl) (by kernel_rfl) rfl (fun w1 hC => load_i64 (HXC.out w1 hC)) ?_
        refine chain_bin (.bool false) _ _ _ _ _ (.int .i64 x') (.int .i64 x) (fun _ _ => Below.refl _ _) rfl rfl (by kernel_rfl) (by kernel_rfl) rfl rfl (fun w1 => geq_i _ _ _ _ _ _ (decide_eq_false (by have := HXX.out; omega)) w1) ?_
        refine chain_pick (.bool false) _ _ _ true (fun _ _ => Below.refl _ _) rfl rfl (by kernel_rfl) (by kernel_rfl) rfl rfl ?_
        refine chain_pick (.bool false) _ _ _ false (fun _ _ => Below.refl _ _) rfl rfl (by kernel_rfl) (by kernel_rfl) rfl rfl ?_
        refine chain_end (by rfl) ?_
        intro xs w9 hCw9 hrew9
        simp only [layE, List.foldr_cons, List.foldr_nil, List.set_cons_succ, List.set_cons_zero]
        have HY := Lib.hid (HOWD.out w9 hCw9)
        clear hCw9 hrew9 HXC HXP HLC HOWD
        have hjb : j ≤ 100000 := HJB.out
        go_wp2_with fail
        go_roundg (gk - 1)
        case measure => omega
        case rel => exact ⟨j + 1, by omega, by simp, HI.out.below HY.out, FK.out.below HY.out, FB.out.trans (HY.out.mono FB.out.size)⟩
    · have e : bl = j := by omega
      subst e
      have t1 : decide (bl < bl) = false := by simp
      have c1 := FK.out.cell (i := 1) rfl
      by_cases hv0 : v < 0
      · have t5 : decide (v < 0) = true := decide_eq_true hv0
        clear hv0
        go_wp2_with fail
        go_ret
        exact ⟨rfl, FB.out⟩
      have t5 : decide (v < 0) = false := decide_eq_false hv0
      by_cases hv1 : (m : Int) ≤ v
      · have t6 : decide ((m : Int) ≤ v) = true := decide_eq_true hv1
        clear hv0 hv1
        go_wp2_with fail
        go_ret
        exact ⟨rfl, FB.out⟩
      clear t5
      obtain ⟨i, rfl⟩ : ∃ i : Nat, v = i := ⟨v.toNat, by omega⟩
      have him : i < m := by omega
      have t5 : decide ((i : Int) < 0) = false := decide_eq_false (by omega)
      have t6 : decide ((m : Int) ≤ (i : Int)) = false := decide_eq_false (by omega)
      have t7 : decide (m ≤ i) = false := decide_eq_false (by omega)
      have hil : i < ts.length := by rw [← HM.out]; exact him
      have HKV : Hid (∃ k : Nat, n = k ∧ ∀ t ∈ ts, tieB t k = true) := by obtain ⟨k, h1, _, _, _, h2⟩ := okG_parts HOK.out; exact ⟨k, h1, h2⟩
      have HSE : Hid (brB n.toNat ts i = (ts[i].kind == 2 && !sameR n (ts.eraseIdx i) ts[i].a ts[i].b)) := same_eras hil HOK.out
      have HME : Hid (decide ((i : Int) ∈ B) = brB n.toNat ts i) := by rw [HBD.out]; exact brL_mem him
      have HE0 : Hid (errA n (ts.eraseIdx i) ts[i].a ts[i].b = 0 ∧ errA n ts ts[i].a ts[i].b = 0) := ⟨errA_tie (okG_eras i HOK.out) HOK.out (List.getElem_mem hil), errA_tie HOK.out HOK.out (List.getElem_mem hil)⟩
      have HIN : Hid (brB n.toNat ts i = true → chnF ts l ts[i].a ts[i].b 0 = 0 → decide ((i : Int) ∈ l) = true) := fun h1 h2 => by
        obtain ⟨k, rfl, hv⟩ := HKV.out
        rw [Int.toNat_natCast] at h1
        refine decide_eq_true (bridge_in hv hil h1 ?_)
        unfold chnF at h2
        split at h2
        · rename_i h3; simpa using h3
        · cases h2
      obtain ⟨F, hF⟩ : ∃ F, F = ts.eraseIdx i := ⟨_, rfl⟩
      rw [← hF] at HSE HE0
      have HFL : Hid (F.length ≤ 512) := by rw [hF]; have h1 := List.length_eraseIdx_le ts i; have h2 := HML.out; have h3 := HM.out; rw [Hid]; omega
      have HLE : Hid (∀ W, Below w.heap.size w W → Calls Tryz.prog 9 #[.agg #[.int .i64 n, .slice a m cap], .int .i64 (i : Int)] W fun e w' => ∃ a' c', e = .returned (gV n a' F.length c') ∧ TiesAt w' a' F ∧ Below W.heap.size W w') := fun W hb => by
        have h1 := left_any n a cap i ts W (by have h2 := HML.out; have h3 := HM.out; omega) (HS.out.below hb)
        rw [← HM.out, ← hF] at h1
        refine h1.mono fun e w' ⟨v, he, ho, hb'⟩ => ?_
        obtain ⟨a', c', rfl, _, hT⟩ := own_tiesN ho
        exact ⟨a', c', he, hT.1, hb'⟩
      have HSM : Hid (∀ W a' c', TiesAt W a' F → Calls Tryz.prog 8 #[gV n a' F.length c', .int .i64 ts[i].a, .int .i64 ts[i].b] W fun e w' => e = .returned (.tuple #[.bool (sameR n F ts[i].a ts[i].b), .int .i64 0]) ∧ Below W.heap.size W w') := fun W a' c' hT => by
        have h1 := tSame_any n a' c' F ts[i].a ts[i].b W (by have := HFL.out; omega) hT
        rw [HE0.out.1] at h1; exact h1
      have HHB : Hid (∀ W, IntsAt W rb B → Calls Tryz.prog 10 #[.slice rb bl cb, .int .i64 (i : Int)] W fun e w' => e = .returned (.bool (brB n.toNat ts i)) ∧ Below W.heap.size W w') := fun W h => by
        have h1 := has_any rb cb B i W (by have h2 := HBL.out; have h3 := HBM.out; have h4 := HML.out; omega) h
        rw [← HBL.out, HME.out] at h1; exact h1
      have HHL : Hid (∀ W, Below w.heap.size w W → Calls Tryz.prog 10 #[.slice r q cq, .int .i64 (i : Int)] W fun e w' => e = .returned (.bool (decide ((i : Int) ∈ l))) ∧ Below W.heap.size W w') := fun W hb => by
        have h1 := has_any r cq l i W (by have h2 := HQ.out; have h3 := HQL.out; omega) (HR.out.below hb)
        rw [← HQ.out] at h1; exact h1
      have HCC : Hid (∀ W, Below w.heap.size w W → Calls Tryz.prog 11 #[.agg #[.int .i64 n, .slice a m cap], .int .i64 ts[i].a, .int .i64 ts[i].b, .slice r q cq] W fun e w' => e = .returned (.int .i64 (chnF ts l ts[i].a ts[i].b 0)) ∧ Below W.heap.size W w') := fun W hb => by
        have h1 := checkChain_any n a cap cq ts r l ts[i].a ts[i].b W (by have h2 := HQ.out; have h3 := HQL.out; omega) HE0.out.2 (HS.out.below hb) (HR.out.below hb)
        rw [← HM.out, ← HQ.out] at h1; exact h1
      obtain ⟨tb, to_, rfl, htb, x0, x1, x2, x3, x4⟩ := (HS.out.below FB.out).at hil
      generalize chnF ts l ts[i].a ts[i].b 0 = E at *
      generalize sameR n F ts[i].a ts[i].b = S at *
      generalize brB n.toNat ts i = bq at *
      generalize decide ((i : Int) ∈ l) = hl at *
      obtain ⟨y, hy⟩ : ∃ y, y = ts[i] := ⟨_, rfl⟩
      rw [← hy] at x0 x1 x2 x3 x4 HSE HSM HCC
      clear HKV HME HE0 HBD hF hil hy hv0 hv1 htb
      obtain ⟨ya, yb, yk, ys, yr⟩ := y
      simp only at x0 x1 x2 x3 x4 HSE HSM HCC
      go_upto_region 16 with (fail)
      refine named (fun V => Hid (TieAt V wr.heap.size ⟨ya, yb, yk, ys, yr⟩) ∧ Hid (IntsAt V rb B) ∧ Hid (Blk V b1 [.int .i64 n, .slice (some ⟨tb, to_, none⟩) m cap] 24) ∧ Hid (Below w.heap.size w V)) ?_ ?_
      · have hb : Below wr.heap.size wr (wr.alloc (.cells #[.int .i64 ya, .int .i64 yb, .int .i64 yk, .int .i64 ys, .int .i64 yr] 33)) := (Below.refl _ _).alloc (Nat.le_refl _) _
        exact ⟨TieAt.new wr ⟨ya, yb, yk, ys, yr⟩ _, HI.out.below hb, FK.out.below hb, FB.out.trans (hb.mono FB.out.size)⟩
      clear x0 x1 x2 x3 x4 HI FK FB c1 t1 t5 t6 t7 him
      rintro V ⟨HT, HI, FK, FB⟩
      generalize hbt : wr.heap.size = bt at HT ⊢
      clear hbt
      have HOWD : Hid (∀ w1, (clOld V.drew).C w1 → Below V.heap.size V w1) := fun w1 hC => old_end (Below.refl _ _) hC (Nat.le_refl _)
      refine wp_region_old 13 139 (by kernel_rfl) (by kernel_rfl) (by rfl) ?_
      simp only [List.take_succ_cons, List.take_zero, List.drop_succ_cons, List.drop_zero, List.drop_nil]
      refine chain_load (.agg #[.int .i64 n, .slice (some ⟨tb, to_, none⟩) m cap]) _ _ _ (fun _ _ => Below.refl _ _) rfl rfl (by kernel_rfl) (by kernel_rfl) rfl (fun w1 hC => load_g ((FK.out.below (HOWD.out w1 hC)).cell rfl) ((FK.out.below (HOWD.out w1 hC)).cell rfl)) ?_
      refine chain_move (.int .i64 (i : Int)) _ (fun _ _ => Below.refl _ _) rfl rfl (by kernel_rfl) (by kernel_rfl) rfl ?_
      refine chain_call_re (grW n F) 9 [.agg #[.int .i64 n, .slice (some ⟨tb, to_, none⟩) m cap], .int .i64 (i : Int)] _ _ (grW_lasts _ _) (enters_of Tryz.func9 (by kernel_rfl) rfl) rfl rfl rfl (by kernel_rfl) (by kernel_rfl) rfl rfl (fun w1 hC => (HLE.out w1 (FB.out.trans ((HOWD.out w1 hC).mono FB.out.size))).mono fun e w' ⟨a', c', he, hT, hb⟩ => ⟨_, he, hb, a', c', rfl, hT⟩) ?_
      refine chain_val (.pointer (some ⟨bt, 0, none⟩)) (fun _ _ => Below.refl _ _) rfl (by intro cs b h; cases h) (by kernel_rfl) (by kernel_rfl) (fun w1 _ => by simp [execOp, evE, lk_cons, lk_nil, slotL, go_sem]) ?_
      refine chain_load (.int .i64 ya) _ _ _ (fun _ _ => Below.refl _ _) rfl rfl (by kernel_rfl) (by kernel_rfl) rfl (fun w1 hC => load_i64 (HT.out.below (HOWD.out w1 hC)).c0) ?_
      refine chain_val (.pointer (some ⟨bt, 1, none⟩)) (fun _ _ => Below.refl _ _) rfl (by intro cs b h; cases h) (by kernel_rfl) (by kernel_rfl) (fun w1 _ => by simp [execOp, evE, lk_cons, lk_nil, slotL, go_sem]) ?_
      refine chain_load (.int .i64 yb) _ _ _ (fun _ _ => Below.refl _ _) rfl rfl (by kernel_rfl) (by kernel_rfl) rfl (fun w1 hC => load_i64 (HT.out.below (HOWD.out w1 hC)).c1) ?_
      refine chain_call_use (.tuple #[.bool S, .int .i64 0]) 97 _ 8 (fun x => [x, .int .i64 ya, .int .i64 yb]) _ _ (enters_of Tryz.func8 (by kernel_rfl) rfl) rfl rfl rfl (by kernel_rfl) rfl rfl (fun _ => rfl) rfl (fun _ => rfl) (fun x w1 hC ⟨a', c', hx, hT⟩ => by subst hx; exact HSM.out w1 a' c' hT) ?_
      refine chain_move (.tuple #[.bool S, .int .i64 0]) _ (fun _ _ => Below.refl _ _) rfl rfl (by kernel_rfl) (by kernel_rfl) rfl ?_
      refine chain_ext (.bool S) _ _ (#[.bool S, .int .i64 0]) (fun _ _ => Below.refl _ _) rfl rfl (by kernel_rfl) (by kernel_rfl) rfl rfl ?_
      refine chain_ext (.int .i64 0) _ _ (#[.bool S, .int .i64 0]) (fun _ _ => Below.refl _ _) rfl rfl (by kernel_rfl) (by kernel_rfl) rfl rfl ?_
      refine chain_assign (.bool S) _ (fun _ _ => Below.refl _ _) rfl rfl (by kernel_rfl) (by kernel_rfl) rfl ?_
      refine chain_assign (.int .i64 0) _ (fun _ _ => Below.refl _ _) rfl rfl (by kernel_rfl) (by kernel_rfl) rfl ?_
      refine chain_end (by rfl) ?_
      intro xs w6 hCw6 hrew6
      simp only [layE, List.foldr_cons, List.foldr_nil, List.set_cons_succ, List.set_cons_zero]
      have hb6 := HOWD.out w6 hCw6
      replace HT := Lib.hid (HT.out.below hb6)
      replace HI := Lib.hid (HI.out.below hb6)
      replace FK := Lib.hid (FK.out.below hb6)
      replace FB := Lib.hid (FB.out.trans (hb6.mono FB.out.size))
      clear hb6 hCw6 hrew6 HOWD HLE HSM
      go_upto_region 17 with (fail)
      have HOWD : Hid (∀ w1, (clOld w6.drew).C w1 → Below w6.heap.size w6 w1) := fun w1 hC => old_end (Below.refl _ _) hC (Nat.le_refl _)
      have HK2 : Hid (∀ k, ((yk == 2) = k) → k = decide (yk = 2)) := fun k hk => by rw [← hk]; by_cases h : yk = 2 <;> simp [h]
      cases hkd : (yk == 2) with
      | false =>
        obtain rfl : bq = false := by rw [HSE.out, hkd]; rfl
        refine wp_region_old 15 139 (by kernel_rfl) (by kernel_rfl) (by rfl) ?_
        simp only [List.take_succ_cons, List.take_zero, List.drop_succ_cons, List.drop_zero, List.drop_nil]
        refine chain_move (.int .i64 0) _ (fun _ _ => Below.refl _ _) rfl rfl (by kernel_rfl) (by kernel_rfl) rfl ?_
        refine chain_bin (.bool false) _ _ _ _ _ (.int .i64 0) (.int .i64 0) (fun _ _ => Below.refl _ _) rfl rfl (by kernel_rfl) (by kernel_rfl) rfl rfl (fun w => neq_int_same _ _ _ _ w) ?_
        refine chain_move (.bool false) _ (fun _ _ => Below.refl _ _) rfl rfl (by kernel_rfl) (by kernel_rfl) rfl ?_
        refine chain_move (.slice rb bl cb) _ (fun _ _ => Below.refl _ _) rfl rfl (by kernel_rfl) (by kernel_rfl) rfl ?_
        refine chain_move (.int .i64 (i : Int)) _ (fun _ _ => Below.refl _ _) rfl rfl (by kernel_rfl) (by kernel_rfl) rfl ?_
        refine chain_call (.bool false) 10 [.slice rb bl cb, .int .i64 (i : Int)] _ _ (enters_of Tryz.func10 (by kernel_rfl) rfl) rfl rfl rfl (by kernel_rfl) (by kernel_rfl) rfl rfl (fun w1 hC => HHB.out w1 (HI.out.below (HOWD.out w1 hC))) ?_
        refine chain_val (.pointer (some ⟨bt, 2, none⟩)) (fun _ _ => Below.refl _ _) rfl (by intro cs b h; cases h) (by kernel_rfl) (by kernel_rfl) (fun w1 _ => by simp [execOp, evE, lk_cons, lk_nil, slotL, go_sem]) ?_
        refine chain_load (.int .i64 yk) _ _ _ (fun _ _ => Below.refl _ _) rfl rfl (by kernel_rfl) (by kernel_rfl) rfl (fun w1 hC => load_i64 (HT.out.below (HOWD.out w1 hC)).c2) ?_
        refine chain_bin (.bool false) _ _ _ _ _ (.int .i64 yk) (.int .i64 2) (fun _ _ => Below.refl _ _) rfl rfl (by kernel_rfl) (by kernel_rfl) rfl rfl (fun w1 => eql_i64 _ _ _ _ _ _ (HK2.out _ hkd) w1) ?_
        refine chain_move (.bool false) _ (fun _ _ => Below.refl _ _) rfl rfl (by kernel_rfl) (by kernel_rfl) rfl ?_
        refine chain_skip rfl (by kernel_rfl) ?_
        refine chain_skip rfl (by kernel_rfl) ?_
        refine chain_pick (.bool false) _ _ _ false (fun _ _ => Below.refl _ _) rfl rfl (by kernel_rfl) (by kernel_rfl) rfl rfl ?_
        refine chain_bin (.bool false) _ _ _ _ _ (.bool false) (.bool false) (fun _ _ => Below.refl _ _) rfl rfl (by kernel_rfl) (by kernel_rfl) rfl rfl (fun w => neq_bool_same _ _ _ w) ?_
        refine chain_pick (.bool false) _ _ _ false (fun _ _ => Below.refl _ _) rfl rfl (by kernel_rfl) (by kernel_rfl) rfl rfl ?_
        refine chain_end (by rfl) ?_
        intro xs w7 hCw7 hrew7
        simp only [layE, List.foldr_cons, List.foldr_nil, List.set_cons_succ, List.set_cons_zero]
        have hb7 := HOWD.out w7 hCw7
        replace HT := Lib.hid (HT.out.below hb7)
        replace HI := Lib.hid (HI.out.below hb7)
        replace FK := Lib.hid (FK.out.below hb7)
        replace FB := Lib.hid (FB.out.trans (hb7.mono FB.out.size))
        clear hb7 hCw7 hrew7 HOWD HK2 hkd
        go_wp2_with (first | (go_at_call 10; go_loud (refine (HHB.out _ HI.out).mono ?_; rintro e w8 ⟨rfl, hb⟩; have HT8 := Lib.hid (HT.out.below hb); have FK8 := Lib.hid (FK.out.below hb); have FB8 := Lib.hid (FB.out.trans (hb.mono FB.out.size)); clear hb)))
        go_ret
        exact ⟨rfl, FB8.out⟩
      | true =>
        cases S with
        | true =>
          obtain rfl : bq = false := by rw [HSE.out, hkd]; rfl
          refine wp_region_old 15 139 (by kernel_rfl) (by kernel_rfl) (by rfl) ?_
          simp only [List.take_succ_cons, List.take_zero, List.drop_succ_cons, List.drop_zero, List.drop_nil]
          refine chain_move (.int .i64 0) _ (fun _ _ => Below.refl _ _) rfl rfl (by kernel_rfl) (by kernel_rfl) rfl ?_
          refine chain_bin (.bool false) _ _ _ _ _ (.int .i64 0) (.int .i64 0) (fun _ _ => Below.refl _ _) rfl rfl (by kernel_rfl) (by kernel_rfl) rfl rfl (fun w => neq_int_same _ _ _ _ w) ?_
          refine chain_move (.bool false) _ (fun _ _ => Below.refl _ _) rfl rfl (by kernel_rfl) (by kernel_rfl) rfl ?_
          refine chain_move (.slice rb bl cb) _ (fun _ _ => Below.refl _ _) rfl rfl (by kernel_rfl) (by kernel_rfl) rfl ?_
          refine chain_move (.int .i64 (i : Int)) _ (fun _ _ => Below.refl _ _) rfl rfl (by kernel_rfl) (by kernel_rfl) rfl ?_
          refine chain_call (.bool false) 10 [.slice rb bl cb, .int .i64 (i : Int)] _ _ (enters_of Tryz.func10 (by kernel_rfl) rfl) rfl rfl rfl (by kernel_rfl) (by kernel_rfl) rfl rfl (fun w1 hC => HHB.out w1 (HI.out.below (HOWD.out w1 hC))) ?_
          refine chain_val (.pointer (some ⟨bt, 2, none⟩)) (fun _ _ => Below.refl _ _) rfl (by intro cs b h; cases h) (by kernel_rfl) (by kernel_rfl) (fun w1 _ => by simp [execOp, evE, lk_cons, lk_nil, slotL, go_sem]) ?_
          refine chain_load (.int .i64 yk) _ _ _ (fun _ _ => Below.refl _ _) rfl rfl (by kernel_rfl) (by kernel_rfl) rfl (fun w1 hC => load_i64 (HT.out.below (HOWD.out w1 hC)).c2) ?_
          refine chain_bin (.bool true) _ _ _ _ _ (.int .i64 yk) (.int .i64 2) (fun _ _ => Below.refl _ _) rfl rfl (by kernel_rfl) (by kernel_rfl) rfl rfl (fun w1 => eql_i64 _ _ _ _ _ _ (HK2.out _ hkd) w1) ?_
          refine chain_move (.bool true) _ (fun _ _ => Below.refl _ _) rfl rfl (by kernel_rfl) (by kernel_rfl) rfl ?_
          refine chain_move (.bool true) _ (fun _ _ => Below.refl _ _) rfl rfl (by kernel_rfl) (by kernel_rfl) rfl ?_
          refine chain_un (.bool false) _ _ _ (.bool true) (fun _ _ => Below.refl _ _) rfl rfl (by kernel_rfl) (by kernel_rfl) rfl (fun w => un_not _ w) ?_
          refine chain_pick (.bool false) _ _ _ true (fun _ _ => Below.refl _ _) rfl rfl (by kernel_rfl) (by kernel_rfl) rfl rfl ?_
          refine chain_bin (.bool false) _ _ _ _ _ (.bool false) (.bool false) (fun _ _ => Below.refl _ _) rfl rfl (by kernel_rfl) (by kernel_rfl) rfl rfl (fun w => neq_bool_same _ _ _ w) ?_
          refine chain_pick (.bool false) _ _ _ false (fun _ _ => Below.refl _ _) rfl rfl (by kernel_rfl) (by kernel_rfl) rfl rfl ?_
          refine chain_end (by rfl) ?_
          intro xs w7 hCw7 hrew7
          simp only [layE, List.foldr_cons, List.foldr_nil, List.set_cons_succ, List.set_cons_zero]
          have hb7 := HOWD.out w7 hCw7
          replace HT := Lib.hid (HT.out.below hb7)
          replace HI := Lib.hid (HI.out.below hb7)
          replace FK := Lib.hid (FK.out.below hb7)
          replace FB := Lib.hid (FB.out.trans (hb7.mono FB.out.size))
          clear hb7 hCw7 hrew7 HOWD HK2 hkd
          go_wp2_with (first | (go_at_call 10; go_loud (refine (HHB.out _ HI.out).mono ?_; rintro e w8 ⟨rfl, hb⟩; have HT8 := Lib.hid (HT.out.below hb); have FK8 := Lib.hid (FK.out.below hb); have FB8 := Lib.hid (FB.out.trans (hb.mono FB.out.size)); clear hb)))
          go_ret
          exact ⟨rfl, FB8.out⟩
        | false =>
          obtain rfl : bq = true := by rw [HSE.out, hkd]; rfl
          refine wp_region_old 15 139 (by kernel_rfl) (by kernel_rfl) (by rfl) ?_
          simp only [List.take_succ_cons, List.take_zero, List.drop_succ_cons, List.drop_zero, List.drop_nil]
          refine chain_move (.int .i64 0) _ (fun _ _ => Below.refl _ _) rfl rfl (by kernel_rfl) (by kernel_rfl) rfl ?_
          refine chain_bin (.bool false) _ _ _ _ _ (.int .i64 0) (.int .i64 0) (fun _ _ => Below.refl _ _) rfl rfl (by kernel_rfl) (by kernel_rfl) rfl rfl (fun w => neq_int_same _ _ _ _ w) ?_
          refine chain_move (.bool false) _ (fun _ _ => Below.refl _ _) rfl rfl (by kernel_rfl) (by kernel_rfl) rfl ?_
          refine chain_move (.slice rb bl cb) _ (fun _ _ => Below.refl _ _) rfl rfl (by kernel_rfl) (by kernel_rfl) rfl ?_
          refine chain_move (.int .i64 (i : Int)) _ (fun _ _ => Below.refl _ _) rfl rfl (by kernel_rfl) (by kernel_rfl) rfl ?_
          refine chain_call (.bool true) 10 [.slice rb bl cb, .int .i64 (i : Int)] _ _ (enters_of Tryz.func10 (by kernel_rfl) rfl) rfl rfl rfl (by kernel_rfl) (by kernel_rfl) rfl rfl (fun w1 hC => HHB.out w1 (HI.out.below (HOWD.out w1 hC))) ?_
          refine chain_val (.pointer (some ⟨bt, 2, none⟩)) (fun _ _ => Below.refl _ _) rfl (by intro cs b h; cases h) (by kernel_rfl) (by kernel_rfl) (fun w1 _ => by simp [execOp, evE, lk_cons, lk_nil, slotL, go_sem]) ?_
          refine chain_load (.int .i64 yk) _ _ _ (fun _ _ => Below.refl _ _) rfl rfl (by kernel_rfl) (by kernel_rfl) rfl (fun w1 hC => load_i64 (HT.out.below (HOWD.out w1 hC)).c2) ?_
          refine chain_bin (.bool true) _ _ _ _ _ (.int .i64 yk) (.int .i64 2) (fun _ _ => Below.refl _ _) rfl rfl (by kernel_rfl) (by kernel_rfl) rfl rfl (fun w1 => eql_i64 _ _ _ _ _ _ (HK2.out _ hkd) w1) ?_
          refine chain_move (.bool true) _ (fun _ _ => Below.refl _ _) rfl rfl (by kernel_rfl) (by kernel_rfl) rfl ?_
          refine chain_move (.bool false) _ (fun _ _ => Below.refl _ _) rfl rfl (by kernel_rfl) (by kernel_rfl) rfl ?_
          refine chain_un (.bool true) _ _ _ (.bool false) (fun _ _ => Below.refl _ _) rfl rfl (by kernel_rfl) (by kernel_rfl) rfl (fun w => un_not _ w) ?_
          refine chain_pick (.bool true) _ _ _ true (fun _ _ => Below.refl _ _) rfl rfl (by kernel_rfl) (by kernel_rfl) rfl rfl ?_
          refine chain_bin (.bool false) _ _ _ _ _ (.bool true) (.bool true) (fun _ _ => Below.refl _ _) rfl rfl (by kernel_rfl) (by kernel_rfl) rfl rfl (fun w => neq_bool_same _ _ _ w) ?_
          refine chain_pick (.bool false) _ _ _ false (fun _ _ => Below.refl _ _) rfl rfl (by kernel_rfl) (by kernel_rfl) rfl rfl ?_
          refine chain_end (by rfl) ?_
          intro xs w7 hCw7 hrew7
          simp only [layE, List.foldr_cons, List.foldr_nil, List.set_cons_succ, List.set_cons_zero]
          have hb7 := HOWD.out w7 hCw7
          replace HT := Lib.hid (HT.out.below hb7)
          replace HI := Lib.hid (HI.out.below hb7)
          replace FK := Lib.hid (FK.out.below hb7)
          replace FB := Lib.hid (FB.out.trans (hb7.mono FB.out.size))
          clear hb7 hCw7 hrew7 HOWD HK2 hkd
          by_cases hE : E = 0
          · subst hE
            obtain rfl : hl = true := HIN.out rfl rfl
            go_wp2_with (first | (go_at_call 10; refine (HHB.out _ HI.out).mono ?_; rintro e w8 ⟨rfl, hb⟩; clear HHB; have HT8 := Lib.hid (HT.out.below hb); have FK8 := Lib.hid (FK.out.below hb); have FB8 := Lib.hid (FB.out.trans (hb.mono FB.out.size)); clear hb; have c0 := FK8.out.cell (i := 0) rfl; have c1 := FK8.out.cell (i := 1) rfl; have y0 := HT8.out.c0; have y1 := HT8.out.c1; simp only at y0 y1) | (go_at_call 11; refine (HCC.out _ FB8.out).mono ?_; rintro e w9 ⟨rfl, hb⟩; clear HCC c0 c1 y0 y1; have FB9 := Lib.hid (FB8.out.trans (hb.mono FB8.out.size)); clear hb) | (go_at_call 10; refine (HHL.out _ FB9.out).mono ?_; rintro e w10 ⟨rfl, hb⟩; have FB10 := Lib.hid (FB9.out.trans (hb.mono FB9.out.size)); clear hb))
            go_ret
            exact ⟨rfl, FB10.out⟩
          · have t8 : (E != 0) = true := by simpa using hE
            clear hE
            go_wp2_with (first | (go_at_call 10; refine (HHB.out _ HI.out).mono ?_; rintro e w8 ⟨rfl, hb⟩; clear HHB; have HT8 := Lib.hid (HT.out.below hb); have FK8 := Lib.hid (FK.out.below hb); have FB8 := Lib.hid (FB.out.trans (hb.mono FB.out.size)); clear hb; have c0 := FK8.out.cell (i := 0) rfl; have c1 := FK8.out.cell (i := 1) rfl; have y0 := HT8.out.c0; have y1 := HT8.out.c1; simp only at y0 y1) | (go_at_call 11; refine (HCC.out _ FB8.out).mono ?_; rintro e w9 ⟨rfl, hb⟩; clear HCC c0 c1 y0 y1; have FB9 := Lib.hid (FB8.out.trans (hb.mono FB8.out.size)); clear hb))
            go_ret
            exact ⟨rfl, FB9.out⟩
end Go.Proofs.YtlllmoafhfjbbaaGreat
