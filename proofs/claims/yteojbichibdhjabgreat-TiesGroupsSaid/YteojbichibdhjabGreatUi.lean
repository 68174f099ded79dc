/- Layer 4: the specification's Groups, Same and Apart. -/
import Derived.Test.YteojbichibdhjabGreatUh
import Derived.Test.YteojbichibdhjabGreatUe
namespace Go.Proofs.YteojbichibdhjabGreat
set_option linter.unusedSimpArgs false
set_option linter.unusedVariables false
open Go Go.RowKit

theorem dec_of {a b : Int} {v : Bool} (h : (a == b) = v) : v = decide (a = b) := by rw [← h]; rfl
theorem any_no' {l : List Int} {ts : List TieD} {x y : Int} {k : Nat} (hk : k < ts.length) (h : (ts.take k).any (cutB l x y) = false) (h2 : cutB l x y ts[k] = false) : (ts.take (k + 1)).any (cutB l x y) = false := by
  rw [← List.take_append_getElem hk, List.any_append, h]; simp [h2]
theorem any_yes' {l : List Int} {ts : List TieD} {x y : Int} {k : Nat} (hk : k < ts.length) (h2 : cutB l x y ts[k] = true) : apB l ts x y = true := by
  unfold apB
  rw [List.any_eq_true]
  exact ⟨_, List.getElem_mem hk, h2⟩
set_option maxRecDepth 100000 in
set_option maxHeartbeats 4000000 in
theorem rApart_any (a : Option Addr) (cap : Nat) (ts : List TieD) (g k x y : Nat) (l : List Int) (w : World) (hl : ts.length ≤ 100000) (hs : TiesAt w a ts) (hlk : l.length = k) (hk : k ≤ 32) (hx : x < k) (hy : y < k) (ht : ∀ t ∈ ts, tieB t k = true) (h : NB w g l) :
    Calls Tryz.prog 35 #[gV k a ts.length cap, .slice (some ⟨g, 0, none⟩) k k, .int .i64 x, .int .i64 y] w fun e w' => e = .returned (.bool (apB l ts x y)) ∧ Below w.heap.size w w' := by
  have HS := Lib.hid hs
  have HV := Lib.hid ht
  have HG := Lib.hid h
  have hpx := atI_some (l := l) (i := (x : Int)) (by rw [Int.toNat_natCast]; omega)
  have hpy := atI_some (l := l) (i := (y : Int)) (by rw [Int.toNat_natCast]; omega)
  rw [Int.toNat_natCast] at hpx hpy
  have HPx := Lib.hid hpx
  have HPy := Lib.hid hpy
  have HXY : Hid (x < k ∧ y < k ∧ l.length = k) := ⟨hx, hy, hlk⟩
  obtain ⟨m, hm⟩ : ∃ m, m = ts.length := ⟨_, rfl⟩
  rw [← hm] at hl ⊢
  have HM := Lib.hid hm
  clear hs hm h hlk hx hy ht hpx hpy
  obtain ⟨r, hr0⟩ : ∃ r, r = apB l ts x y := ⟨_, rfl⟩
  have HR := Lib.hid hr0
  rw [← hr0]
  clear hr0
  go_enter Tryz.func35, Tryz.ntmps35
  simp only [gV]
  go_wp2_with fail
  go_loopw [9] (fun ti wr => ∃ j : Nat, j ≤ m ∧ ti = .int .i64 j ∧ Hid ((ts.take j).any (cutB l x y) = false) ∧ Hid (Blk wr w.heap.size [.int .i64 k, .slice a m cap] 24) ∧ Hid (Below w.heap.size w wr)) (fun ti _ => m - (intOf ti).toNat)
  case atStart => exact ⟨0, by omega, rfl, by simp [Hid], Blk.new w _ _, (Below.refl _ _).alloc (Nat.le_refl _) _⟩
  case round =>
    obtain ⟨j, hj, rfl, HN, HK, HB⟩ := hrel
    have d1 := HK.out.cell (i := 1) rfl
    by_cases hlt : j < m
    · have hkl : j < ts.length := by rw [← HM.out]; exact hlt
      obtain ⟨lb, lo, rfl, hlb, c0, c1, c2, c3, c4⟩ := (HS.out.below HB.out).at hkl
      have HNO := Lib.hid (any_no' hkl HN.out)
      have HYES := Lib.hid (any_yes' (l := l) (x := x) (y := y) hkl)
      have hvk := HV.out ts[j] (List.getElem_mem hkl)
      obtain ⟨z, hz⟩ : ∃ z, z = ts[j] := ⟨_, rfl⟩
      rw [← hz] at hvk HNO HYES c0 c1 c2 c3 c4
      obtain ⟨ha0, ha1, hb0, hb1, ha2, hb2⟩ := tieB_in hvk
      have hc := cut_cases l x y z
      clear hkl hz HN hvk
      obtain ⟨ya, yb, yk, ys, yr⟩ := z
      simp only at c0 c1 c2 c3 c4 ha0 ha1 hb0 hb1 ha2 hb2 hc HNO HYES
      obtain ⟨xa, rfl⟩ := Int.eq_ofNat_of_zero_le ha0
      obtain ⟨xb, rfl⟩ := Int.eq_ofNat_of_zero_le hb0
      have hpa := atI_some (l := l) (i := (xa : Int)) (by rw [HXY.out.2.2]; exact ha2)
      have hpb := atI_some (l := l) (i := (xb : Int)) (by rw [HXY.out.2.2]; exact hb2)
      rw [Int.toNat_natCast] at hpa hpb
      have HPa := Lib.hid hpa
      have HPb := Lib.hid hpb
      have HLT : Hid (xa < k ∧ xb < k ∧ x < k ∧ y < k) := ⟨by omega, by omega, HXY.out.1, HXY.out.2.1⟩
      clear hpa hpb ha0 ha1 hb0 hb1 ha2 hb2
      obtain ⟨b4, hb4⟩ : ∃ b4, b4 = w.heap.size := ⟨_, rfl⟩
      have HB4 := Lib.hid hb4
      rw [← hb4] at HK d1 ⊢
      clear hb4
      go_upto_region 5 with (fail)
      refine named (fun V => Below wr.heap.size wr V ∧ TieAt V wr.heap.size ⟨xa, xb, yk, ys, yr⟩) ⟨(Below.refl _ _).alloc (Nat.le_refl _) _, TieAt.new wr ⟨xa, xb, yk, ys, yr⟩ _⟩ ?_
      rintro W5 ⟨F5, T5⟩
      have HX : Hid (∀ W, (clOld W5.drew).C W → NB W g l ∧ TieAt W wr.heap.size ⟨xa, xb, yk, ys, yr⟩ ∧ Blk W b4 [.int .i64 k, .slice (some ⟨lb, lo, none⟩) m cap] 24 ∧ Below b4 w W) := fun W hC => by
        have hb : Below W5.heap.size W5 W := old_end (Below.refl _ _) hC (Nat.le_refl _)
        have h5 := F5.trans (hb.mono F5.size)
        have h6 := HB.out.trans (h5.mono HB.out.size)
        exact ⟨HG.out.block (h6.block _ HG.out.lt), T5.below hb, HK.out.below h5, by rw [HB4.out]; exact h6⟩
      obtain ⟨b7, hb7⟩ : ∃ b7, b7 = wr.heap.size := ⟨_, rfl⟩
      rw [← hb7] at HX ⊢
      clear T5 F5 d1 c0 c1 c2 c3 c4 hlb hb7
      have t3 : decide (j < m) = true := decide_eq_true hlt
      generalize atI l x = px at *
      generalize atI l y = py at *
      generalize atI l xa = pa at *
      generalize atI l xb = pb at *
      rcases hc with ⟨q0, hr⟩ | ⟨q0, ⟨q1, q2, hr⟩ | ⟨q1, q2, q3, q4, hr⟩ | ⟨q1, q2, q3, q4, hr⟩ | ⟨q1, q2, q3, hr⟩ | ⟨q1, q3, q4, hr⟩ | ⟨q1, q3, q4, hr⟩ | ⟨q1, q3, hr⟩⟩
      · rw [hr] at HNO HYES
        have HKD := Lib.hid (dec_of q0)
        clear hr q0
        refine wp_region_old 51 74 (by kernel_rfl) (by kernel_rfl) (by rfl) ?_
        simp only [List.take_succ_cons, List.take_zero, List.drop_succ_cons, List.drop_zero, List.drop_nil]
        refine chain_val (.pointer (some ⟨b7, 2, none⟩)) (fun _ _ => Below.refl _ _) rfl (by intro cs b h; cases h) (by kernel_rfl) (by kernel_rfl) (fun w1 _ => by simp [execOp, evE, lk_cons, lk_nil, slotL, go_sem]) ?_
        refine chain_load (.int .i64 yk) _ _ _ (fun _ _ => Below.refl _ _) rfl rfl (by kernel_rfl) (by kernel_rfl) rfl (fun w1 hC => load_i64 (HX.out w1 hC).2.1.c2) ?_
        refine chain_bin (.bool false) _ _ _ _ _ (.int .i64 yk) (.int .i64 1) (fun _ _ => Below.refl _ _) rfl rfl (by kernel_rfl) (by kernel_rfl) rfl rfl (fun w1 => eql_i64 _ _ _ _ _ _ HKD.out w1) ?_
        refine chain_move (.bool false) _ (fun _ _ => Below.refl _ _) rfl rfl (by kernel_rfl) (by kernel_rfl) rfl ?_
        refine chain_skip rfl (by kernel_rfl) ?_
        refine chain_skip rfl (by kernel_rfl) ?_
        refine chain_skip rfl (by kernel_rfl) ?_
        refine chain_skip rfl (by kernel_rfl) ?_
        refine chain_skip rfl (by kernel_rfl) ?_
        refine chain_skip rfl (by kernel_rfl) ?_
        refine chain_skip rfl (by kernel_rfl) ?_
        refine chain_skip rfl (by kernel_rfl) ?_
        refine chain_skip rfl (by kernel_rfl) ?_
        refine chain_skip rfl (by kernel_rfl) ?_
        refine chain_skip rfl (by kernel_rfl) ?_
        refine chain_skipU rfl (by kernel_rfl) ?_
        refine chain_skipU rfl (by kernel_rfl) ?_
        refine chain_skipU rfl (by kernel_rfl) ?_
        refine chain_skipU rfl (by kernel_rfl) ?_
        refine chain_skipU rfl (by kernel_rfl) ?_
        refine chain_skipU rfl (by kernel_rfl) ?_
        refine chain_skipU rfl (by kernel_rfl) ?_
        refine chain_skipU rfl (by kernel_rfl) ?_
        refine chain_skipU rfl (by kernel_rfl) ?_
        refine chain_skipU rfl (by kernel_rfl) ?_
        refine chain_skip rfl (by kernel_rfl) ?_
        refine chain_skip rfl (by kernel_rfl) ?_
        refine chain_skipU rfl (by kernel_rfl) ?_
        refine chain_skipU rfl (by kernel_rfl) ?_
        refine chain_skipU rfl (by kernel_rfl) ?_
        refine chain_skipU rfl (by kernel_rfl) ?_
        refine chain_skipU rfl (by kernel_rfl) ?_
        refine chain_skipU rfl (by kernel_rfl) ?_
        refine chain_skipU rfl (by kernel_rfl) ?_
        refine chain_skipU rfl (by kernel_rfl) ?_
        refine chain_skipU rfl (by kernel_rfl) ?_
        refine chain_skipU rfl (by kernel_rfl) ?_
        refine chain_skipU rfl (by kernel_rfl) ?_
        refine chain_skipU rfl (by kernel_rfl) ?_
        refine chain_skipU rfl (by kernel_rfl) ?_
        refine chain_skipU rfl (by kernel_rfl) ?_
        refine chain_skipU rfl (by kernel_rfl) ?_
        refine chain_skipU rfl (by kernel_rfl) ?_
        refine chain_skipU rfl (by kernel_rfl) ?_
        refine chain_skipU rfl (by kernel_rfl) ?_
        refine chain_skipU rfl (by kernel_rfl) ?_
        refine chain_skipU rfl (by kernel_rfl) ?_
        refine chain_skipU rfl (by kernel_rfl) ?_
        refine chain_skipU rfl (by kernel_rfl) ?_
        refine chain_skip rfl (by kernel_rfl) ?_
        refine chain_pick (.bool false) _ _ _ false (fun _ _ => Below.refl _ _) rfl rfl (by kernel_rfl) (by kernel_rfl) rfl rfl ?_
        refine chain_end (by rfl) ?_
        intro xs w6 hCw6 hrew6
        simp only [layE, List.foldr_cons, List.foldr_nil, List.set_cons_succ, List.set_cons_zero]
        have H6 := Lib.hid (HX.out w6 hCw6)
        clear hCw6 hrew6 HX
        go_wp2_with fail
        exact ⟨⟨j + 1, by omega, by simp, HNO.out (by trivial), H6.out.2.2.1, H6.out.2.2.2⟩, by simp [intOf]; omega⟩
      · rw [hr] at HNO HYES
        have HKD := Lib.hid (dec_of q0)
        have HQ1 := Lib.hid (dec_of q1)
        have HQ2 := Lib.hid (dec_of q2)
        clear hr q0 q1 q2
        refine wp_region_old 51 74 (by kernel_rfl) (by kernel_rfl) (by rfl) ?_
        simp only [List.take_succ_cons, List.take_zero, List.drop_succ_cons, List.drop_zero, List.drop_nil]
        refine chain_val (.pointer (some ⟨b7, 2, none⟩)) (fun _ _ => Below.refl _ _) rfl (by intro cs b h; cases h) (by kernel_rfl) (by kernel_rfl) (fun w1 _ => by simp [execOp, evE, lk_cons, lk_nil, slotL, go_sem]) ?_
        refine chain_load (.int .i64 yk) _ _ _ (fun _ _ => Below.refl _ _) rfl rfl (by kernel_rfl) (by kernel_rfl) rfl (fun w1 hC => load_i64 (HX.out w1 hC).2.1.c2) ?_
        refine chain_bin (.bool true) _ _ _ _ _ (.int .i64 yk) (.int .i64 1) (fun _ _ => Below.refl _ _) rfl rfl (by kernel_rfl) (by kernel_rfl) rfl rfl (fun w1 => eql_i64 _ _ _ _ _ _ HKD.out w1) ?_
        refine chain_move (.bool true) _ (fun _ _ => Below.refl _ _) rfl rfl (by kernel_rfl) (by kernel_rfl) rfl ?_
        refine chain_move (.slice (some ⟨g, 0, none⟩) k k) _ (fun _ _ => Below.refl _ _) rfl rfl (by kernel_rfl) (by kernel_rfl) rfl ?_
        refine chain_val (.pointer (some ⟨b7, 0, none⟩)) (fun _ _ => Below.refl _ _) rfl (by intro cs b h; cases h) (by kernel_rfl) (by kernel_rfl) (fun w1 _ => by simp [execOp, evE, lk_cons, lk_nil, slotL, go_sem]) ?_
        refine chain_load (.int .i64 xa) _ _ _ (fun _ _ => Below.refl _ _) rfl rfl (by kernel_rfl) (by kernel_rfl) rfl (fun w1 hC => load_i64 (HX.out w1 hC).2.1.c0) ?_
        refine chain_idx (.pointer (some ⟨g, 0 + xa, none⟩)) _ _ _ (.slice (some ⟨g, 0, none⟩) k k) (.int .i64 xa) (fun _ _ => Below.refl _ _) rfl rfl (by kernel_rfl) (by kernel_rfl) rfl rfl (fun w1 => idx_i64 _ _ _ _ _ HLT.out.1 w1) ?_
        refine chain_load (.int .i64 pa) _ _ _ (fun _ _ => Below.refl _ _) rfl rfl (by kernel_rfl) (by kernel_rfl) rfl (fun w1 hC => load_i64 (by rw [Nat.zero_add]; exact (HX.out w1 hC).1.cell HPa.out)) ?_
        refine chain_move (.slice (some ⟨g, 0, none⟩) k k) _ (fun _ _ => Below.refl _ _) rfl rfl (by kernel_rfl) (by kernel_rfl) rfl ?_
        refine chain_move (.int .i64 x) _ (fun _ _ => Below.refl _ _) rfl rfl (by kernel_rfl) (by kernel_rfl) rfl ?_
        refine chain_idx (.pointer (some ⟨g, 0 + x, none⟩)) _ _ _ (.slice (some ⟨g, 0, none⟩) k k) (.int .i64 x) (fun _ _ => Below.refl _ _) rfl rfl (by kernel_rfl) (by kernel_rfl) rfl rfl (fun w1 => idx_i64 _ _ _ _ _ HLT.out.2.2.1 w1) ?_
        refine chain_load (.int .i64 px) _ _ _ (fun _ _ => Below.refl _ _) rfl rfl (by kernel_rfl) (by kernel_rfl) rfl (fun w1 hC => load_i64 (by rw [Nat.zero_add]; exact (HX.out w1 hC).1.cell HPx.out)) ?_
        refine chain_bin (.bool true) _ _ _ _ _ (.int .i64 pa) (.int .i64 px) (fun _ _ => Below.refl _ _) rfl rfl (by kernel_rfl) (by kernel_rfl) rfl rfl (fun w1 => eql_i64 _ _ _ _ _ _ HQ1.out w1) ?_
        refine chain_move (.bool true) _ (fun _ _ => Below.refl _ _) rfl rfl (by kernel_rfl) (by kernel_rfl) rfl ?_
        refine chain_move (.slice (some ⟨g, 0, none⟩) k k) _ (fun _ _ => Below.refl _ _) rfl rfl (by kernel_rfl) (by kernel_rfl) rfl ?_
        refine chain_val (.pointer (some ⟨b7, 1, none⟩)) (fun _ _ => Below.refl _ _) rfl (by intro cs b h; cases h) (by kernel_rfl) (by kernel_rfl) (fun w1 _ => by simp [execOp, evE, lk_cons, lk_nil, slotL, go_sem]) ?_
        refine chain_load (.int .i64 xb) _ _ _ (fun _ _ => Below.refl _ _) rfl rfl (by kernel_rfl) (by kernel_rfl) rfl (fun w1 hC => load_i64 (HX.out w1 hC).2.1.c1) ?_
        refine chain_idx (.pointer (some ⟨g, 0 + xb, none⟩)) _ _ _ (.slice (some ⟨g, 0, none⟩) k k) (.int .i64 xb) (fun _ _ => Below.refl _ _) rfl rfl (by kernel_rfl) (by kernel_rfl) rfl rfl (fun w1 => idx_i64 _ _ _ _ _ HLT.out.2.1 w1) ?_
        refine chain_load (.int .i64 pb) _ _ _ (fun _ _ => Below.refl _ _) rfl rfl (by kernel_rfl) (by kernel_rfl) rfl (fun w1 hC => load_i64 (by rw [Nat.zero_add]; exact (HX.out w1 hC).1.cell HPb.out)) ?_
        refine chain_move (.slice (some ⟨g, 0, none⟩) k k) _ (fun _ _ => Below.refl _ _) rfl rfl (by kernel_rfl) (by kernel_rfl) rfl ?_
        refine chain_move (.int .i64 y) _ (fun _ _ => Below.refl _ _) rfl rfl (by kernel_rfl) (by kernel_rfl) rfl ?_
        refine chain_idx (.pointer (some ⟨g, 0 + y, none⟩)) _ _ _ (.slice (some ⟨g, 0, none⟩) k k) (.int .i64 y) (fun _ _ => Below.refl _ _) rfl rfl (by kernel_rfl) (by kernel_rfl) rfl rfl (fun w1 => idx_i64 _ _ _ _ _ HLT.out.2.2.2 w1) ?_
        refine chain_load (.int .i64 py) _ _ _ (fun _ _ => Below.refl _ _) rfl rfl (by kernel_rfl) (by kernel_rfl) rfl (fun w1 hC => load_i64 (by rw [Nat.zero_add]; exact (HX.out w1 hC).1.cell HPy.out)) ?_
        refine chain_bin (.bool true) _ _ _ _ _ (.int .i64 pb) (.int .i64 py) (fun _ _ => Below.refl _ _) rfl rfl (by kernel_rfl) (by kernel_rfl) rfl rfl (fun w1 => eql_i64 _ _ _ _ _ _ HQ2.out w1) ?_
        refine chain_pick (.bool true) _ _ _ true (fun _ _ => Below.refl _ _) rfl rfl (by kernel_rfl) (by kernel_rfl) rfl rfl ?_
        refine chain_move (.bool true) _ (fun _ _ => Below.refl _ _) rfl rfl (by kernel_rfl) (by kernel_rfl) rfl ?_
        refine chain_skip rfl (by kernel_rfl) ?_
        refine chain_skip rfl (by kernel_rfl) ?_
        refine chain_skip rfl (by kernel_rfl) ?_
        refine chain_skip rfl (by kernel_rfl) ?_
        refine chain_skip rfl (by kernel_rfl) ?_
        refine chain_skip rfl (by kernel_rfl) ?_
        refine chain_skip rfl (by kernel_rfl) ?_
        refine chain_skip rfl (by kernel_rfl) ?_
        refine chain_skip rfl (by kernel_rfl) ?_
        refine chain_skip rfl (by kernel_rfl) ?_
        refine chain_skip rfl (by kernel_rfl) ?_
        refine chain_skipU rfl (by kernel_rfl) ?_
        refine chain_skipU rfl (by kernel_rfl) ?_
        refine chain_skipU rfl (by kernel_rfl) ?_
        refine chain_skipU rfl (by kernel_rfl) ?_
        refine chain_skipU rfl (by kernel_rfl) ?_
        refine chain_skipU rfl (by kernel_rfl) ?_
        refine chain_skipU rfl (by kernel_rfl) ?_
        refine chain_skipU rfl (by kernel_rfl) ?_
        refine chain_skipU rfl (by kernel_rfl) ?_
        refine chain_skipU rfl (by kernel_rfl) ?_
        refine chain_skip rfl (by kernel_rfl) ?_
        refine chain_pick (.bool true) _ _ _ true (fun _ _ => Below.refl _ _) rfl rfl (by kernel_rfl) (by kernel_rfl) rfl rfl ?_
        refine chain_pick (.bool true) _ _ _ true (fun _ _ => Below.refl _ _) rfl rfl (by kernel_rfl) (by kernel_rfl) rfl rfl ?_
        refine chain_end (by rfl) ?_
        intro xs w6 hCw6 hrew6
        simp only [layE, List.foldr_cons, List.foldr_nil, List.set_cons_succ, List.set_cons_zero]
        have H6 := Lib.hid (HX.out w6 hCw6)
        clear hCw6 hrew6 HX
        go_wp2_with fail
        go_ret
        exact ⟨by rw [HR.out, HYES.out (by trivial)]; rfl, by have := H6.out.2.2.2; rw [HB4.out] at this; exact this⟩
      · rw [hr] at HNO HYES
        have HKD := Lib.hid (dec_of q0)
        have HQ1 := Lib.hid (dec_of q1)
        have HQ2 := Lib.hid (dec_of q2)
        have HQ3 := Lib.hid (dec_of q3)
        have HQ4 := Lib.hid (dec_of q4)
        clear hr q0 q1 q2 q3 q4
        refine wp_region_old 51 74 (by kernel_rfl) (by kernel_rfl) (by rfl) ?_
        simp only [List.take_succ_cons, List.take_zero, List.drop_succ_cons, List.drop_zero, List.drop_nil]
        refine chain_val (.pointer (some ⟨b7, 2, none⟩)) (fun _ _ => Below.refl _ _) rfl (by intro cs b h; cases h) (by kernel_rfl) (by kernel_rfl) (fun w1 _ => by simp [execOp, evE, lk_cons, lk_nil, slotL, go_sem]) ?_
        refine chain_load (.int .i64 yk) _ _ _ (fun _ _ => Below.refl _ _) rfl rfl (by kernel_rfl) (by kernel_rfl) rfl (fun w1 hC => load_i64 (HX.out w1 hC).2.1.c2) ?_
        refine chain_bin (.bool true) _ _ _ _ _ (.int .i64 yk) (.int .i64 1) (fun _ _ => Below.refl _ _) rfl rfl (by kernel_rfl) (by kernel_rfl) rfl rfl (fun w1 => eql_i64 _ _ _ _ _ _ HKD.out w1) ?_
        refine chain_move (.bool true) _ (fun _ _ => Below.refl _ _) rfl rfl (by kernel_rfl) (by kernel_rfl) rfl ?_
        refine chain_move (.slice (some ⟨g, 0, none⟩) k k) _ (fun _ _ => Below.refl _ _) rfl rfl (by kernel_rfl) (by kernel_rfl) rfl ?_
        refine chain_val (.pointer (some ⟨b7, 0, none⟩)) (fun _ _ => Below.refl _ _) rfl (by intro cs b h; cases h) (by kernel_rfl) (by kernel_rfl) (fun w1 _ => by simp [execOp, evE, lk_cons, lk_nil, slotL, go_sem]) ?_
        refine chain_load (.int .i64 xa) _ _ _ (fun _ _ => Below.refl _ _) rfl rfl (by kernel_rfl) (by kernel_rfl) rfl (fun w1 hC => load_i64 (HX.out w1 hC).2.1.c0) ?_
        refine chain_idx (.pointer (some ⟨g, 0 + xa, none⟩)) _ _ _ (.slice (some ⟨g, 0, none⟩) k k) (.int .i64 xa) (fun _ _ => Below.refl _ _) rfl rfl (by kernel_rfl) (by kernel_rfl) rfl rfl (fun w1 => idx_i64 _ _ _ _ _ HLT.out.1 w1) ?_
        refine chain_load (.int .i64 pa) _ _ _ (fun _ _ => Below.refl _ _) rfl rfl (by kernel_rfl) (by kernel_rfl) rfl (fun w1 hC => load_i64 (by rw [Nat.zero_add]; exact (HX.out w1 hC).1.cell HPa.out)) ?_
        refine chain_move (.slice (some ⟨g, 0, none⟩) k k) _ (fun _ _ => Below.refl _ _) rfl rfl (by kernel_rfl) (by kernel_rfl) rfl ?_
        refine chain_move (.int .i64 x) _ (fun _ _ => Below.refl _ _) rfl rfl (by kernel_rfl) (by kernel_rfl) rfl ?_
        refine chain_idx (.pointer (some ⟨g, 0 + x, none⟩)) _ _ _ (.slice (some ⟨g, 0, none⟩) k k) (.int .i64 x) (fun _ _ => Below.refl _ _) rfl rfl (by kernel_rfl) (by kernel_rfl) rfl rfl (fun w1 => idx_i64 _ _ _ _ _ HLT.out.2.2.1 w1) ?_
        refine chain_load (.int .i64 px) _ _ _ (fun _ _ => Below.refl _ _) rfl rfl (by kernel_rfl) (by kernel_rfl) rfl (fun w1 hC => load_i64 (by rw [Nat.zero_add]; exact (HX.out w1 hC).1.cell HPx.out)) ?_
        refine chain_bin (.bool true) _ _ _ _ _ (.int .i64 pa) (.int .i64 px) (fun _ _ => Below.refl _ _) rfl rfl (by kernel_rfl) (by kernel_rfl) rfl rfl (fun w1 => eql_i64 _ _ _ _ _ _ HQ1.out w1) ?_
        refine chain_move (.bool true) _ (fun _ _ => Below.refl _ _) rfl rfl (by kernel_rfl) (by kernel_rfl) rfl ?_
        refine chain_move (.slice (some ⟨g, 0, none⟩) k k) _ (fun _ _ => Below.refl _ _) rfl rfl (by kernel_rfl) (by kernel_rfl) rfl ?_
        refine chain_val (.pointer (some ⟨b7, 1, none⟩)) (fun _ _ => Below.refl _ _) rfl (by intro cs b h; cases h) (by kernel_rfl) (by kernel_rfl) (fun w1 _ => by simp [execOp, evE, lk_cons, lk_nil, slotL, go_sem]) ?_
        refine chain_load (.int .i64 xb) _ _ _ (fun _ _ => Below.refl _ _) rfl rfl (by kernel_rfl) (by kernel_rfl) rfl (fun w1 hC => load_i64 (HX.out w1 hC).2.1.c1) ?_
        refine chain_idx (.pointer (some ⟨g, 0 + xb, none⟩)) _ _ _ (.slice (some ⟨g, 0, none⟩) k k) (.int .i64 xb) (fun _ _ => Below.refl _ _) rfl rfl (by kernel_rfl) (by kernel_rfl) rfl rfl (fun w1 => idx_i64 _ _ _ _ _ HLT.out.2.1 w1) ?_
        refine chain_load (.int .i64 pb) _ _ _ (fun _ _ => Below.refl _ _) rfl rfl (by kernel_rfl) (by kernel_rfl) rfl (fun w1 hC => load_i64 (by rw [Nat.zero_add]; exact (HX.out w1 hC).1.cell HPb.out)) ?_
        refine chain_move (.slice (some ⟨g, 0, none⟩) k k) _ (fun _ _ => Below.refl _ _) rfl rfl (by kernel_rfl) (by kernel_rfl) rfl ?_
        refine chain_move (.int .i64 y) _ (fun _ _ => Below.refl _ _) rfl rfl (by kernel_rfl) (by kernel_rfl) rfl ?_
        refine chain_idx (.pointer (some ⟨g, 0 + y, none⟩)) _ _ _ (.slice (some ⟨g, 0, none⟩) k k) (.int .i64 y) (fun _ _ => Below.refl _ _) rfl rfl (by kernel_rfl) (by kernel_rfl) rfl rfl (fun w1 => idx_i64 _ _ _ _ _ HLT.out.2.2.2 w1) ?_
        refine chain_load (.int .i64 py) _ _ _ (fun _ _ => Below.refl _ _) rfl rfl (by kernel_rfl) (by kernel_rfl) rfl (fun w1 hC => load_i64 (by rw [Nat.zero_add]; exact (HX.out w1 hC).1.cell HPy.out)) ?_
        refine chain_bin (.bool false) _ _ _ _ _ (.int .i64 pb) (.int .i64 py) (fun _ _ => Below.refl _ _) rfl rfl (by kernel_rfl) (by kernel_rfl) rfl rfl (fun w1 => eql_i64 _ _ _ _ _ _ HQ2.out w1) ?_
        refine chain_pick (.bool false) _ _ _ true (fun _ _ => Below.refl _ _) rfl rfl (by kernel_rfl) (by kernel_rfl) rfl rfl ?_
        refine chain_move (.bool false) _ (fun _ _ => Below.refl _ _) rfl rfl (by kernel_rfl) (by kernel_rfl) rfl ?_
        refine chain_move (.slice (some ⟨g, 0, none⟩) k k) _ (fun _ _ => Below.refl _ _) rfl rfl (by kernel_rfl) (by kernel_rfl) rfl ?_
        refine chain_val (.pointer (some ⟨b7, 0, none⟩)) (fun _ _ => Below.refl _ _) rfl (by intro cs b h; cases h) (by kernel_rfl) (by kernel_rfl) (fun w1 _ => by simp [execOp, evE, lk_cons, lk_nil, slotL, go_sem]) ?_
        refine chain_load (.int .i64 xa) _ _ _ (fun _ _ => Below.refl _ _) rfl rfl (by kernel_rfl) (by kernel_rfl) rfl (fun w1 hC => load_i64 (HX.out w1 hC).2.1.c0) ?_
        refine chain_idx (.pointer (some ⟨g, 0 + xa, none⟩)) _ _ _ (.slice (some ⟨g, 0, none⟩) k k) (.int .i64 xa) (fun _ _ => Below.refl _ _) rfl rfl (by kernel_rfl) (by kernel_rfl) rfl rfl (fun w1 => idx_i64 _ _ _ _ _ HLT.out.1 w1) ?_
        refine chain_load (.int .i64 pa) _ _ _ (fun _ _ => Below.refl _ _) rfl rfl (by kernel_rfl) (by kernel_rfl) rfl (fun w1 hC => load_i64 (by rw [Nat.zero_add]; exact (HX.out w1 hC).1.cell HPa.out)) ?_
        refine chain_move (.slice (some ⟨g, 0, none⟩) k k) _ (fun _ _ => Below.refl _ _) rfl rfl (by kernel_rfl) (by kernel_rfl) rfl ?_
        refine chain_move (.int .i64 y) _ (fun _ _ => Below.refl _ _) rfl rfl (by kernel_rfl) (by kernel_rfl) rfl ?_
        refine chain_idx (.pointer (some ⟨g, 0 + y, none⟩)) _ _ _ (.slice (some ⟨g, 0, none⟩) k k) (.int .i64 y) (fun _ _ => Below.refl _ _) rfl rfl (by kernel_rfl) (by kernel_rfl) rfl rfl (fun w1 => idx_i64 _ _ _ _ _ HLT.out.2.2.2 w1) ?_
        refine chain_load (.int .i64 py) _ _ _ (fun _ _ => Below.refl _ _) rfl rfl (by kernel_rfl) (by kernel_rfl) rfl (fun w1 hC => load_i64 (by rw [Nat.zero_add]; exact (HX.out w1 hC).1.cell HPy.out)) ?_
        refine chain_bin (.bool true) _ _ _ _ _ (.int .i64 pa) (.int .i64 py) (fun _ _ => Below.refl _ _) rfl rfl (by kernel_rfl) (by kernel_rfl) rfl rfl (fun w1 => eql_i64 _ _ _ _ _ _ HQ3.out w1) ?_
        refine chain_move (.bool true) _ (fun _ _ => Below.refl _ _) rfl rfl (by kernel_rfl) (by kernel_rfl) rfl ?_
        refine chain_move (.slice (some ⟨g, 0, none⟩) k k) _ (fun _ _ => Below.refl _ _) rfl rfl (by kernel_rfl) (by kernel_rfl) rfl ?_
        refine chain_val (.pointer (some ⟨b7, 1, none⟩)) (fun _ _ => Below.refl _ _) rfl (by intro cs b h; cases h) (by kernel_rfl) (by kernel_rfl) (fun w1 _ => by simp [execOp, evE, lk_cons, lk_nil, slotL, go_sem]) ?_
        refine chain_load (.int .i64 xb) _ _ _ (fun _ _ => Below.refl _ _) rfl rfl (by kernel_rfl) (by kernel_rfl) rfl (fun w1 hC => load_i64 (HX.out w1 hC).2.1.c1) ?_
        refine chain_idx (.pointer (some ⟨g, 0 + xb, none⟩)) _ _ _ (.slice (some ⟨g, 0, none⟩) k k) (.int .i64 xb) (fun _ _ => Below.refl _ _) rfl rfl (by kernel_rfl) (by kernel_rfl) rfl rfl (fun w1 => idx_i64 _ _ _ _ _ HLT.out.2.1 w1) ?_
        refine chain_load (.int .i64 pb) _ _ _ (fun _ _ => Below.refl _ _) rfl rfl (by kernel_rfl) (by kernel_rfl) rfl (fun w1 hC => load_i64 (by rw [Nat.zero_add]; exact (HX.out w1 hC).1.cell HPb.out)) ?_
        refine chain_move (.slice (some ⟨g, 0, none⟩) k k) _ (fun _ _ => Below.refl _ _) rfl rfl (by kernel_rfl) (by kernel_rfl) rfl ?_
        refine chain_move (.int .i64 x) _ (fun _ _ => Below.refl _ _) rfl rfl (by kernel_rfl) (by kernel_rfl) rfl ?_
        refine chain_idx (.pointer (some ⟨g, 0 + x, none⟩)) _ _ _ (.slice (some ⟨g, 0, none⟩) k k) (.int .i64 x) (fun _ _ => Below.refl _ _) rfl rfl (by kernel_rfl) (by kernel_rfl) rfl rfl (fun w1 => idx_i64 _ _ _ _ _ HLT.out.2.2.1 w1) ?_
        refine chain_load (.int .i64 px) _ _ _ (fun _ _ => Below.refl _ _) rfl rfl (by kernel_rfl) (by kernel_rfl) rfl (fun w1 hC => load_i64 (by rw [Nat.zero_add]; exact (HX.out w1 hC).1.cell HPx.out)) ?_
        refine chain_bin (.bool true) _ _ _ _ _ (.int .i64 pb) (.int .i64 px) (fun _ _ => Below.refl _ _) rfl rfl (by kernel_rfl) (by kernel_rfl) rfl rfl (fun w1 => eql_i64 _ _ _ _ _ _ HQ4.out w1) ?_
        refine chain_pick (.bool true) _ _ _ true (fun _ _ => Below.refl _ _) rfl rfl (by kernel_rfl) (by kernel_rfl) rfl rfl ?_
        refine chain_pick (.bool true) _ _ _ false (fun _ _ => Below.refl _ _) rfl rfl (by kernel_rfl) (by kernel_rfl) rfl rfl ?_
        refine chain_pick (.bool true) _ _ _ true (fun _ _ => Below.refl _ _) rfl rfl (by kernel_rfl) (by kernel_rfl) rfl rfl ?_
        refine chain_end (by rfl) ?_
        intro xs w6 hCw6 hrew6
        simp only [layE, List.foldr_cons, List.foldr_nil, List.set_cons_succ, List.set_cons_zero]
        have H6 := Lib.hid (HX.out w6 hCw6)
        clear hCw6 hrew6 HX
        go_wp2_with fail
        go_ret
        exact ⟨by rw [HR.out, HYES.out (by trivial)]; rfl, by have := H6.out.2.2.2; rw [HB4.out] at this; exact this⟩
      · rw [hr] at HNO HYES
        have HKD := Lib.hid (dec_of q0)
        have HQ1 := Lib.hid (dec_of q1)
        have HQ2 := Lib.hid (dec_of q2)
        have HQ3 := Lib.hid (dec_of q3)
        have HQ4 := Lib.hid (dec_of q4)
        clear hr q0 q1 q2 q3 q4
        refine wp_region_old 51 74 (by kernel_rfl) (by kernel_rfl) (by rfl) ?_
        simp only [List.take_succ_cons, List.take_zero, List.drop_succ_cons, List.drop_zero, List.drop_nil]
        refine chain_val (.pointer (some ⟨b7, 2, none⟩)) (fun _ _ => Below.refl _ _) rfl (by intro cs b h; cases h) (by kernel_rfl) (by kernel_rfl) (fun w1 _ => by simp [execOp, evE, lk_cons, lk_nil, slotL, go_sem]) ?_
        refine chain_load (.int .i64 yk) _ _ _ (fun _ _ => Below.refl _ _) rfl rfl (by kernel_rfl) (by kernel_rfl) rfl (fun w1 hC => load_i64 (HX.out w1 hC).2.1.c2) ?_
        refine chain_bin (.bool true) _ _ _ _ _ (.int .i64 yk) (.int .i64 1) (fun _ _ => Below.refl _ _) rfl rfl (by kernel_rfl) (by kernel_rfl) rfl rfl (fun w1 => eql_i64 _ _ _ _ _ _ HKD.out w1) ?_
        refine chain_move (.bool true) _ (fun _ _ => Below.refl _ _) rfl rfl (by kernel_rfl) (by kernel_rfl) rfl ?_
        refine chain_move (.slice (some ⟨g, 0, none⟩) k k) _ (fun _ _ => Below.refl _ _) rfl rfl (by kernel_rfl) (by kernel_rfl) rfl ?_
        refine chain_val (.pointer (some ⟨b7, 0, none⟩)) (fun _ _ => Below.refl _ _) rfl (by intro cs b h; cases h) (by kernel_rfl) (by kernel_rfl) (fun w1 _ => by simp [execOp, evE, lk_cons, lk_nil, slotL, go_sem]) ?_
        refine chain_load (.int .i64 xa) _ _ _ (fun _ _ => Below.refl _ _) rfl rfl (by kernel_rfl) (by kernel_rfl) rfl (fun w1 hC => load_i64 (HX.out w1 hC).2.1.c0) ?_
        refine chain_idx (.pointer (some ⟨g, 0 + xa, none⟩)) _ _ _ (.slice (some ⟨g, 0, none⟩) k k) (.int .i64 xa) (fun _ _ => Below.refl _ _) rfl rfl (by kernel_rfl) (by kernel_rfl) rfl rfl (fun w1 => idx_i64 _ _ _ _ _ HLT.out.1 w1) ?_
        refine chain_load (.int .i64 pa) _ _ _ (fun _ _ => Below.refl _ _) rfl rfl (by kernel_rfl) (by kernel_rfl) rfl (fun w1 hC => load_i64 (by rw [Nat.zero_add]; exact (HX.out w1 hC).1.cell HPa.out)) ?_
        refine chain_move (.slice (some ⟨g, 0, none⟩) k k) _ (fun _ _ => Below.refl _ _) rfl rfl (by kernel_rfl) (by kernel_rfl) rfl ?_
        refine chain_move (.int .i64 x) _ (fun _ _ => Below.refl _ _) rfl rfl (by kernel_rfl) (by kernel_rfl) rfl ?_
        refine chain_idx (.pointer (some ⟨g, 0 + x, none⟩)) _ _ _ (.slice (some ⟨g, 0, none⟩) k k) (.int .i64 x) (fun _ _ => Below.refl _ _) rfl rfl (by kernel_rfl) (by kernel_rfl) rfl rfl (fun w1 => idx_i64 _ _ _ _ _ HLT.out.2.2.1 w1) ?_
        refine chain_load (.int .i64 px) _ _ _ (fun _ _ => Below.refl _ _) rfl rfl (by kernel_rfl) (by kernel_rfl) rfl (fun w1 hC => load_i64 (by rw [Nat.zero_add]; exact (HX.out w1 hC).1.cell HPx.out)) ?_
        refine chain_bin (.bool true) _ _ _ _ _ (.int .i64 pa) (.int .i64 px) (fun _ _ => Below.refl _ _) rfl rfl (by kernel_rfl) (by kernel_rfl) rfl rfl (fun w1 => eql_i64 _ _ _ _ _ _ HQ1.out w1) ?_
        refine chain_move (.bool true) _ (fun _ _ => Below.refl _ _) rfl rfl (by kernel_rfl) (by kernel_rfl) rfl ?_
        refine chain_move (.slice (some ⟨g, 0, none⟩) k k) _ (fun _ _ => Below.refl _ _) rfl rfl (by kernel_rfl) (by kernel_rfl) rfl ?_
        refine chain_val (.pointer (some ⟨b7, 1, none⟩)) (fun _ _ => Below.refl _ _) rfl (by intro cs b h; cases h) (by kernel_rfl) (by kernel_rfl) (fun w1 _ => by simp [execOp, evE, lk_cons, lk_nil, slotL, go_sem]) ?_
        refine chain_load (.int .i64 xb) _ _ _ (fun _ _ => Below.refl _ _) rfl rfl (by kernel_rfl) (by kernel_rfl) rfl (fun w1 hC => load_i64 (HX.out w1 hC).2.1.c1) ?_
        refine chain_idx (.pointer (some ⟨g, 0 + xb, none⟩)) _ _ _ (.slice (some ⟨g, 0, none⟩) k k) (.int .i64 xb) (fun _ _ => Below.refl _ _) rfl rfl (by kernel_rfl) (by kernel_rfl) rfl rfl (fun w1 => idx_i64 _ _ _ _ _ HLT.out.2.1 w1) ?_
        refine chain_load (.int .i64 pb) _ _ _ (fun _ _ => Below.refl _ _) rfl rfl (by kernel_rfl) (by kernel_rfl) rfl (fun w1 hC => load_i64 (by rw [Nat.zero_add]; exact (HX.out w1 hC).1.cell HPb.out)) ?_
        refine chain_move (.slice (some ⟨g, 0, none⟩) k k) _ (fun _ _ => Below.refl _ _) rfl rfl (by kernel_rfl) (by kernel_rfl) rfl ?_
        refine chain_move (.int .i64 y) _ (fun _ _ => Below.refl _ _) rfl rfl (by kernel_rfl) (by kernel_rfl) rfl ?_
        refine chain_idx (.pointer (some ⟨g, 0 + y, none⟩)) _ _ _ (.slice (some ⟨g, 0, none⟩) k k) (.int .i64 y) (fun _ _ => Below.refl _ _) rfl rfl (by kernel_rfl) (by kernel_rfl) rfl rfl (fun w1 => idx_i64 _ _ _ _ _ HLT.out.2.2.2 w1) ?_
        refine chain_load (.int .i64 py) _ _ _ (fun _ _ => Below.refl _ _) rfl rfl (by kernel_rfl) (by kernel_rfl) rfl (fun w1 hC => load_i64 (by rw [Nat.zero_add]; exact (HX.out w1 hC).1.cell HPy.out)) ?_
        refine chain_bin (.bool false) _ _ _ _ _ (.int .i64 pb) (.int .i64 py) (fun _ _ => Below.refl _ _) rfl rfl (by kernel_rfl) (by kernel_rfl) rfl rfl (fun w1 => eql_i64 _ _ _ _ _ _ HQ2.out w1) ?_
        refine chain_pick (.bool false) _ _ _ true (fun _ _ => Below.refl _ _) rfl rfl (by kernel_rfl) (by kernel_rfl) rfl rfl ?_
        refine chain_move (.bool false) _ (fun _ _ => Below.refl _ _) rfl rfl (by kernel_rfl) (by kernel_rfl) rfl ?_
        refine chain_move (.slice (some ⟨g, 0, none⟩) k k) _ (fun _ _ => Below.refl _ _) rfl rfl (by kernel_rfl) (by kernel_rfl) rfl ?_
        refine chain_val (.pointer (some ⟨b7, 0, none⟩)) (fun _ _ => Below.refl _ _) rfl (by intro cs b h; cases h) (by kernel_rfl) (by kernel_rfl) (fun w1 _ => by simp [execOp, evE, lk_cons, lk_nil, slotL, go_sem]) ?_
        refine chain_load (.int .i64 xa) _ _ _ (fun _ _ => Below.refl _ _) rfl rfl (by kernel_rfl) (by kernel_rfl) rfl (fun w1 hC => load_i64 (HX.out w1 hC).2.1.c0) ?_
        refine chain_idx (.pointer (some ⟨g, 0 + xa, none⟩)) _ _ _ (.slice (some ⟨g, 0, none⟩) k k) (.int .i64 xa) (fun _ _ => Below.refl _ _) rfl rfl (by kernel_rfl) (by kernel_rfl) rfl rfl (fun w1 => idx_i64 _ _ _ _ _ HLT.out.1 w1) ?_
        refine chain_load (.int .i64 pa) _ _ _ (fun _ _ => Below.refl _ _) rfl rfl (by kernel_rfl) (by kernel_rfl) rfl (fun w1 hC => load_i64 (by rw [Nat.zero_add]; exact (HX.out w1 hC).1.cell HPa.out)) ?_
        refine chain_move (.slice (some ⟨g, 0, none⟩) k k) _ (fun _ _ => Below.refl _ _) rfl rfl (by kernel_rfl) (by kernel_rfl) rfl ?_
        refine chain_move (.int .i64 y) _ (fun _ _ => Below.refl _ _) rfl rfl (by kernel_rfl) (by kernel_rfl) rfl ?_
        refine chain_idx (.pointer (some ⟨g, 0 + y, none⟩)) _ _ _ (.slice (some ⟨g, 0, none⟩) k k) (.int .i64 y) (fun _ _ => Below.refl _ _) rfl rfl (by kernel_rfl) (by kernel_rfl) rfl rfl (fun w1 => idx_i64 _ _ _ _ _ HLT.out.2.2.2 w1) ?_
        refine chain_load (.int .i64 py) _ _ _ (fun _ _ => Below.refl _ _) rfl rfl (by kernel_rfl) (by kernel_rfl) rfl (fun w1 hC => load_i64 (by rw [Nat.zero_add]; exact (HX.out w1 hC).1.cell HPy.out)) ?_
        refine chain_bin (.bool true) _ _ _ _ _ (.int .i64 pa) (.int .i64 py) (fun _ _ => Below.refl _ _) rfl rfl (by kernel_rfl) (by kernel_rfl) rfl rfl (fun w1 => eql_i64 _ _ _ _ _ _ HQ3.out w1) ?_
        refine chain_move (.bool true) _ (fun _ _ => Below.refl _ _) rfl rfl (by kernel_rfl) (by kernel_rfl) rfl ?_
        refine chain_move (.slice (some ⟨g, 0, none⟩) k k) _ (fun _ _ => Below.refl _ _) rfl rfl (by kernel_rfl) (by kernel_rfl) rfl ?_
        refine chain_val (.pointer (some ⟨b7, 1, none⟩)) (fun _ _ => Below.refl _ _) rfl (by intro cs b h; cases h) (by kernel_rfl) (by kernel_rfl) (fun w1 _ => by simp [execOp, evE, lk_cons, lk_nil, slotL, go_sem]) ?_
        refine chain_load (.int .i64 xb) _ _ _ (fun _ _ => Below.refl _ _) rfl rfl (by kernel_rfl) (by kernel_rfl) rfl (fun w1 hC => load_i64 (HX.out w1 hC).2.1.c1) ?_
        refine chain_idx (.pointer (some ⟨g, 0 + xb, none⟩)) _ _ _ (.slice (some ⟨g, 0, none⟩) k k) (.int .i64 xb) (fun _ _ => Below.refl _ _) rfl rfl (by kernel_rfl) (by kernel_rfl) rfl rfl (fun w1 => idx_i64 _ _ _ _ _ HLT.out.2.1 w1) ?_
        refine chain_load (.int .i64 pb) _ _ _ (fun _ _ => Below.refl _ _) rfl rfl (by kernel_rfl) (by kernel_rfl) rfl (fun w1 hC => load_i64 (by rw [Nat.zero_add]; exact (HX.out w1 hC).1.cell HPb.out)) ?_
        refine chain_move (.slice (some ⟨g, 0, none⟩) k k) _ (fun _ _ => Below.refl _ _) rfl rfl (by kernel_rfl) (by kernel_rfl) rfl ?_
        refine chain_move (.int .i64 x) _ (fun _ _ => Below.refl _ _) rfl rfl (by kernel_rfl) (by kernel_rfl) rfl ?_
        refine chain_idx (.pointer (some ⟨g, 0 + x, none⟩)) _ _ _ (.slice (some ⟨g, 0, none⟩) k k) (.int .i64 x) (fun _ _ => Below.refl _ _) rfl rfl (by kernel_rfl) (by kernel_rfl) rfl rfl (fun w1 => idx_i64 _ _ _ _ _ HLT.out.2.2.1 w1) ?_
        refine chain_load (.int .i64 px) _ _ _ (fun _ _ => Below.refl _ _) rfl rfl (by kernel_rfl) (by kernel_rfl) rfl (fun w1 hC => load_i64 (by rw [Nat.zero_add]; exact (HX.out w1 hC).1.cell HPx.out)) ?_
        refine chain_bin (.bool false) _ _ _ _ _ (.int .i64 pb) (.int .i64 px) (fun _ _ => Below.refl _ _) rfl rfl (by kernel_rfl) (by kernel_rfl) rfl rfl (fun w1 => eql_i64 _ _ _ _ _ _ HQ4.out w1) ?_
        refine chain_pick (.bool false) _ _ _ true (fun _ _ => Below.refl _ _) rfl rfl (by kernel_rfl) (by kernel_rfl) rfl rfl ?_
        refine chain_pick (.bool false) _ _ _ false (fun _ _ => Below.refl _ _) rfl rfl (by kernel_rfl) (by kernel_rfl) rfl rfl ?_
        refine chain_pick (.bool false) _ _ _ true (fun _ _ => Below.refl _ _) rfl rfl (by kernel_rfl) (by kernel_rfl) rfl rfl ?_
        refine chain_end (by rfl) ?_
        intro xs w6 hCw6 hrew6
        simp only [layE, List.foldr_cons, List.foldr_nil, List.set_cons_succ, List.set_cons_zero]
        have H6 := Lib.hid (HX.out w6 hCw6)
        clear hCw6 hrew6 HX
        go_wp2_with fail
        exact ⟨⟨j + 1, by omega, by simp, HNO.out (by trivial), H6.out.2.2.1, H6.out.2.2.2⟩, by simp [intOf]; omega⟩
      · rw [hr] at HNO HYES
        have HKD := Lib.hid (dec_of q0)
        have HQ1 := Lib.hid (dec_of q1)
        have HQ2 := Lib.hid (dec_of q2)
        have HQ3 := Lib.hid (dec_of q3)
        clear hr q0 q1 q2 q3
        refine wp_region_old 51 74 (by kernel_rfl) (by kernel_rfl) (by rfl) ?_
        simp only [List.take_succ_cons, List.take_zero, List.drop_succ_cons, List.drop_zero, List.drop_nil]
        refine chain_val (.pointer (some ⟨b7, 2, none⟩)) (fun _ _ => Below.refl _ _) rfl (by intro cs b h; cases h) (by kernel_rfl) (by kernel_rfl) (fun w1 _ => by simp [execOp, evE, lk_cons, lk_nil, slotL, go_sem]) ?_
        refine chain_load (.int .i64 yk) _ _ _ (fun _ _ => Below.refl _ _) rfl rfl (by kernel_rfl) (by kernel_rfl) rfl (fun w1 hC => load_i64 (HX.out w1 hC).2.1.c2) ?_
        refine chain_bin (.bool true) _ _ _ _ _ (.int .i64 yk) (.int .i64 1) (fun _ _ => Below.refl _ _) rfl rfl (by kernel_rfl) (by kernel_rfl) rfl rfl (fun w1 => eql_i64 _ _ _ _ _ _ HKD.out w1) ?_
        refine chain_move (.bool true) _ (fun _ _ => Below.refl _ _) rfl rfl (by kernel_rfl) (by kernel_rfl) rfl ?_
        refine chain_move (.slice (some ⟨g, 0, none⟩) k k) _ (fun _ _ => Below.refl _ _) rfl rfl (by kernel_rfl) (by kernel_rfl) rfl ?_
        refine chain_val (.pointer (some ⟨b7, 0, none⟩)) (fun _ _ => Below.refl _ _) rfl (by intro cs b h; cases h) (by kernel_rfl) (by kernel_rfl) (fun w1 _ => by simp [execOp, evE, lk_cons, lk_nil, slotL, go_sem]) ?_
        refine chain_load (.int .i64 xa) _ _ _ (fun _ _ => Below.refl _ _) rfl rfl (by kernel_rfl) (by kernel_rfl) rfl (fun w1 hC => load_i64 (HX.out w1 hC).2.1.c0) ?_
        refine chain_idx (.pointer (some ⟨g, 0 + xa, none⟩)) _ _ _ (.slice (some ⟨g, 0, none⟩) k k) (.int .i64 xa) (fun _ _ => Below.refl _ _) rfl rfl (by kernel_rfl) (by kernel_rfl) rfl rfl (fun w1 => idx_i64 _ _ _ _ _ HLT.out.1 w1) ?_
        refine chain_load (.int .i64 pa) _ _ _ (fun _ _ => Below.refl _ _) rfl rfl (by kernel_rfl) (by kernel_rfl) rfl (fun w1 hC => load_i64 (by rw [Nat.zero_add]; exact (HX.out w1 hC).1.cell HPa.out)) ?_
        refine chain_move (.slice (some ⟨g, 0, none⟩) k k) _ (fun _ _ => Below.refl _ _) rfl rfl (by kernel_rfl) (by kernel_rfl) rfl ?_
        refine chain_move (.int .i64 x) _ (fun _ _ => Below.refl _ _) rfl rfl (by kernel_rfl) (by kernel_rfl) rfl ?_
        refine chain_idx (.pointer (some ⟨g, 0 + x, none⟩)) _ _ _ (.slice (some ⟨g, 0, none⟩) k k) (.int .i64 x) (fun _ _ => Below.refl _ _) rfl rfl (by kernel_rfl) (by kernel_rfl) rfl rfl (fun w1 => idx_i64 _ _ _ _ _ HLT.out.2.2.1 w1) ?_
        refine chain_load (.int .i64 px) _ _ _ (fun _ _ => Below.refl _ _) rfl rfl (by kernel_rfl) (by kernel_rfl) rfl (fun w1 hC => load_i64 (by rw [Nat.zero_add]; exact (HX.out w1 hC).1.cell HPx.out)) ?_
        refine chain_bin (.bool true) _ _ _ _ _ (.int .i64 pa) (.int .i64 px) (fun _ _ => Below.refl _ _) rfl rfl (by kernel_rfl) (by kernel_rfl) rfl rfl (fun w1 => eql_i64 _ _ _ _ _ _ HQ1.out w1) ?_
        refine chain_move (.bool true) _ (fun _ _ => Below.refl _ _) rfl rfl (by kernel_rfl) (by kernel_rfl) rfl ?_
        refine chain_move (.slice (some ⟨g, 0, none⟩) k k) _ (fun _ _ => Below.refl _ _) rfl rfl (by kernel_rfl) (by kernel_rfl) rfl ?_
        refine chain_val (.pointer (some ⟨b7, 1, none⟩)) (fun _ _ => Below.refl _ _) rfl (by intro cs b h; cases h) (by kernel_rfl) (by kernel_rfl) (fun w1 _ => by simp [execOp, evE, lk_cons, lk_nil, slotL, go_sem]) ?_
        refine chain_load (.int .i64 xb) _ _ _ (fun _ _ => Below.refl _ _) rfl rfl (by kernel_rfl) (by kernel_rfl) rfl (fun w1 hC => load_i64 (HX.out w1 hC).2.1.c1) ?_
        refine chain_idx (.pointer (some ⟨g, 0 + xb, none⟩)) _ _ _ (.slice (some ⟨g, 0, none⟩) k k) (.int .i64 xb) (fun _ _ => Below.refl _ _) rfl rfl (by kernel_rfl) (by kernel_rfl) rfl rfl (fun w1 => idx_i64 _ _ _ _ _ HLT.out.2.1 w1) ?_
        refine chain_load (.int .i64 pb) _ _ _ (fun _ _ => Below.refl _ _) rfl rfl (by kernel_rfl) (by kernel_rfl) rfl (fun w1 hC => load_i64 (by rw [Nat.zero_add]; exact (HX.out w1 hC).1.cell HPb.out)) ?_
        refine chain_move (.slice (some ⟨g, 0, none⟩) k k) _ (fun _ _ => Below.refl _ _) rfl rfl (by kernel_rfl) (by kernel_rfl) rfl ?_
        refine chain_move (.int .i64 y) _ (fun _ _ => Below.refl _ _) rfl rfl (by kernel_rfl) (by kernel_rfl) rfl ?_
        refine chain_idx (.pointer (some ⟨g, 0 + y, none⟩)) _ _ _ (.slice (some ⟨g, 0, none⟩) k k) (.int .i64 y) (fun _ _ => Below.refl _ _) rfl rfl (by kernel_rfl) (by kernel_rfl) rfl rfl (fun w1 => idx_i64 _ _ _ _ _ HLT.out.2.2.2 w1) ?_
        refine chain_load (.int .i64 py) _ _ _ (fun _ _ => Below.refl _ _) rfl rfl (by kernel_rfl) (by kernel_rfl) rfl (fun w1 hC => load_i64 (by rw [Nat.zero_add]; exact (HX.out w1 hC).1.cell HPy.out)) ?_
        refine chain_bin (.bool false) _ _ _ _ _ (.int .i64 pb) (.int .i64 py) (fun _ _ => Below.refl _ _) rfl rfl (by kernel_rfl) (by kernel_rfl) rfl rfl (fun w1 => eql_i64 _ _ _ _ _ _ HQ2.out w1) ?_
        refine chain_pick (.bool false) _ _ _ true (fun _ _ => Below.refl _ _) rfl rfl (by kernel_rfl) (by kernel_rfl) rfl rfl ?_
        refine chain_move (.bool false) _ (fun _ _ => Below.refl _ _) rfl rfl (by kernel_rfl) (by kernel_rfl) rfl ?_
        refine chain_move (.slice (some ⟨g, 0, none⟩) k k) _ (fun _ _ => Below.refl _ _) rfl rfl (by kernel_rfl) (by kernel_rfl) rfl ?_
        refine chain_val (.pointer (some ⟨b7, 0, none⟩)) (fun _ _ => Below.refl _ _) rfl (by intro cs b h; cases h) (by kernel_rfl) (by kernel_rfl) (fun w1 _ => by simp [execOp, evE, lk_cons, lk_nil, slotL, go_sem]) ?_
        refine chain_load (.int .i64 xa) _ _ _ (fun _ _ => Below.refl _ _) rfl rfl (by kernel_rfl) (by kernel_rfl) rfl (fun w1 hC => load_i64 (HX.out w1 hC).2.1.c0) ?_
        refine chain_idx (.pointer (some ⟨g, 0 + xa, none⟩)) _ _ _ (.slice (some ⟨g, 0, none⟩) k k) (.int .i64 xa) (fun _ _ => Below.refl _ _) rfl rfl (by kernel_rfl) (by kernel_rfl) rfl rfl (fun w1 => idx_i64 _ _ _ _ _ HLT.out.1 w1) ?_
        refine chain_load (.int .i64 pa) _ _ _ (fun _ _ => Below.refl _ _) rfl rfl (by kernel_rfl) (by kernel_rfl) rfl (fun w1 hC => load_i64 (by rw [Nat.zero_add]; exact (HX.out w1 hC).1.cell HPa.out)) ?_
        refine chain_move (.slice (some ⟨g, 0, none⟩) k k) _ (fun _ _ => Below.refl _ _) rfl rfl (by kernel_rfl) (by kernel_rfl) rfl ?_
        refine chain_move (.int .i64 y) _ (fun _ _ => Below.refl _ _) rfl rfl (by kernel_rfl) (by kernel_rfl) rfl ?_
        refine chain_idx (.pointer (some ⟨g, 0 + y, none⟩)) _ _ _ (.slice (some ⟨g, 0, none⟩) k k) (.int .i64 y) (fun _ _ => Below.refl _ _) rfl rfl (by kernel_rfl) (by kernel_rfl) rfl rfl (fun w1 => idx_i64 _ _ _ _ _ HLT.out.2.2.2 w1) ?_
        refine chain_load (.int .i64 py) _ _ _ (fun _ _ => Below.refl _ _) rfl rfl (by kernel_rfl) (by kernel_rfl) rfl (fun w1 hC => load_i64 (by rw [Nat.zero_add]; exact (HX.out w1 hC).1.cell HPy.out)) ?_
        refine chain_bin (.bool false) _ _ _ _ _ (.int .i64 pa) (.int .i64 py) (fun _ _ => Below.refl _ _) rfl rfl (by kernel_rfl) (by kernel_rfl) rfl rfl (fun w1 => eql_i64 _ _ _ _ _ _ HQ3.out w1) ?_
        refine chain_move (.bool false) _ (fun _ _ => Below.refl _ _) rfl rfl (by kernel_rfl) (by kernel_rfl) rfl ?_
        refine chain_skip rfl (by kernel_rfl) ?_
        refine chain_skip rfl (by kernel_rfl) ?_
        refine chain_skip rfl (by kernel_rfl) ?_
        refine chain_skip rfl (by kernel_rfl) ?_
        refine chain_skip rfl (by kernel_rfl) ?_
        refine chain_skip rfl (by kernel_rfl) ?_
        refine chain_skip rfl (by kernel_rfl) ?_
        refine chain_skip rfl (by kernel_rfl) ?_
        refine chain_skip rfl (by kernel_rfl) ?_
        refine chain_skip rfl (by kernel_rfl) ?_
        refine chain_pick (.bool false) _ _ _ false (fun _ _ => Below.refl _ _) rfl rfl (by kernel_rfl) (by kernel_rfl) rfl rfl ?_
        refine chain_pick (.bool false) _ _ _ false (fun _ _ => Below.refl _ _) rfl rfl (by kernel_rfl) (by kernel_rfl) rfl rfl ?_
        refine chain_pick (.bool false) _ _ _ true (fun _ _ => Below.refl _ _) rfl rfl (by kernel_rfl) (by kernel_rfl) rfl rfl ?_
        refine chain_end (by rfl) ?_
        intro xs w6 hCw6 hrew6
        simp only [layE, List.foldr_cons, List.foldr_nil, List.set_cons_succ, List.set_cons_zero]
        have H6 := Lib.hid (HX.out w6 hCw6)
        clear hCw6 hrew6 HX
        go_wp2_with fail
        exact ⟨⟨j + 1, by omega, by simp, HNO.out (by trivial), H6.out.2.2.1, H6.out.2.2.2⟩, by simp [intOf]; omega⟩
      · rw [hr] at HNO HYES
        have HKD := Lib.hid (dec_of q0)
        have HQ1 := Lib.hid (dec_of q1)
        have HQ3 := Lib.hid (dec_of q3)
        have HQ4 := Lib.hid (dec_of q4)
        clear hr q0 q1 q3 q4
        refine wp_region_old 51 74 (by kernel_rfl) (by kernel_rfl) (by rfl) ?_
        simp only [List.take_succ_cons, List.take_zero, List.drop_succ_cons, List.drop_zero, List.drop_nil]
        refine chain_val (.pointer (some ⟨b7, 2, none⟩)) (fun _ _ => Below.refl _ _) rfl (by intro cs b h; cases h) (by kernel_rfl) (by kernel_rfl) (fun w1 _ => by simp [execOp, evE, lk_cons, lk_nil, slotL, go_sem]) ?_
        refine chain_load (.int .i64 yk) _ _ _ (fun _ _ => Below.refl _ _) rfl rfl (by kernel_rfl) (by kernel_rfl) rfl (fun w1 hC => load_i64 (HX.out w1 hC).2.1.c2) ?_
        refine chain_bin (.bool true) _ _ _ _ _ (.int .i64 yk) (.int .i64 1) (fun _ _ => Below.refl _ _) rfl rfl (by kernel_rfl) (by kernel_rfl) rfl rfl (fun w1 => eql_i64 _ _ _ _ _ _ HKD.out w1) ?_
        refine chain_move (.bool true) _ (fun _ _ => Below.refl _ _) rfl rfl (by kernel_rfl) (by kernel_rfl) rfl ?_
        refine chain_move (.slice (some ⟨g, 0, none⟩) k k) _ (fun _ _ => Below.refl _ _) rfl rfl (by kernel_rfl) (by kernel_rfl) rfl ?_
        refine chain_val (.pointer (some ⟨b7, 0, none⟩)) (fun _ _ => Below.refl _ _) rfl (by intro cs b h; cases h) (by kernel_rfl) (by kernel_rfl) (fun w1 _ => by simp [execOp, evE, lk_cons, lk_nil, slotL, go_sem]) ?_
        refine chain_load (.int .i64 xa) _ _ _ (fun _ _ => Below.refl _ _) rfl rfl (by kernel_rfl) (by kernel_rfl) rfl (fun w1 hC => load_i64 (HX.out w1 hC).2.1.c0) ?_
        refine chain_idx (.pointer (some ⟨g, 0 + xa, none⟩)) _ _ _ (.slice (some ⟨g, 0, none⟩) k k) (.int .i64 xa) (fun _ _ => Below.refl _ _) rfl rfl (by kernel_rfl) (by kernel_rfl) rfl rfl (fun w1 => idx_i64 _ _ _ _ _ HLT.out.1 w1) ?_
        refine chain_load (.int .i64 pa) _ _ _ (fun _ _ => Below.refl _ _) rfl rfl (by kernel_rfl) (by kernel_rfl) rfl (fun w1 hC => load_i64 (by rw [Nat.zero_add]; exact (HX.out w1 hC).1.cell HPa.out)) ?_
        refine chain_move (.slice (some ⟨g, 0, none⟩) k k) _ (fun _ _ => Below.refl _ _) rfl rfl (by kernel_rfl) (by kernel_rfl) rfl ?_
        refine chain_move (.int .i64 x) _ (fun _ _ => Below.refl _ _) rfl rfl (by kernel_rfl) (by kernel_rfl) rfl ?_
        refine chain_idx (.pointer (some ⟨g, 0 + x, none⟩)) _ _ _ (.slice (some ⟨g, 0, none⟩) k k) (.int .i64 x) (fun _ _ => Below.refl _ _) rfl rfl (by kernel_rfl) (by kernel_rfl) rfl rfl (fun w1 => idx_i64 _ _ _ _ _ HLT.out.2.2.1 w1) ?_
        refine chain_load (.int .i64 px) _ _ _ (fun _ _ => Below.refl _ _) rfl rfl (by kernel_rfl) (by kernel_rfl) rfl (fun w1 hC => load_i64 (by rw [Nat.zero_add]; exact (HX.out w1 hC).1.cell HPx.out)) ?_
        refine chain_bin (.bool false) _ _ _ _ _ (.int .i64 pa) (.int .i64 px) (fun _ _ => Below.refl _ _) rfl rfl (by kernel_rfl) (by kernel_rfl) rfl rfl (fun w1 => eql_i64 _ _ _ _ _ _ HQ1.out w1) ?_
        refine chain_move (.bool false) _ (fun _ _ => Below.refl _ _) rfl rfl (by kernel_rfl) (by kernel_rfl) rfl ?_
        refine chain_skip rfl (by kernel_rfl) ?_
        refine chain_skip rfl (by kernel_rfl) ?_
        refine chain_skip rfl (by kernel_rfl) ?_
        refine chain_skip rfl (by kernel_rfl) ?_
        refine chain_skip rfl (by kernel_rfl) ?_
        refine chain_skip rfl (by kernel_rfl) ?_
        refine chain_skip rfl (by kernel_rfl) ?_
        refine chain_skip rfl (by kernel_rfl) ?_
        refine chain_skip rfl (by kernel_rfl) ?_
        refine chain_skip rfl (by kernel_rfl) ?_
        refine chain_pick (.bool false) _ _ _ false (fun _ _ => Below.refl _ _) rfl rfl (by kernel_rfl) (by kernel_rfl) rfl rfl ?_
        refine chain_move (.bool false) _ (fun _ _ => Below.refl _ _) rfl rfl (by kernel_rfl) (by kernel_rfl) rfl ?_
        refine chain_move (.slice (some ⟨g, 0, none⟩) k k) _ (fun _ _ => Below.refl _ _) rfl rfl (by kernel_rfl) (by kernel_rfl) rfl ?_
        refine chain_val (.pointer (some ⟨b7, 0, none⟩)) (fun _ _ => Below.refl _ _) rfl (by intro cs b h; cases h) (by kernel_rfl) (by kernel_rfl) (fun w1 _ => by simp [execOp, evE, lk_cons, lk_nil, slotL, go_sem]) ?_
        refine chain_load (.int .i64 xa) _ _ _ (fun _ _ => Below.refl _ _) rfl rfl (by kernel_rfl) (by kernel_rfl) rfl (fun w1 hC => load_i64 (HX.out w1 hC).2.1.c0) ?_
        refine chain_idx (.pointer (some ⟨g, 0 + xa, none⟩)) _ _ _ (.slice (some ⟨g, 0, none⟩) k k) (.int .i64 xa) (fun _ _ => Below.refl _ _) rfl rfl (by kernel_rfl) (by kernel_rfl) rfl rfl (fun w1 => idx_i64 _ _ _ _ _ HLT.out.1 w1) ?_
        refine chain_load (.int .i64 pa) _ _ _ (fun _ _ => Below.refl _ _) rfl rfl (by kernel_rfl) (by kernel_rfl) rfl (fun w1 hC => load_i64 (by rw [Nat.zero_add]; exact (HX.out w1 hC).1.cell HPa.out)) ?_
        refine chain_move (.slice (some ⟨g, 0, none⟩) k k) _ (fun _ _ => Below.refl _ _) rfl rfl (by kernel_rfl) (by kernel_rfl) rfl ?_
        refine chain_move (.int .i64 y) _ (fun _ _ => Below.refl _ _) rfl rfl (by kernel_rfl) (by kernel_rfl) rfl ?_
        refine chain_idx (.pointer (some ⟨g, 0 + y, none⟩)) _ _ _ (.slice (some ⟨g, 0, none⟩) k k) (.int .i64 y) (fun _ _ => Below.refl _ _) rfl rfl (by kernel_rfl) (by kernel_rfl) rfl rfl (fun w1 => idx_i64 _ _ _ _ _ HLT.out.2.2.2 w1) ?_
        refine chain_load (.int .i64 py) _ _ _ (fun _ _ => Below.refl _ _) rfl rfl (by kernel_rfl) (by kernel_rfl) rfl (fun w1 hC => load_i64 (by rw [Nat.zero_add]; exact (HX.out w1 hC).1.cell HPy.out)) ?_
        refine chain_bin (.bool true) _ _ _ _ _ (.int .i64 pa) (.int .i64 py) (fun _ _ => Below.refl _ _) rfl rfl (by kernel_rfl) (by kernel_rfl) rfl rfl (fun w1 => eql_i64 _ _ _ _ _ _ HQ3.out w1) ?_
        refine chain_move (.bool true) _ (fun _ _ => Below.refl _ _) rfl rfl (by kernel_rfl) (by kernel_rfl) rfl ?_
        refine chain_move (.slice (some ⟨g, 0, none⟩) k k) _ (fun _ _ => Below.refl _ _) rfl rfl (by kernel_rfl) (by kernel_rfl) rfl ?_
        refine chain_val (.pointer (some ⟨b7, 1, none⟩)) (fun _ _ => Below.refl _ _) rfl (by intro cs b h; cases h) (by kernel_rfl) (by kernel_rfl) (fun w1 _ => by simp [execOp, evE, lk_cons, lk_nil, slotL, go_sem]) ?_
        refine chain_load (.int .i64 xb) _ _ _ (fun _ _ => Below.refl _ _) rfl rfl (by kernel_rfl) (by kernel_rfl) rfl (fun w1 hC => load_i64 (HX.out w1 hC).2.1.c1) ?_
        refine chain_idx (.pointer (some ⟨g, 0 + xb, none⟩)) _ _ _ (.slice (some ⟨g, 0, none⟩) k k) (.int .i64 xb) (fun _ _ => Below.refl _ _) rfl rfl (by kernel_rfl) (by kernel_rfl) rfl rfl (fun w1 => idx_i64 _ _ _ _ _ HLT.out.2.1 w1) ?_
        refine chain_load (.int .i64 pb) _ _ _ (fun _ _ => Below.refl _ _) rfl rfl (by kernel_rfl) (by kernel_rfl) rfl (fun w1 hC => load_i64 (by rw [Nat.zero_add]; exact (HX.out w1 hC).1.cell HPb.out)) ?_
        refine chain_move (.slice (some ⟨g, 0, none⟩) k k) _ (fun _ _ => Below.refl _ _) rfl rfl (by kernel_rfl) (by kernel_rfl) rfl ?_
        refine chain_move (.int .i64 x) _ (fun _ _ => Below.refl _ _) rfl rfl (by kernel_rfl) (by kernel_rfl) rfl ?_
        refine chain_idx (.pointer (some ⟨g, 0 + x, none⟩)) _ _ _ (.slice (some ⟨g, 0, none⟩) k k) (.int .i64 x) (fun _ _ => Below.refl _ _) rfl rfl (by kernel_rfl) (by kernel_rfl) rfl rfl (fun w1 => idx_i64 _ _ _ _ _ HLT.out.2.2.1 w1) ?_
        refine chain_load (.int .i64 px) _ _ _ (fun _ _ => Below.refl _ _) rfl rfl (by kernel_rfl) (by kernel_rfl) rfl (fun w1 hC => load_i64 (by rw [Nat.zero_add]; exact (HX.out w1 hC).1.cell HPx.out)) ?_
        refine chain_bin (.bool true) _ _ _ _ _ (.int .i64 pb) (.int .i64 px) (fun _ _ => Below.refl _ _) rfl rfl (by kernel_rfl) (by kernel_rfl) rfl rfl (fun w1 => eql_i64 _ _ _ _ _ _ HQ4.out w1) ?_
        refine chain_pick (.bool true) _ _ _ true (fun _ _ => Below.refl _ _) rfl rfl (by kernel_rfl) (by kernel_rfl) rfl rfl ?_
        refine chain_pick (.bool true) _ _ _ false (fun _ _ => Below.refl _ _) rfl rfl (by kernel_rfl) (by kernel_rfl) rfl rfl ?_
        refine chain_pick (.bool true) _ _ _ true (fun _ _ => Below.refl _ _) rfl rfl (by kernel_rfl) (by kernel_rfl) rfl rfl ?_
        refine chain_end (by rfl) ?_
        intro xs w6 hCw6 hrew6
        simp only [layE, List.foldr_cons, List.foldr_nil, List.set_cons_succ, List.set_cons_zero]
        have H6 := Lib.hid (HX.out w6 hCw6)
        clear hCw6 hrew6 HX
        go_wp2_with fail
        go_ret
        exact ⟨by rw [HR.out, HYES.out (by trivial)]; rfl, by have := H6.out.2.2.2; rw [HB4.out] at this; exact this⟩
      · rw [hr] at HNO HYES
        have HKD := Lib.hid (dec_of q0)
        have HQ1 := Lib.hid (dec_of q1)
        have HQ3 := Lib.hid (dec_of q3)
        have HQ4 := Lib.hid (dec_of q4)
        clear hr q0 q1 q3 q4
        refine wp_region_old 51 74 (by kernel_rfl) (by kernel_rfl) (by rfl) ?_
        simp only [List.take_succ_cons, List.take_zero, List.drop_succ_cons, List.drop_zero, List.drop_nil]
        refine chain_val (.pointer (some ⟨b7, 2, none⟩)) (fun _ _ => Below.refl _ _) rfl (by intro cs b h; cases h) (by kernel_rfl) (by kernel_rfl) (fun w1 _ => by simp [execOp, evE, lk_cons, lk_nil, slotL, go_sem]) ?_
        refine chain_load (.int .i64 yk) _ _ _ (fun _ _ => Below.refl _ _) rfl rfl (by kernel_rfl) (by kernel_rfl) rfl (fun w1 hC => load_i64 (HX.out w1 hC).2.1.c2) ?_
        refine chain_bin (.bool true) _ _ _ _ _ (.int .i64 yk) (.int .i64 1) (fun _ _ => Below.refl _ _) rfl rfl (by kernel_rfl) (by kernel_rfl) rfl rfl (fun w1 => eql_i64 _ _ _ _ _ _ HKD.out w1) ?_
        refine chain_move (.bool true) _ (fun _ _ => Below.refl _ _) rfl rfl (by kernel_rfl) (by kernel_rfl) rfl ?_
        refine chain_move (.slice (some ⟨g, 0, none⟩) k k) _ (fun _ _ => Below.refl _ _) rfl rfl (by kernel_rfl) (by kernel_rfl) rfl ?_
        refine chain_val (.pointer (some ⟨b7, 0, none⟩)) (fun _ _ => Below.refl _ _) rfl (by intro cs b h; cases h) (by kernel_rfl) (by kernel_rfl) (fun w1 _ => by simp [execOp, evE, lk_cons, lk_nil, slotL, go_sem]) ?_
        refine chain_load (.int .i64 xa) _ _ _ (fun _ _ => Below.refl _ _) rfl rfl (by kernel_rfl) (by kernel_rfl) rfl (fun w1 hC => load_i64 (HX.out w1 hC).2.1.c0) ?_
        refine chain_idx (.pointer (some ⟨g, 0 + xa, none⟩)) _ _ _ (.slice (some ⟨g, 0, none⟩) k k) (.int .i64 xa) (fun _ _ => Below.refl _ _) rfl rfl (by kernel_rfl) (by kernel_rfl) rfl rfl (fun w1 => idx_i64 _ _ _ _ _ HLT.out.1 w1) ?_
        refine chain_load (.int .i64 pa) _ _ _ (fun _ _ => Below.refl _ _) rfl rfl (by kernel_rfl) (by kernel_rfl) rfl (fun w1 hC => load_i64 (by rw [Nat.zero_add]; exact (HX.out w1 hC).1.cell HPa.out)) ?_
        refine chain_move (.slice (some ⟨g, 0, none⟩) k k) _ (fun _ _ => Below.refl _ _) rfl rfl (by kernel_rfl) (by kernel_rfl) rfl ?_
        refine chain_move (.int .i64 x) _ (fun _ _ => Below.refl _ _) rfl rfl (by kernel_rfl) (by kernel_rfl) rfl ?_
        refine chain_idx (.pointer (some ⟨g, 0 + x, none⟩)) _ _ _ (.slice (some ⟨g, 0, none⟩) k k) (.int .i64 x) (fun _ _ => Below.refl _ _) rfl rfl (by kernel_rfl) (by kernel_rfl) rfl rfl (fun w1 => idx_i64 _ _ _ _ _ HLT.out.2.2.1 w1) ?_
        refine chain_load (.int .i64 px) _ _ _ (fun _ _ => Below.refl _ _) rfl rfl (by kernel_rfl) (by kernel_rfl) rfl (fun w1 hC => load_i64 (by rw [Nat.zero_add]; exact (HX.out w1 hC).1.cell HPx.out)) ?_
        refine chain_bin (.bool false) _ _ _ _ _ (.int .i64 pa) (.int .i64 px) (fun _ _ => Below.refl _ _) rfl rfl (by kernel_rfl) (by kernel_rfl) rfl rfl (fun w1 => eql_i64 _ _ _ _ _ _ HQ1.out w1) ?_
        refine chain_move (.bool false) _ (fun _ _ => Below.refl _ _) rfl rfl (by kernel_rfl) (by kernel_rfl) rfl ?_
        refine chain_skip rfl (by kernel_rfl) ?_
        refine chain_skip rfl (by kernel_rfl) ?_
        refine chain_skip rfl (by kernel_rfl) ?_
        refine chain_skip rfl (by kernel_rfl) ?_
        refine chain_skip rfl (by kernel_rfl) ?_
        refine chain_skip rfl (by kernel_rfl) ?_
        refine chain_skip rfl (by kernel_rfl) ?_
        refine chain_skip rfl (by kernel_rfl) ?_
        refine chain_skip rfl (by kernel_rfl) ?_
        refine chain_skip rfl (by kernel_rfl) ?_
        refine chain_pick (.bool false) _ _ _ false (fun _ _ => Below.refl _ _) rfl rfl (by kernel_rfl) (by kernel_rfl) rfl rfl ?_
        refine chain_move (.bool false) _ (fun _ _ => Below.refl _ _) rfl rfl (by kernel_rfl) (by kernel_rfl) rfl ?_
        refine chain_move (.slice (some ⟨g, 0, none⟩) k k) _ (fun _ _ => Below.refl _ _) rfl rfl (by kernel_rfl) (by kernel_rfl) rfl ?_
        refine chain_val (.pointer (some ⟨b7, 0, none⟩)) (fun _ _ => Below.refl _ _) rfl (by intro cs b h; cases h) (by kernel_rfl) (by kernel_rfl) (fun w1 _ => by simp [execOp, evE, lk_cons, lk_nil, slotL, go_sem]) ?_
        refine chain_load (.int .i64 xa) _ _ _ (fun _ _ => Below.refl _ _) rfl rfl (by kernel_rfl) (by kernel_rfl) rfl (fun w1 hC => load_i64 (HX.out w1 hC).2.1.c0) ?_
        refine chain_idx (.pointer (some ⟨g, 0 + xa, none⟩)) _ _ _ (.slice (some ⟨g, 0, none⟩) k k) (.int .i64 xa) (fun _ _ => Below.refl _ _) rfl rfl (by kernel_rfl) (by kernel_rfl) rfl rfl (fun w1 => idx_i64 _ _ _ _ _ HLT.out.1 w1) ?_
        refine chain_load (.int .i64 pa) _ _ _ (fun _ _ => Below.refl _ _) rfl rfl (by kernel_rfl) (by kernel_rfl) rfl (fun w1 hC => load_i64 (by rw [Nat.zero_add]; exact (HX.out w1 hC).1.cell HPa.out)) ?_
        refine chain_move (.slice (some ⟨g, 0, none⟩) k k) _ (fun _ _ => Below.refl _ _) rfl rfl (by kernel_rfl) (by kernel_rfl) rfl ?_
        refine chain_move (.int .i64 y) _ (fun _ _ => Below.refl _ _) rfl rfl (by kernel_rfl) (by kernel_rfl) rfl ?_
        refine chain_idx (.pointer (some ⟨g, 0 + y, none⟩)) _ _ _ (.slice (some ⟨g, 0, none⟩) k k) (.int .i64 y) (fun _ _ => Below.refl _ _) rfl rfl (by kernel_rfl) (by kernel_rfl) rfl rfl (fun w1 => idx_i64 _ _ _ _ _ HLT.out.2.2.2 w1) ?_
        refine chain_load (.int .i64 py) _ _ _ (fun _ _ => Below.refl _ _) rfl rfl (by kernel_rfl) (by kernel_rfl) rfl (fun w1 hC => load_i64 (by rw [Nat.zero_add]; exact (HX.out w1 hC).1.cell HPy.out)) ?_
        refine chain_bin (.bool true) _ _ _ _ _ (.int .i64 pa) (.int .i64 py) (fun _ _ => Below.refl _ _) rfl rfl (by kernel_rfl) (by kernel_rfl) rfl rfl (fun w1 => eql_i64 _ _ _ _ _ _ HQ3.out w1) ?_
        refine chain_move (.bool true) _ (fun _ _ => Below.refl _ _) rfl rfl (by kernel_rfl) (by kernel_rfl) rfl ?_
        refine chain_move (.slice (some ⟨g, 0, none⟩) k k) _ (fun _ _ => Below.refl _ _) rfl rfl (by kernel_rfl) (by kernel_rfl) rfl ?_
        refine chain_val (.pointer (some ⟨b7, 1, none⟩)) (fun _ _ => Below.refl _ _) rfl (by intro cs b h; cases h) (by kernel_rfl) (by kernel_rfl) (fun w1 _ => by simp [execOp, evE, lk_cons, lk_nil, slotL, go_sem]) ?_
        refine chain_load (.int .i64 xb) _ _ _ (fun _ _ => Below.refl _ _) rfl rfl (by kernel_rfl) (by kernel_rfl) rfl (fun w1 hC => load_i64 (HX.out w1 hC).2.1.c1) ?_
        refine chain_idx (.pointer (some ⟨g, 0 + xb, none⟩)) _ _ _ (.slice (some ⟨g, 0, none⟩) k k) (.int .i64 xb) (fun _ _ => Below.refl _ _) rfl rfl (by kernel_rfl) (by kernel_rfl) rfl rfl (fun w1 => idx_i64 _ _ _ _ _ HLT.out.2.1 w1) ?_
        refine chain_load (.int .i64 pb) _ _ _ (fun _ _ => Below.refl _ _) rfl rfl (by kernel_rfl) (by kernel_rfl) rfl (fun w1 hC => load_i64 (by rw [Nat.zero_add]; exact (HX.out w1 hC).1.cell HPb.out)) ?_
        refine chain_move (.slice (some ⟨g, 0, none⟩) k k) _ (fun _ _ => Below.refl _ _) rfl rfl (by kernel_rfl) (by kernel_rfl) rfl ?_
        refine chain_move (.int .i64 x) _ (fun _ _ => Below.refl _ _) rfl rfl (by kernel_rfl) (by kernel_rfl) rfl ?_
        refine chain_idx (.pointer (some ⟨g, 0 + x, none⟩)) _ _ _ (.slice (some ⟨g, 0, none⟩) k k) (.int .i64 x) (fun _ _ => Below.refl _ _) rfl rfl (by kernel_rfl) (by kernel_rfl) rfl rfl (fun w1 => idx_i64 _ _ _ _ _ HLT.out.2.2.1 w1) ?_
        refine chain_load (.int .i64 px) _ _ _ (fun _ _ => Below.refl _ _) rfl rfl (by kernel_rfl) (by kernel_rfl) rfl (fun w1 hC => load_i64 (by rw [Nat.zero_add]; exact (HX.out w1 hC).1.cell HPx.out)) ?_
        refine chain_bin (.bool false) _ _ _ _ _ (.int .i64 pb) (.int .i64 px) (fun _ _ => Below.refl _ _) rfl rfl (by kernel_rfl) (by kernel_rfl) rfl rfl (fun w1 => eql_i64 _ _ _ _ _ _ HQ4.out w1) ?_
        refine chain_pick (.bool false) _ _ _ true (fun _ _ => Below.refl _ _) rfl rfl (by kernel_rfl) (by kernel_rfl) rfl rfl ?_
        refine chain_pick (.bool false) _ _ _ false (fun _ _ => Below.refl _ _) rfl rfl (by kernel_rfl) (by kernel_rfl) rfl rfl ?_
        refine chain_pick (.bool false) _ _ _ true (fun _ _ => Below.refl _ _) rfl rfl (by kernel_rfl) (by kernel_rfl) rfl rfl ?_
        refine chain_end (by rfl) ?_
        intro xs w6 hCw6 hrew6
        simp only [layE, List.foldr_cons, List.foldr_nil, List.set_cons_succ, List.set_cons_zero]
        have H6 := Lib.hid (HX.out w6 hCw6)
        clear hCw6 hrew6 HX
        go_wp2_with fail
        exact ⟨⟨j + 1, by omega, by simp, HNO.out (by trivial), H6.out.2.2.1, H6.out.2.2.2⟩, by simp [intOf]; omega⟩
      · rw [hr] at HNO HYES
        have HKD := Lib.hid (dec_of q0)
        have HQ1 := Lib.hid (dec_of q1)
        have HQ3 := Lib.hid (dec_of q3)
        clear hr q0 q1 q3
        refine wp_region_old 51 74 (by kernel_rfl) (by kernel_rfl) (by rfl) ?_
        simp only [List.take_succ_cons, List.take_zero, List.drop_succ_cons, List.drop_zero, List.drop_nil]
        refine chain_val (.pointer (some ⟨b7, 2, none⟩)) (fun _ _ => Below.refl _ _) rfl (by intro cs b h; cases h) (by kernel_rfl) (by kernel_rfl) (fun w1 _ => by simp [execOp, evE, lk_cons, lk_nil, slotL, go_sem]) ?_
        refine chain_load (.int .i64 yk) _ _ _ (fun _ _ => Below.refl _ _) rfl rfl (by kernel_rfl) (by kernel_rfl) rfl (fun w1 hC => load_i64 (HX.out w1 hC).2.1.c2) ?_
        refine chain_bin (.bool true) _ _ _ _ _ (.int .i64 yk) (.int .i64 1) (fun _ _ => Below.refl _ _) rfl rfl (by kernel_rfl) (by kernel_rfl) rfl rfl (fun w1 => eql_i64 _ _ _ _ _ _ HKD.out w1) ?_
        refine chain_move (.bool true) _ (fun _ _ => Below.refl _ _) rfl rfl (by kernel_rfl) (by kernel_rfl) rfl ?_
        refine chain_move (.slice (some ⟨g, 0, none⟩) k k) _ (fun _ _ => Below.refl _ _) rfl rfl (by kernel_rfl) (by kernel_rfl) rfl ?_
        refine chain_val (.pointer (some ⟨b7, 0, none⟩)) (fun _ _ => Below.refl _ _) rfl (by intro cs b h; cases h) (by kernel_rfl) (by kernel_rfl) (fun w1 _ => by simp [execOp, evE, lk_cons, lk_nil, slotL, go_sem]) ?_
        refine chain_load (.int .i64 xa) _ _ _ (fun _ _ => Below.refl _ _) rfl rfl (by kernel_rfl) (by kernel_rfl) rfl (fun w1 hC => load_i64 (HX.out w1 hC).2.1.c0) ?_
        refine chain_idx (.pointer (some ⟨g, 0 + xa, none⟩)) _ _ _ (.slice (some ⟨g, 0, none⟩) k k) (.int .i64 xa) (fun _ _ => Below.refl _ _) rfl rfl (by kernel_rfl) (by kernel_rfl) rfl rfl (fun w1 => idx_i64 _ _ _ _ _ HLT.out.1 w1) ?_
        refine chain_load (.int .i64 pa) _ _ _ (fun _ _ => Below.refl _ _) rfl rfl (by kernel_rfl) (by kernel_rfl) rfl (fun w1 hC => load_i64 (by rw [Nat.zero_add]; exact (HX.out w1 hC).1.cell HPa.out)) ?_
        refine chain_move (.slice (some ⟨g, 0, none⟩) k k) _ (fun _ _ => Below.refl _ _) rfl rfl (by kernel_rfl) (by kernel_rfl) rfl ?_
        refine chain_move (.int .i64 x) _ (fun _ _ => Below.refl _ _) rfl rfl (by kernel_rfl) (by kernel_rfl) rfl ?_
        refine chain_idx (.pointer (some ⟨g, 0 + x, none⟩)) _ _ _ (.slice (some ⟨g, 0, none⟩) k k) (.int .i64 x) (fun _ _ => Below.refl _ _) rfl rfl (by kernel_rfl) (by kernel_rfl) rfl rfl (fun w1 => idx_i64 _ _ _ _ _ HLT.out.2.2.1 w1) ?_
        refine chain_load (.int .i64 px) _ _ _ (fun _ _ => Below.refl _ _) rfl rfl (by kernel_rfl) (by kernel_rfl) rfl (fun w1 hC => load_i64 (by rw [Nat.zero_add]; exact (HX.out w1 hC).1.cell HPx.out)) ?_
        refine chain_bin (.bool false) _ _ _ _ _ (.int .i64 pa) (.int .i64 px) (fun _ _ => Below.refl _ _) rfl rfl (by kernel_rfl) (by kernel_rfl) rfl rfl (fun w1 => eql_i64 _ _ _ _ _ _ HQ1.out w1) ?_
        refine chain_move (.bool false) _ (fun _ _ => Below.refl _ _) rfl rfl (by kernel_rfl) (by kernel_rfl) rfl ?_
        refine chain_skip rfl (by kernel_rfl) ?_
        refine chain_skip rfl (by kernel_rfl) ?_
        refine chain_skip rfl (by kernel_rfl) ?_
        refine chain_skip rfl (by kernel_rfl) ?_
        refine chain_skip rfl (by kernel_rfl) ?_
        refine chain_skip rfl (by kernel_rfl) ?_
        refine chain_skip rfl (by kernel_rfl) ?_
        refine chain_skip rfl (by kernel_rfl) ?_
        refine chain_skip rfl (by kernel_rfl) ?_
        refine chain_skip rfl (by kernel_rfl) ?_
        refine chain_pick (.bool false) _ _ _ false (fun _ _ => Below.refl _ _) rfl rfl (by kernel_rfl) (by kernel_rfl) rfl rfl ?_
        refine chain_move (.bool false) _ (fun _ _ => Below.refl _ _) rfl rfl (by kernel_rfl) (by kernel_rfl) rfl ?_
        refine chain_move (.slice (some ⟨g, 0, none⟩) k k) _ (fun _ _ => Below.refl _ _) rfl rfl (by kernel_rfl) (by kernel_rfl) rfl ?_
        refine chain_val (.pointer (some ⟨b7, 0, none⟩)) (fun _ _ => Below.refl _ _) rfl (by intro cs b h; cases h) (by kernel_rfl) (by kernel_rfl) (fun w1 _ => by simp [execOp, evE, lk_cons, lk_nil, slotL, go_sem]) ?_
        refine chain_load (.int .i64 xa) _ _ _ (fun _ _ => Below.refl _ _) rfl rfl (by kernel_rfl) (by kernel_rfl) rfl (fun w1 hC => load_i64 (HX.out w1 hC).2.1.c0) ?_
        refine chain_idx (.pointer (some ⟨g, 0 + xa, none⟩)) _ _ _ (.slice (some ⟨g, 0, none⟩) k k) (.int .i64 xa) (fun _ _ => Below.refl _ _) rfl rfl (by kernel_rfl) (by kernel_rfl) rfl rfl (fun w1 => idx_i64 _ _ _ _ _ HLT.out.1 w1) ?_
        refine chain_load (.int .i64 pa) _ _ _ (fun _ _ => Below.refl _ _) rfl rfl (by kernel_rfl) (by kernel_rfl) rfl (fun w1 hC => load_i64 (by rw [Nat.zero_add]; exact (HX.out w1 hC).1.cell HPa.out)) ?_
        refine chain_move (.slice (some ⟨g, 0, none⟩) k k) _ (fun _ _ => Below.refl _ _) rfl rfl (by kernel_rfl) (by kernel_rfl) rfl ?_
        refine chain_move (.int .i64 y) _ (fun _ _ => Below.refl _ _) rfl rfl (by kernel_rfl) (by kernel_rfl) rfl ?_
        refine chain_idx (.pointer (some ⟨g, 0 + y, none⟩)) _ _ _ (.slice (some ⟨g, 0, none⟩) k k) (.int .i64 y) (fun _ _ => Below.refl _ _) rfl rfl (by kernel_rfl) (by kernel_rfl) rfl rfl (fun w1 => idx_i64 _ _ _ _ _ HLT.out.2.2.2 w1) ?_
        refine chain_load (.int .i64 py) _ _ _ (fun _ _ => Below.refl _ _) rfl rfl (by kernel_rfl) (by kernel_rfl) rfl (fun w1 hC => load_i64 (by rw [Nat.zero_add]; exact (HX.out w1 hC).1.cell HPy.out)) ?_
        refine chain_bin (.bool false) _ _ _ _ _ (.int .i64 pa) (.int .i64 py) (fun _ _ => Below.refl _ _) rfl rfl (by kernel_rfl) (by kernel_rfl) rfl rfl (fun w1 => eql_i64 _ _ _ _ _ _ HQ3.out w1) ?_
        refine chain_move (.bool false) _ (fun _ _ => Below.refl _ _) rfl rfl (by kernel_rfl) (by kernel_rfl) rfl ?_
        refine chain_skip rfl (by kernel_rfl) ?_
        refine chain_skip rfl (by kernel_rfl) ?_
        refine chain_skip rfl (by kernel_rfl) ?_
        refine chain_skip rfl (by kernel_rfl) ?_
        refine chain_skip rfl (by kernel_rfl) ?_
        refine chain_skip rfl (by kernel_rfl) ?_
        refine chain_skip rfl (by kernel_rfl) ?_
        refine chain_skip rfl (by kernel_rfl) ?_
        refine chain_skip rfl (by kernel_rfl) ?_
        refine chain_skip rfl (by kernel_rfl) ?_
        refine chain_pick (.bool false) _ _ _ false (fun _ _ => Below.refl _ _) rfl rfl (by kernel_rfl) (by kernel_rfl) rfl rfl ?_
        refine chain_pick (.bool false) _ _ _ false (fun _ _ => Below.refl _ _) rfl rfl (by kernel_rfl) (by kernel_rfl) rfl rfl ?_
        refine chain_pick (.bool false) _ _ _ true (fun _ _ => Below.refl _ _) rfl rfl (by kernel_rfl) (by kernel_rfl) rfl rfl ?_
        refine chain_end (by rfl) ?_
        intro xs w6 hCw6 hrew6
        simp only [layE, List.foldr_cons, List.foldr_nil, List.set_cons_succ, List.set_cons_zero]
        have H6 := Lib.hid (HX.out w6 hCw6)
        clear hCw6 hrew6 HX
        go_wp2_with fail
        exact ⟨⟨j + 1, by omega, by simp, HNO.out (by trivial), H6.out.2.2.1, H6.out.2.2.2⟩, by simp [intOf]; omega⟩
    · have HE : Hid (r = false) := by
        have := HN.out
        rw [List.take_of_length_le (by rw [← HM.out]; omega)] at this
        exact HR.out.trans this
      have t3 : decide (j < m) = false := decide_eq_false hlt
      go_wp2_with fail
      go_ret
      exact ⟨by rw [HE.out]; rfl, HB.out⟩
end Go.Proofs.YteojbichibdhjabGreat
