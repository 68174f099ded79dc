/- Layer 4: a list of ties as a walk. / Layer 4: the search for a shortest walk, as a relation between its states. / Layer 4: the search, walked. -/
import Derived.Test.YthjeiaildabadaaGreatBb
import Derived.Test.YthjeiaildabadaaGreatIz
import Derived.Test.YthjeiaildabadaaGreatK6
/- Layer 4: a list of ties as a walk. -/
namespace Go.Proofs.YthjeiaildabadaaGreat
set_option linter.unusedSimpArgs false
set_option linter.unusedVariables false
open Go Go.RowKit

/-- One step over the tie with an index: from a node, behind so many cuts. -/
def stepF (ts : List TieD) (p : Int × Int) (i : Int) : Option (Int × Int) :=
  if 0 ≤ i then match ts[i.toNat]? with
    | some t => if (othF t p.1).2 then some ((othF t p.1).1, p.2 + cutI t) else none
    | none => none
  else none
def leadF (ts : List TieD) (l : List Int) (p : Int × Int) : Option (Int × Int) := l.foldlM (stepF ts) p
theorem leadF_step {ts : List TieD} {l : List Int} {p : Int × Int} {j : Nat} (hj : j < l.length) : leadF ts (l.take (j + 1)) p = (leadF ts (l.take j) p).bind fun x => stepF ts x l[j] := by
  unfold leadF
  rw [← List.take_append_getElem hj, List.foldlM_append]
  simp only [List.foldlM_cons, List.foldlM_nil, bind_pure]; rfl
theorem leadF_none {ts : List TieD} {l : List Int} {p : Int × Int} {j : Nat} (h : leadF ts (l.take j) p = none) : leadF ts l p = none := by
  unfold leadF at *
  rw [← List.take_append_drop j l, List.foldlM_append, h]; rfl
theorem stepF_bad {ts : List TieD} {p : Int × Int} {i : Int} (h : ftB i 0 ((ts.length : Int) - 1) = false) : stepF ts p i = none := by
  unfold stepF
  split
  · have : ts[i.toNat]? = none := List.getElem?_eq_none (by
      unfold ftB at h
      simp only [Bool.and_eq_false_iff, decide_eq_false_iff_not] at h
      omega)
    rw [this]
  · rfl
theorem stepF_at {ts : List TieD} {x k : Int} {i : Nat} (hi : i < ts.length) : stepF ts (x, k) (i : Int) = if (othF ts[i] x).2 then some ((othF ts[i] x).1, k + cutI ts[i]) else none := by
  unfold stepF
  rw [if_pos (by omega), Int.toNat_natCast, List.getElem?_eq_getElem hi]
def plE (a b c d : Int) : Bool := decide (a = c ∧ b = d)
theorem eql_pl (t : TypeId) (x y : Operand) (a b c d : Int) (w : World) : (do eqGuard .eql 102 x y (.agg #[.int .i64 a, .int .i64 b]) (.agg #[.int .i64 c, .int .i64 d]); binOp .eql 102 (.agg #[.int .i64 a, .int .i64 b]) (.agg #[.int .i64 c, .int .i64 d]) : Sem Value).run Tryz.prog w = .ok (.bool (plE a b c d)) w := by
  simp [go_sem]
  unfold plE
  by_cases h0 : a = c <;> by_cases h1 : b = d <;> simp [h0, h1]
theorem load_way {w : World} {b o : Nat} {f c : Value} (h0 : w.cell? ⟨b, o, none⟩ = some f) (h1 : w.cell? ⟨b, o + 1, none⟩ = some c) : (Instr.loadAt 113 (.pointer (some ⟨b, o, none⟩))).run Tryz.prog w = .ok (.agg #[f, c]) w := by
  simp [go_sem, Instr.loadAt, h0, h1]
theorem load_pl {w : World} {b o : Nat} {f c : Value} (h0 : w.cell? ⟨b, o, none⟩ = some f) (h1 : w.cell? ⟨b, o + 1, none⟩ = some c) : (Instr.loadAt 102 (.pointer (some ⟨b, o, none⟩))).run Tryz.prog w = .ok (.agg #[f, c]) w := by
  simp [go_sem, Instr.loadAt, h0, h1]
theorem idx_way (b n cap k : Nat) (h : k < n) (w : World) : (Instr.indexAt 103 (.slice (some ⟨b, 0, none⟩) n cap) (.int .i64 k)).run Tryz.prog w = .ok (.pointer (some ⟨b, k * 2, none⟩)) w := by
  simp [go_sem, Instr.indexAt, h]
def zvP : Value := .agg #[.int .i64 0, .int .i64 0]
theorem zero_pl : ∀ w, (zeroValue 102).run Tryz.prog w = .ok zvP w := fun w => by simp [go_sem, zvP]
attribute [local go_sem] eql_pl
set_option maxRecDepth 100000 in
set_option maxHeartbeats 4000000 in
theorem leads_any (n : Int) (a : Option Addr) (cap cq : Nat) (ts : List TieD) (gv : Value) (r : Option Addr) (l : List Int) (x y c : Int) (w : World) (hl : ts.length ≤ 1000) (hl2 : l.length ≤ 1000) (hs : TiesAt w a ts) (hr : IntsAt w r l) :
    Calls Tryz.prog 101 #[.agg #[.int .i64 n, .slice a ts.length cap, gv], .slice r l.length cq, .int .i64 x, .int .i64 y, .int .i64 c] w fun e w' => e = .returned (.bool (leadF ts l (x, 0) == some (y, c))) ∧ Below w.heap.size w w' := by
  have HS := Lib.hid hs
  have HR := Lib.hid hr
  obtain ⟨m, hm⟩ : ∃ m, m = ts.length := ⟨_, rfl⟩
  have HM := Lib.hid hm
  obtain ⟨q, hq⟩ : ∃ q, q = l.length := ⟨_, rfl⟩
  have HQ := Lib.hid hq
  have HWY : Hid (∀ W, Below w.heap.size w W → Calls Tryz.prog 95 #[.agg #[.int .i64 n, .slice a m cap, gv]] W fun e w' => ∃ g, e = .returned (.slice (some ⟨g, 0, none⟩) m m) ∧ Blk w' g (wyL ts) 113 ∧ W.heap.size ≤ g ∧ Below W.heap.size W w') := fun W hb => by rw [hm]; exact ways_any n a cap ts gv W hl (hs.below hb)
  rw [← hm] at hl ⊢
  rw [← hq] at hl2 ⊢
  have HFT : Hid (∀ v W, Calls Tryz.prog 72 #[.int .i64 v, .int .i64 0, .int .i64 ((m : Int) - 1)] W fun e w' => e = .returned (.bool (ftB v 0 ((m : Int) - 1))) ∧ W = w') := fun v W => tFromTo_any v 0 _ W
  clear hs hr hm hq
  have HB0 : Hid (Below w.heap.size w (w.alloc (.cells #[.int .i64 n, .slice a m cap, gv] 65))) := (Below.refl _ _).alloc (Nat.le_refl _) _
  go_enter Tryz.func101, Tryz.ntmps101
  go_upto_region 2 with (first | (go_at_call 95; go_loud (refine (HWY.out _ HB0.out).mono ?_; rintro e w1 ⟨g, rfl, hk, hg, hb⟩; clear HWY; have HG := Lib.hid hk; have HB := Lib.hid (HB0.out.trans (hb.mono HB0.out.size)); have HGE : Hid (w.heap.size ≤ g ∧ g < w1.heap.size) := ⟨Nat.le_trans HB0.out.size hg, hk.lt⟩; clear hk hg hb HB0)))
  refine named (fun V => Hid (Blk V g (wyL ts) 113) ∧ Hid (Blk V w1.heap.size [.int .i64 x, .int .i64 0] 102) ∧ Hid (Below w.heap.size w V)) ?_ ?_
  · exact ⟨HG.out.block (Below.heap_alloc _ _ _ HG.out.lt), Blk.new w1 _ _, HB.out.alloc HB.out.size _⟩
  clear HG HB
  rintro V ⟨HG, HP, HB⟩
  generalize hb12 : w1.heap.size = b12 at HGE HP ⊢
  clear hb12
  have HP0 : Hid (leadF ts (l.take 0) (x, 0) = some (x, 0)) := rfl
  go_wp2_with fail
  go_loopg [23] q (fun gk t23 wr => ∃ j : Nat, j + gk = q ∧ t23 = .int .i64 j ∧ ∃ p k : Int, Hid (leadF ts (l.take j) (x, 0) = some (p, k) ∧ 0 ≤ k ∧ k ≤ j) ∧ Hid (Blk wr g (wyL ts) 113) ∧ Hid (Blk wr b12 [.int .i64 p, .int .i64 k] 102) ∧ Hid (Below w.heap.size w wr))
  case atStart => exact ⟨0, by omega, rfl, x, 0, ⟨HP0.out, by omega, by omega⟩, HG, HP, HB⟩
  case round =>
    clear HG HP HB HP0
    obtain ⟨j, hjg, rfl, p, k, HK, HG, HP, HB⟩ := hrel
    by_cases hlt : j < q
    · have hjl : j < l.length := by rw [← HQ.out]; exact hlt
      obtain ⟨lb, lo, rfl, hlb, lc⟩ := (HR.out.below HB.out).at hjl
      have ST := Lib.hid (leadF_step (ts := ts) (p := (x, 0)) hjl)
      obtain ⟨v, hv⟩ : ∃ v, v = l[j] := ⟨_, rfl⟩
      rw [← hv] at ST lc
      rw [HK.out.1] at ST
      clear hv hjl hlb
      have t1 : decide (j < q) = true := decide_eq_true hlt
      cases hft : ftB v 0 ((m : Int) - 1) with
      | false =>
        have HN : Hid ((leadF ts l (x, 0) == some (y, c)) = false) := by
          have h1 : leadF ts (l.take (j + 1)) (x, 0) = none := by rw [ST.out]; exact stepF_bad (by rw [← HM.out]; exact hft)
          rw [Hid, leadF_none h1]; rfl
        have HF1 : Hid (∀ W, Calls Tryz.prog 72 #[.int .i64 v, .int .i64 0, .int .i64 ((m : Int) - 1)] W fun e w' => e = .returned (.bool false) ∧ W = w') := fun W => by rw [← hft]; exact HFT.out v W
        clear hft HFT
        go_wp2_with (first | (go_at_call 72; go_loud (refine (HF1.out _).mono ?_; rintro e w3 ⟨rfl, rfl⟩; clear HF1)))
        go_ret
        exact ⟨by rw [HN.out]; rfl, HB.out⟩
      | true =>
        obtain ⟨i, rfl, him⟩ : ∃ i : Nat, v = i ∧ i < m := by
          unfold ftB at hft
          simp only [Bool.and_eq_true, decide_eq_true_eq] at hft
          exact ⟨v.toNat, by omega, by omega⟩
        have hil : i < ts.length := by rw [← HM.out]; exact him
        have ST2 : Hid (leadF ts (l.take (j + 1)) (x, 0) = if (othF ts[i] p).2 then some ((othF ts[i] p).1, k + cutI ts[i]) else none) := by rw [Hid, ST.out]; exact stepF_at hil
        have HF1 : Hid (∀ W, Calls Tryz.prog 72 #[.int .i64 (i : Int), .int .i64 0, .int .i64 ((m : Int) - 1)] W fun e w' => e = .returned (.bool true) ∧ W = w') := fun W => by rw [← hft]; exact HFT.out i W
        have HNX : Hid (∀ W, Calls Tryz.prog 96 #[wayV ts[i], .agg #[.int .i64 p, .int .i64 k]] W fun e w' => e = .returned (.tuple #[.agg #[.int .i64 (othF ts[i] p).1, .int .i64 (k + cutI ts[i])], .bool (othF ts[i] p).2]) ∧ Below W.heap.size W w') := fun W => next_any ts[i] (cutI ts[i]) p k W (cutI_le _) (by have := HK.out.2; omega)
        have HCU := Lib.hid (cutI_le ts[i])
        have GC := Lib.hid (wyL_get (List.getElem?_eq_getElem hil))
        have HIM : Hid (i < m) := him
        obtain ⟨t, htt⟩ : ∃ t, t = ts[i] := ⟨_, rfl⟩
        rw [← htt] at ST2 HNX HCU GC
        clear hft HFT ST htt hil him
        obtain ⟨b, hbb⟩ : ∃ b, b = (othF t p).2 := ⟨_, rfl⟩
        obtain ⟨o1, ho1⟩ : ∃ o1, o1 = (othF t p).1 := ⟨_, rfl⟩
        rw [← hbb, ← ho1] at ST2 HNX
        obtain ⟨k2, hk2⟩ : ∃ k2, k2 = k + cutI t := ⟨_, rfl⟩
        have HK2 : Hid (0 ≤ k2 ∧ k2 ≤ (j : Int) + 1) := by rw [Hid, hk2]; have := HK.out.2; have := HCU.out; omega
        rw [← hk2] at ST2 HNX
        clear hbb ho1 hk2 HCU
        go_upto_region 7 with (first | (go_at_call 72; go_loud (refine (HF1.out _).mono ?_; rintro e w3 ⟨rfl, rfl⟩; clear HF1)))
        have HOWD : Hid (∀ w1, (clOld wr.drew).C w1 → Below wr.heap.size wr w1) := fun w1 hC => old_end (Below.refl _ _) hC (Nat.le_refl _)
        clear lc
        refine wp_region_two (Z := (fun e => if e = 102 then zvP else .bool false)) 11 51 10 11 [8] [102] (by kernel_rfl) (by kernel_rfl) (by kernel_rfl) (by kernel_rfl) (by intro e he w; simp only [List.mem_cons, List.not_mem_nil, or_false] at he; rcases he with rfl <;> first | exact zero_pl w) (by rfl) ?_
        simp only [List.take_succ_cons, List.take_zero, List.eraseIdx_cons_succ, List.eraseIdx_cons_zero]
        refine chain_move (.slice (some ⟨g, 0, none⟩) m m) _ (fun _ _ => Below.refl _ _) rfl rfl (by kernel_rfl) (by kernel_rfl) rfl ?_
        refine chain_move (.int .i64 (i : Int)) _ (fun _ _ => Below.refl _ _) rfl rfl (by kernel_rfl) (by kernel_rfl) rfl ?_
        refine chain_idx (.pointer (some ⟨g, i * 2, none⟩)) _ _ _ (.slice (some ⟨g, 0, none⟩) m m) (.int .i64 (i : Int)) (fun _ _ => Below.refl _ _) rfl rfl (by kernel_rfl) (by kernel_rfl) rfl rfl (fun w1 => idx_way _ _ _ _ HIM.out w1) ?_
        refine chain_load (wayV t) _ _ _ (fun _ _ => Below.refl _ _) rfl rfl (by kernel_rfl) (by kernel_rfl) rfl (fun w1 hC => load_way ((HG.out.below (HOWD.out w1 hC)).cell (by rw [Nat.mul_comm]; exact GC.out.1)) ((HG.out.below (HOWD.out w1 hC)).cell (by rw [Nat.mul_comm]; exact GC.out.2))) ?_
        refine chain_load (.agg #[.int .i64 p, .int .i64 k]) _ _ _ (fun _ _ => Below.refl _ _) rfl rfl (by kernel_rfl) (by kernel_rfl) rfl (fun w1 hC => load_pl ((HP.out.below (HOWD.out w1 hC)).cell rfl) ((HP.out.below (HOWD.out w1 hC)).cell rfl)) ?_
        refine chain_call (.tuple #[.agg #[.int .i64 o1, .int .i64 k2], .bool b]) 96 [wayV t, .agg #[.int .i64 p, .int .i64 k]] _ _ (enters_of Tryz.func96 (by kernel_rfl) rfl) rfl rfl rfl (by kernel_rfl) (by kernel_rfl) rfl rfl (fun w1 hC => HNX.out w1) ?_
        refine chain_move (.tuple #[.agg #[.int .i64 o1, .int .i64 k2], .bool b]) _ (fun _ _ => Below.refl _ _) rfl rfl (by kernel_rfl) (by kernel_rfl) rfl ?_
        refine chain_ext (.agg #[.int .i64 o1, .int .i64 k2]) _ _ (#[.agg #[.int .i64 o1, .int .i64 k2], .bool b]) (fun _ _ => Below.refl _ _) rfl rfl (by kernel_rfl) (by kernel_rfl) rfl rfl ?_
        refine chain_ext (.bool b) _ _ (#[.agg #[.int .i64 o1, .int .i64 k2], .bool b]) (fun _ _ => Below.refl _ _) rfl rfl (by kernel_rfl) (by kernel_rfl) rfl rfl ?_
        refine chain_alloc 102 zvP rfl rfl (by kernel_rfl) (by kernel_rfl) (fun w => zero_pl w) ?_
        refine ⟨_, rfl, by kernel_rfl, ?_⟩
        intro A w1 hC hk hN
        obtain ⟨p9, hx9, hB9, hk9⟩ := hN.1 9 _ _ 15 (by decide) (by rfl) (by rfl) rfl rfl rfl
        have hk9' : Blk w1 p9 [.int .i64 0, .int .i64 0] 102 := hk9
        have d0 := hk9'.cell (i := 0) rfl
        have d1 := hk9'.cell (i := 1) rfl
        have f0 := hk9'.frozen 0
        have f1 := hk9'.frozen 1
        have hb1 := HOWD.out w1 hC
        refine wp_of_skip (w' := (w1.setCell ⟨p9, 0, none⟩ (.int .i64 o1)).setCell ⟨p9, 1, none⟩ (.int .i64 k2)) ?_ ?_
        · rw [execOp_congr _ (by intro cs b h; cases h) (eval_of1 15 (fun x => by kernel_rfl) hk), hx9]
          simp [execOp, evE, lk_cons, lk_nil, go_sem, d0, d1, f0, f1]
        refine ⟨undef, clOld _, [(15, .pointer (some ⟨p9, 0, none⟩))], rfl, Below.refl _ _, fun _ _ h hb => Old.step h hb, ?_, ?_⟩
        · intro pr hpr
          obtain rfl : pr = (15, .pointer (some ⟨p9, 0, none⟩)) := by simpa using hpr
          exact ⟨hx9, by simp, by rfl⟩
        simp only [List.take_succ_cons, List.take_zero, List.drop_succ_cons, List.drop_zero, List.drop_nil, envB, List.map_cons, List.map_nil, List.nil_append, List.cons_append, weak, weak1]
        refine ⟨?_, ?_⟩
        · intro i9 hi9 p' e' hp' he'
          obtain rfl : i9 = 8 := by simpa using hi9
          cases hp'
          cases he'
          exact obl_pure (.bool b) (fun _ _ => Below.refl _ _) (by intro cs b h; cases h) (by kernel_rfl) (by kernel_rfl) rfl (fun w9 _ => by simp [execOp, evE, lk_cons, lk_nil, slotL, go_sem])
        refine chain_end (by rfl) ?_
        intro xs w7 hC7 hre
        have hC7' : Below ((w1.setCell ⟨p9, 0, none⟩ (.int .i64 o1)).setCell ⟨p9, 1, none⟩ (.int .i64 k2)).heap.size ((w1.setCell ⟨p9, 0, none⟩ (.int .i64 o1)).setCell ⟨p9, 1, none⟩ (.int .i64 k2)) w7 := hC7
        have hP9 := Lib.hid (((hk9'.set_ 0 (.int .i64 o1)).set_ 1 (.int .i64 k2)).below hC7')
        have hs9 : Below wr.heap.size wr ((w1.setCell ⟨p9, 0, none⟩ (.int .i64 o1)).setCell ⟨p9, 1, none⟩ (.int .i64 k2)) := (hb1.setCell hB9 _).setCell hB9 _
        have hb7 : Below wr.heap.size wr w7 := hs9.trans (hC7'.mono hs9.size)
        replace HG := Lib.hid (HG.out.below hb7)
        replace HP := Lib.hid (HP.out.below hb7)
        replace HB := Lib.hid (HB.out.trans (hb7.mono HB.out.size))
        simp only [layE, List.foldr_cons, List.foldr_nil, List.set_cons_succ, List.set_cons_zero]
        clear hC7 hC7' hs9 hb7 hre hk9 hk9' d0 d1 f0 f1 hb1 hx9 hk hN hC hB9 HOWD
        cases b with
        | false =>
          have HN : Hid ((leadF ts l (x, 0) == some (y, c)) = false) := by
            have h1 := ST2.out
            rw [if_neg (by simp)] at h1
            rw [Hid, leadF_none h1]; rfl
          go_wp2_with fail
          go_ret
          exact ⟨by rw [HN.out]; rfl, HB.out⟩
        | true =>
          have HN : Hid (leadF ts (l.take (j + 1)) (x, 0) = some (o1, k2)) := by have h1 := ST2.out; rwa [if_pos rfl] at h1
          have e0 := hP9.out.cell (i := 0) rfl
          have e1 := hP9.out.cell (i := 1) rfl
          have d0 := HP.out.cell (i := 0) rfl
          have d1 := HP.out.cell (i := 1) rfl
          have f0 := HP.out.frozen 0
          have f1 := HP.out.frozen 1
          have H8 : Hid (Blk ((w7.setCell ⟨b12, 0, none⟩ (.int .i64 o1)).setCell ⟨b12, 1, none⟩ (.int .i64 k2)) g (wyL ts) 113 ∧ Blk ((w7.setCell ⟨b12, 0, none⟩ (.int .i64 o1)).setCell ⟨b12, 1, none⟩ (.int .i64 k2)) b12 [.int .i64 o1, .int .i64 k2] 102 ∧ Below w.heap.size w ((w7.setCell ⟨b12, 0, none⟩ (.int .i64 o1)).setCell ⟨b12, 1, none⟩ (.int .i64 k2))) := by
            have o9 : Only b12 w7 ((w7.setCell ⟨b12, 0, none⟩ (.int .i64 o1)).setCell ⟨b12, 1, none⟩ (.int .i64 k2)) := ((Only.refl _ w7).set_ 0 _).set_ 1 _
            have hq : w.heap.size ≤ b12 := by have := HGE.out; omega
            exact ⟨HG.out.only o9 (by have := HGE.out; omega), (HP.out.set_ 0 _).set_ 1 _, (HB.out.setCell hq _).setCell hq _⟩
          clear HG HP HB
          go_wp2_with fail
          go_roundg (gk - 1)
          case measure => omega
          case rel => exact ⟨j + 1, by omega, by simp, o1, k2, ⟨HN.out, HK2.out.1, by have := HK2.out.2; omega⟩, H8.out.1, H8.out.2.1, H8.out.2.2⟩
    · have e : q = j := by omega
      subst e
      have t1 : decide (q < q) = false := by simp
      have HN : Hid ((leadF ts l (x, 0) == some (y, c)) = plE p k y c) := by
        have h1 := HK.out.1
        rw [List.take_of_length_le (by rw [← HQ.out]; omega)] at h1
        rw [Hid, h1]
        unfold plE
        by_cases h0 : p = y <;> by_cases h2 : k = c <;> simp [h0, h2]
      have d0 := HP.out.cell (i := 0) rfl
      have d1 := HP.out.cell (i := 1) rfl
      clear HFT
      go_wp2_with fail
      all_goals (
        go_ret
        exact ⟨by rw [HN.out]; (first | rfl | (unfold plE; simp_all)), HB.out⟩)
end Go.Proofs.YthjeiaildabadaaGreat
/- Layer 4: the search for a shortest walk, as a relation between its states. -/
namespace Go.Proofs.YthjeiaildabadaaGreat
set_option linter.unusedSimpArgs false
set_option linter.unusedVariables false
open Go Go.RowKit

/-- How the search came to a place. -/
structure StepD where
  tie : Int
  fn : Nat
  fc : Nat
  done : Bool
def zeroS : StepD := ⟨0, 0, 0, false⟩
abbrev Plc := Nat × Nat
def plI (p : Plc) : Nat := p.1 * 2 + p.2
def cutN (t : TieD) : Nat := if t.kind == 1 then 1 else 0
theorem cutN_I (t : TieD) : ((cutN t : Nat) : Int) = cutI t := by unfold cutN cutI; split <;> rfl
def doneB (c : List StepD) (p : Plc) : Bool := match c[plI p]? with | some s => s.done | none => false
/-- Over the tie k the search comes from h to nx for the first time. -/
def Takes (ts : List TieD) (cuts : Nat) (c : List StepD) (h : Plc) (k : Nat) (nx : Plc) : Prop :=
  ∃ t, ts[k]? = some t ∧ othF t h.1 = ((nx.1 : Int), true) ∧ nx.2 = h.2 + cutN t ∧ nx.2 ≤ cuts ∧ doneB c nx = false
def came (c : List StepD) (h : Plc) (k : Nat) (nx : Plc) : List StepD := c.set (plI nx) ⟨k, h.1, h.2, true⟩
/-- The states of the search: where it is (ahead of a round, or from a place at a tie), how it came, its queue. -/
inductive Srch (ts : List TieD) (cuts a : Nat) (last : Plc) : Option (Plc × Nat) → List StepD → List Plc → Prop
  | init : Srch ts cuts a last none ((List.replicate 64 zeroS).set (plI (a, 0)) ⟨0, 0, 0, true⟩) [(a, 0)]
  | pop {c h q} : Srch ts cuts a last none c (h :: q) → Srch ts cuts a last (some (h, 0)) c q
  | skip {c h k q} : Srch ts cuts a last (some (h, k)) c q → k < ts.length → (∀ nx, ¬ Takes ts cuts c h k nx) → Srch ts cuts a last (some (h, k + 1)) c q
  | take {c h k q nx} : Srch ts cuts a last (some (h, k)) c q → k < ts.length → Takes ts cuts c h k nx → nx ≠ last → Srch ts cuts a last (some (h, k + 1)) (came c h k nx) (q ++ [nx])
  | next {c h q} : Srch ts cuts a last (some (h, ts.length)) c q → Srch ts cuts a last none c q
/-- What the search leaves. -/
def Fnd (ts : List TieD) (cuts a : Nat) (last : Plc) (c : List StepD) : Prop :=
  Srch ts cuts a last none c [] ∨ ∃ h k c0 q, Srch ts cuts a last (some (h, k)) c0 q ∧ k < ts.length ∧ Takes ts cuts c0 h k last ∧ c = came c0 h k last
theorem oth_in {t : TieD} {n : Nat} (ht : tieB t n = true) {x : Nat} {p : Int} (h : othF t x = (p, true)) : 0 ≤ p ∧ p < n := by
  obtain ⟨h1, h2, h3, h4, _, _⟩ := tieB_in ht
  unfold othF at h
  split at h
  · injection h with h _; omega
  · split at h
    · injection h with h _; omega
    · injection h with _ h; cases h
theorem pl_lt {n : Nat} (hn : n ≤ 32) {cuts : Nat} (hc : cuts ≤ 1) {p : Plc} (h1 : p.1 < n) (h2 : p.2 ≤ cuts) : plI p < 64 := by unfold plI; omega
structure SOk (n cuts : Nat) (s : Option (Plc × Nat)) (c : List StepD) (q : List Plc) : Prop where
  len : c.length = 64
  que : ∀ p ∈ q, p.1 < n ∧ p.2 ≤ cuts
  here : ∀ h k, s = some (h, k) → h.1 < n ∧ h.2 ≤ cuts
theorem Srch.ok {ts : List TieD} {cuts a n : Nat} {last : Plc} (hv : ∀ t ∈ ts, tieB t n = true) (ha : a < n) {s : Option (Plc × Nat)} {c : List StepD} {q : List Plc} (h : Srch ts cuts a last s c q) : SOk n cuts s c q := by
  induction h with
  | init => exact ⟨by simp, fun p hp => by rw [List.mem_singleton.1 hp]; exact ⟨ha, Nat.zero_le _⟩, fun _ _ h => by cases h⟩
  | pop _ ih => exact ⟨ih.len, fun p hp => ih.que p (List.mem_cons_of_mem _ hp), fun h k e => by injection e with e; injection e with e1 e2; subst e1; exact ih.que _ List.mem_cons_self⟩
  | skip _ _ _ ih => exact ⟨ih.len, ih.que, fun h k e => by injection e with e; injection e with e1 e2; subst e1; exact ih.here _ _ rfl⟩
  | @take c h k q nx _ hk ht _ ih =>
    obtain ⟨t, h1, h2, h3, h4, _⟩ := ht
    have hnx : nx.1 < n := by have := oth_in (hv t (List.mem_of_getElem? h1)) h2; omega
    refine ⟨by unfold came; rw [List.length_set]; exact ih.len, fun p hp => ?_, fun h k e => by injection e with e; injection e with e1 e2; subst e1; exact ih.here _ _ rfl⟩
    rcases List.mem_append.1 hp with hp | hp
    · exact ih.que p hp
    · rw [List.mem_singleton.1 hp]; exact ⟨hnx, h4⟩
  | next _ ih => exact ⟨ih.len, ih.que, fun _ _ h => by cases h⟩
/-! ### In memory -/
def stV (s : StepD) : List Value := [.int .i64 s.tie, .int .i64 s.fn, .int .i64 s.fc, .bool s.done]
def cmV : List StepD → List Value
  | [] => []
  | s :: l => stV s ++ cmV l
theorem cmV_get : ∀ {c : List StepD} {i : Nat} {s : StepD}, c[i]? = some s → ∀ {j : Nat} {u : Value}, (stV s)[j]? = some u → (cmV c)[i * 4 + j]? = some u
  | [], i, s, h, j, u, hu => by simp at h
  | d :: l, 0, s, h, j, u, hu => by
    simp at h; subst h
    have hj : j < (stV d).length := (List.getElem?_eq_some_iff.1 hu).1
    rw [Nat.zero_mul, Nat.zero_add]
    unfold cmV
    rw [List.getElem?_append_left hj]; exact hu
  | d :: l, i + 1, s, h, j, u, hu => by
    have ih := cmV_get (c := l) (i := i) (s := s) (by simpa using h) hu
    have hl : (stV d).length = 4 := rfl
    unfold cmV
    rw [List.getElem?_append_right (by omega), hl, show (i + 1) * 4 + j - 4 = i * 4 + j by omega]
    exact ih
theorem cmV_set : ∀ (c : List StepD) (i : Nat) (s : StepD), i < c.length → ((((cmV c).set (i * 4) (.int .i64 s.tie)).set (i * 4 + 1) (.int .i64 s.fn)).set (i * 4 + 2) (.int .i64 s.fc)).set (i * 4 + 3) (.bool s.done) = cmV (c.set i s)
  | [], i, s, h => by simp at h
  | d :: l, 0, s, h => rfl
  | d :: l, i + 1, s, h => by
    have ih := cmV_set l i s (by simpa using h)
    have hl : (stV d).length = 4 := rfl
    show ((((stV d ++ cmV l).set _ _).set _ _).set _ _).set _ _ = stV d ++ cmV (l.set i s)
    rw [← ih]
    rw [List.set_append_right _ _ (by omega), List.set_append_right _ _ (by omega), List.set_append_right _ _ (by omega), List.set_append_right _ _ (by omega), hl]
    rw [show (i + 1) * 4 - 4 = i * 4 by omega, show (i + 1) * 4 + 1 - 4 = i * 4 + 1 by omega, show (i + 1) * 4 + 2 - 4 = i * 4 + 2 by omega, show (i + 1) * 4 + 3 - 4 = i * 4 + 3 by omega]
theorem cmV_set3 : ∀ (c : List StepD) (i : Nat) (s : StepD), c[i]? = some s → (cmV c).set (i * 4 + 3) (.bool true) = cmV (c.set i ⟨s.tie, s.fn, s.fc, true⟩)
  | [], i, s, h => by simp at h
  | d :: l, 0, s, h => by simp at h; subst h; rfl
  | d :: l, i + 1, s, h => by
    have ih := cmV_set3 l i s (by simpa using h)
    have hl : (stV d).length = 4 := rfl
    show (stV d ++ cmV l).set _ _ = stV d ++ cmV (l.set i _)
    rw [← ih, List.set_append_right _ _ (by omega), hl, show (i + 1) * 4 + 3 - 4 = i * 4 + 3 by omega]
def qvL : List Plc → List Value
  | [] => []
  | p :: l => .int .i64 p.1 :: .int .i64 p.2 :: qvL l
theorem qvL_len : ∀ l, (qvL l).length = l.length * 2
  | [] => rfl
  | p :: l => by simp [qvL, qvL_len l]; omega
theorem qvL_snoc : ∀ (l : List Plc) (p : Plc), qvL (l ++ [p]) = qvL l ++ [.int .i64 p.1, .int .i64 p.2]
  | [], p => rfl
  | d :: l, p => by simp [qvL, qvL_snoc l p]
/-! ### What is left to come to -/
def undone (c : List StepD) : Nat := c.countP fun s => !s.done
theorem undone_take {c : List StepD} {h : Plc} {k : Nat} {nx : Plc} (hl : plI nx < c.length) (hd : doneB c nx = false) : undone (came c h k nx) + 1 = undone c := by
  have gen : ∀ (c : List StepD) (i : Nat) (s : StepD), c[i]? = some s → s.done = false → ∀ s' : StepD, s'.done = true → undone (c.set i s') + 1 = undone c := by
    intro c
    induction c with
    | nil => intro i s h; simp at h
    | cons d l ih =>
      intro i s h h1 s' h2
      cases i with
      | zero => simp at h; subst h; simp [undone, h1, h2]
      | succ i =>
        have := ih i s (by simpa using h) h1 s' h2
        unfold undone at this ⊢
        rw [List.set_cons_succ, List.countP_cons, List.countP_cons]; omega
  have e := List.getElem?_eq_getElem hl
  unfold doneB at hd
  rw [e] at hd
  exact gen c (plI nx) _ e hd _ rfl
end Go.Proofs.YthjeiaildabadaaGreat
/- Layer 4: the search, walked. -/
namespace Go.Proofs.YthjeiaildabadaaGreat
set_option linter.unusedSimpArgs false
set_option linter.unusedVariables false
open Go Go.RowKit

theorem load_wk' {w : World} {b : Nat} {f c d : Value} (h0 : w.cell? ⟨b, 0, none⟩ = some f) (h1 : w.cell? ⟨b, 1, none⟩ = some c) (h2 : w.cell? ⟨b, 2, none⟩ = some d) : (Instr.loadAt 65 (.pointer (some ⟨b, 0, none⟩))).run Tryz.prog w = .ok (.agg #[f, c, d]) w := by
  simp [go_sem, Instr.loadAt, h0, h1, h2]
theorem gtr_i (t : TypeId) (x y : Operand) (a b : Int) (p : Bool) (hp : decide (b < a) = p) (w : World) : (do eqGuard .gtr t x y (.int .i64 a) (.int .i64 b); binOp .gtr t (.int .i64 a) (.int .i64 b) : Sem Value).run Tryz.prog w = .ok (.bool p) w := by
  subst hp; simp [go_sem]
theorem load_bool {w : World} {b o : Nat} {a : Bool} (h : w.cell? ⟨b, o, none⟩ = some (.bool a)) : (Instr.loadAt 4 (.pointer (some ⟨b, o, none⟩))).run Tryz.prog w = .ok (.bool a) w := by
  simp [go_sem, Instr.loadAt, h]
theorem idx_cm (b v : Nat) (h : v < 32) (w : World) : (Instr.indexAt 110 (.pointer (some ⟨b, 0, none⟩)) (.int .i64 v)).run Tryz.prog w = .ok (.pointer (some ⟨b, v * 8, none⟩)) w := by
  simp [go_sem, Instr.indexAt, h]
theorem idx_cm2 (b o v : Nat) (h : v < 2) (w : World) : (Instr.indexAt 108 (.pointer (some ⟨b, o, none⟩)) (.int .i64 v)).run Tryz.prog w = .ok (.pointer (some ⟨b, o + v * 4, none⟩)) w := by
  simp [go_sem, Instr.indexAt, h]
theorem zero_cm : Tryz.zeroCells110 = (cmV (List.replicate 64 zeroS)).toArray := by kernel_rfl
def wayW (ts : List TieD) (m : Nat) : Word := fun u w => ∃ g, u = .slice (some ⟨g, 0, none⟩) m m ∧ Blk w g (wyL ts) 113
theorem wayW_lasts {w0 : World} (ts : List TieD) (m : Nat) : lasts (clOld w0) (wayW ts m) := fun v w w' _ hR ⟨g, hv, h⟩ => ⟨g, hv, h.below hR⟩
def queW (B : Nat) (q : List Plc) : Word := fun u w => QRow w B 102 2 u q.length (qvL q)
theorem queW_lasts {w0 : World} (B : Nat) (q : List Plc) : lasts (clOld w0) (queW B q) := fun v w w' _ hR h => h.below hR
theorem que_new {w0 w : World} {B : Nat} {x y : Nat} {ρ : Operand → Value} {o : Oper} (h : (execOp ρ o).run Tryz.prog w = .ok (.value (.slice (some ⟨w.heap.size, 0, none⟩) 1 1)) (w.alloc (.cells #[.int .i64 x, .int .i64 y] 102))) (hC : (clOld w0).C w) (hB : B ≤ w.heap.size) :
    ∃ u w', (execOp ρ o).run Tryz.prog w = .ok (.value u) w' ∧ (clOld w0).R w w' ∧ queW B [(x, y)] u w' :=
  ⟨_, _, h, (Below.refl _ _).alloc (Nat.le_refl _) _, rfl, w.heap.size, 0, 1, _, rfl, hB, heap_alloc_new w _, by simp, by simp [maxLen], by simp, by simp [qvL]⟩
/-- What lies in memory between two rounds of the search. -/
structure SM (w : World) (b10 b11 g12 g14 a b cuts : Nat) (ts : List TieD) (c : List StepD) (q : List Plc) (v : Value) (W : World) : Prop where
  que : QRow W (b11 + 1) 102 2 v q.length (qvL q)
  cm : Blk W g14 (cmV c) 110
  wy : Blk W g12 (wyL ts) 113
  f1 : Blk W b10 [.int .i64 a, .int .i64 0] 102
  f2 : Blk W b11 [.int .i64 b, .int .i64 cuts] 102
  old : Below w.heap.size w W
  ne : v.ownBlock ≠ some g14
theorem SM.below {w W W' : World} {b10 b11 g12 g14 a b cuts : Nat} {ts : List TieD} {c : List StepD} {q : List Plc} {v : Value} (h : SM w b10 b11 g12 g14 a b cuts ts c q v W) (hb : Below W.heap.size W W') : SM w b10 b11 g12 g14 a b cuts ts c q v W' :=
  ⟨h.que.below hb, h.cm.below hb, h.wy.below hb, h.f1.below hb, h.f2.below hb, h.old.trans (hb.mono h.old.size), h.ne⟩
theorem infoP : (Tryz.prog.info? 102).map (fun i => (i.zero, i.size, i.bytes)) = some (some (.agg #[.int .i64 0, .int .i64 0]), 2, 16) := by kernel_rfl
theorem pl_cells {w : World} {b : Nat} {x y : Value} (h : Blk w b [x, y] 102) : ∀ (j : Nat) (u : Value), [x, y][j]? = some u → w.cell? ((⟨b, 0, none⟩ : Addr).add j) = some u := fun j u hj => by
  rw [addr_plain, Nat.zero_add]; exact h.cell hj
theorem QRow.neT {W : World} {B q n size : Nat} {e t : TypeId} {v : Value} {xs ys : List Value} (h : QRow W B e size v n xs) (hq : Blk W q ys t) (ht : t ≠ e) : v.ownBlock ≠ some q := fun e' => by
  obtain ⟨_, g, o, cap, cur, rfl, _, h3, _⟩ := h
  have e2 : g = q := by simpa [Value.ownBlock] using e'
  subst e2
  unfold Blk at hq
  rw [hq] at h3
  injection h3 with h3
  injection h3 with _ h3
  exact ht h3
theorem sm_append {w W W' : World} {b10 b11 g12 g14 b15 a b cuts x y : Nat} {ts : List TieD} {c : List StepD} {q : List Plc} {v v2 : Value} {l : List Value} (h : SM w b10 b11 g12 g14 a b cuts ts c q v W) (h15 : Blk W b15 l 102) (hn : v.ownBlock ≠ some b15)
    (hq : QRow W' (b11 + 1) 102 2 v2 (q.length + 1) (qvL q ++ [.int .i64 x, .int .i64 y])) (hg : W.grownBy W' v.ownBlock) (ho : v2.ownBlock = v.ownBlock ∨ v2.ownBlock = some W.heap.size) (hb : w.heap.size ≤ b11 ∧ b10 < b11) :
    SM w b10 b11 g12 g14 a b cuts ts c (q ++ [(x, y)]) v2 W' ∧ Blk W' b15 l 102 ∧ v2.ownBlock ≠ some b15 := by
  have nb : ∀ k, some k ≠ v.ownBlock → k < W.heap.size → v2.ownBlock ≠ some k := fun k h1 h2 e => by
    rcases ho with ho | ho
    · exact h1 (by rw [← ho, e])
    · rw [ho] at e; injection e with e; omega
  refine ⟨⟨by rw [List.length_append, qvL_snoc]; exact hq, h.cm.block (hg.block _ h.cm.lt (Ne.symm h.ne)), h.wy.block (hg.block _ h.wy.lt (Ne.symm (h.que.neT h.wy (by decide)))), h.f1.block (hg.block _ h.f1.lt fun e => ?_), h.f2.block (hg.block _ h.f2.lt fun e => ?_), h.old.grown hg h.old.size (fun k hk => ?_), nb _ (Ne.symm h.ne) h.cm.lt⟩, h15.block (hg.block _ h15.lt (Ne.symm hn)), nb _ (Ne.symm hn) h15.lt⟩
  · have := (h.que.lt _ e.symm).1; omega
  · have := (h.que.lt _ e.symm).1; omega
  · have := (h.que.lt _ hk).1; omega
set_option maxRecDepth 100000 in
set_option maxHeartbeats 8000000 in
theorem shortest_walk (n : Nat) (a0 : Option Addr) (cap : Nat) (ts : List TieD) (gv : Value) (a b cuts : Nat) (w : World) (hl : ts.length ≤ 512) (hn : n ≤ 32) (hv : ∀ t ∈ ts, tieB t n = true) (ha : a < n) (hb : b < n) (hc : cuts ≤ 1) (hs : TiesAt w a0 ts)
    (BP : List StepD → Value → World → Prop)
    (HBK : Hid (∀ W g c, Below w.heap.size w W → Fnd ts cuts a (b, cuts) c → doneB c (b, cuts) = true → Blk W g (cmV c) 110 → Calls Tryz.prog 97 #[.pointer (some ⟨g, 0, none⟩), .agg #[.int .i64 a, .int .i64 0], .agg #[.int .i64 b, .int .i64 cuts]] W fun e w' => ∃ u, e = .returned u ∧ BP c u w' ∧ Below W.heap.size W w')) :
    Calls Tryz.prog 65 #[.agg #[.int .i64 n, .slice a0 ts.length cap, gv], .int .i64 a, .int .i64 b, .int .i64 cuts] w fun e w' => ∃ c, Fnd ts cuts a (b, cuts) c ∧ ((doneB c (b, cuts) = false ∧ e = .returned (.tuple #[.slice none 0 0, .bool false])) ∨ (doneB c (b, cuts) = true ∧ ∃ u, e = .returned (.tuple #[u, .bool true]) ∧ BP c u w')) ∧ Below w.heap.size w w' := by
  have HS := Lib.hid hs
  have HV := Lib.hid hv
  obtain ⟨m, hm⟩ : ∃ m, m = ts.length := ⟨_, rfl⟩
  have HM := Lib.hid hm
  have HWY : Hid (∀ W, Below w.heap.size w W → Calls Tryz.prog 95 #[.agg #[.int .i64 n, .slice a0 m cap, gv]] W fun e w' => ∃ g, e = .returned (.slice (some ⟨g, 0, none⟩) m m) ∧ Blk w' g (wyL ts) 113 ∧ W.heap.size ≤ g ∧ Below W.heap.size W w') := fun W hb => by rw [hm]; exact ways_any n a0 cap ts gv W (by omega) (hs.below hb)
  rw [← hm] at hl ⊢
  clear hs hv hm
  go_enter Tryz.func65, Tryz.ntmps65
  go_wp2
  go_step3
  go_upto_region 2 with (fail)
  refine named (fun V => Hid (Blk V w.heap.size [.int .i64 n, .slice a0 m cap, gv] 65) ∧ Hid (Blk V (w.heap.size + 1) [.int .i64 a, .int .i64 0] 102) ∧ Hid (Blk V (w.heap.size + 1 + 1) [.int .i64 b, .int .i64 cuts] 102) ∧ Hid (Below w.heap.size w V)) ?_ ?_
  · have h := B3.new w [.int .i64 n, .slice a0 m cap, gv] [.int .i64 a, .int .i64 0] [.int .i64 b, .int .i64 cuts] 65 102 102
    exact ⟨h.1, h.2.1, h.2.2.1, h.2.2.2⟩
  rintro V0 ⟨F0, F1, F2, FB⟩
  generalize hb0 : w.heap.size = b0 at F0 F1 F2 ⊢
  generalize hb10 : b0 + 1 = b10 at F1 F2 ⊢
  generalize hb11 : b10 + 1 = b11 at F2 ⊢
  have HBB : Hid (w.heap.size = b0 ∧ b0 < b10 ∧ b10 < b11) := ⟨hb0, by omega, by omega⟩
  have HV0 : Hid (b11 + 1 ≤ V0.heap.size) := F2.out.lt
  clear hb0 hb10 hb11
  have HOWD : Hid (∀ w1, (clOld V0.drew).C w1 → Below V0.heap.size V0 w1) := fun w1 hC => old_end (Below.refl _ _) hC (Nat.le_refl _)
  refine wp_region_old 6 104 (by kernel_rfl) (by kernel_rfl) (by rfl) ?_
  simp only [List.take_succ_cons, List.take_zero, List.drop_succ_cons, List.drop_zero, List.drop_nil]
  refine chain_load (.agg #[.int .i64 n, .slice a0 m cap, gv]) _ _ _ (fun _ _ => Below.refl _ _) rfl rfl (by kernel_rfl) (by kernel_rfl) rfl (fun w1 hC => load_wk' ((F0.out.below (HOWD.out w1 hC)).cell rfl) ((F0.out.below (HOWD.out w1 hC)).cell rfl) ((F0.out.below (HOWD.out w1 hC)).cell rfl)) ?_
  refine chain_call_re (wayW ts m) 95 [.agg #[.int .i64 n, .slice a0 m cap, gv]] _ _ (wayW_lasts _ _) (enters_of Tryz.func95 (by kernel_rfl) rfl) rfl rfl rfl (by kernel_rfl) (by kernel_rfl) rfl rfl (fun w1 hC => (HWY.out w1 (FB.out.trans ((HOWD.out w1 hC).mono FB.out.size))).mono fun e w' ⟨g, he, hk, _, hb⟩ => ⟨_, he, hb, g, rfl, hk⟩) ?_
  refine chain_load (.agg #[.int .i64 a, .int .i64 0]) _ _ _ (fun _ _ => Below.refl _ _) rfl rfl (by kernel_rfl) (by kernel_rfl) rfl (fun w1 hC => load_pl ((F1.out.below (HOWD.out w1 hC)).cell rfl) ((F1.out.below (HOWD.out w1 hC)).cell rfl)) ?_
  refine chain_new (queW (b11 + 1) [(a, 0)]) (queW_lasts _ _) rfl (by intro cs b h; cases h) (by kernel_rfl) (by kernel_rfl) (fun w1 hC => que_new (by simp [execOp, evE, lk_cons, lk_nil, go_sem, Instr.buildSlice]) hC (Nat.le_trans HV0.out (HOWD.out w1 hC).size)) ?_
  refine chain_assign_re 26 (wayW ts m) (wayW_lasts _ _) (fun _ _ => Below.refl _ _) rfl rfl (by kernel_rfl) rfl (by kernel_rfl) (fun _ => rfl) ?_
  refine chain_assign_re 28 (queW (b11 + 1) [(a, 0)]) (queW_lasts _ _) (fun _ _ => Below.refl _ _) rfl rfl (by kernel_rfl) rfl (by kernel_rfl) (fun _ => rfl) ?_
  refine chain_end (by rfl) ?_
  intro xs w1 hCw1 hrew1
  simp only [layE, List.foldr_cons, List.foldr_nil, List.set_cons_succ, List.set_cons_zero]
  obtain ⟨g12, hx26, hk12⟩ := hrew1 26 _ rfl
  obtain ⟨g12', hx12, hk12'⟩ := hrew1 12 _ rfl
  have hqu : QRow w1 (b11 + 1) 102 2 (xs 13) 1 (qvL [(a, 0)]) := hrew1 13 _ rfl
  have hb1 := HOWD.out w1 hCw1
  have HG12 : Hid (Blk w1 g12' (wyL ts) 113) := hk12'
  have HQ := Lib.hid hqu
  simp only [hx12]
  generalize hx13 : xs 13 = v13 at HQ ⊢
  replace F1 := Lib.hid (F1.out.below hb1)
  replace F2 := Lib.hid (F2.out.below hb1)
  replace FB := Lib.hid (FB.out.trans (hb1.mono FB.out.size))
  clear F0 hb1 hqu hk12 hk12' hx26 hx12 hx13 HOWD HV0 hCw1 hrew1 HWY
  go_upto_region 4 with (fail)
  refine named (fun V => Hid (Blk V w1.heap.size (cmV (List.replicate 64 zeroS)) 110) ∧ Hid (Blk V g12' (wyL ts) 113) ∧ Hid (QRow V (b11 + 1) 102 2 v13 1 (qvL [(a, 0)])) ∧ Hid (Blk V b10 [.int .i64 a, .int .i64 0] 102) ∧ Hid (Blk V b11 [.int .i64 b, .int .i64 cuts] 102) ∧ Hid (Below w.heap.size w V) ∧ Hid (g12' < w1.heap.size ∧ b11 < w1.heap.size ∧ v13.ownBlock ≠ some w1.heap.size)) ?_ ?_
  · have hb : Below w1.heap.size w1 (w1.alloc (.cells Tryz.zeroCells110 110)) := (Below.refl _ _).alloc (Nat.le_refl _) _
    refine ⟨?_, HG12.out.below hb, HQ.out.below hb, F1.out.below hb, F2.out.below hb, FB.out.trans (hb.mono FB.out.size), HG12.out.lt, F2.out.lt, fun e => Nat.lt_irrefl _ (HQ.out.lt _ e).2⟩
    rw [zero_cm]; exact Blk.new w1 _ _
  clear HG12 HQ F1 F2 FB
  rintro V4 ⟨HC, HW, HQ, F1, F2, FB, HNE⟩
  generalize hg14 : w1.heap.size = g14 at HC HNE ⊢
  clear hg14
  have HOWD : Hid (∀ w1, (clOld V4.drew).C w1 → Below V4.heap.size V4 w1) := fun w1 hC => old_end (Below.refl _ _) hC (Nat.le_refl _)
  have HA32 : Hid (a < 32) := by rw [Hid]; omega
  refine wp_region_old 7 104 (by kernel_rfl) (by kernel_rfl) (by rfl) ?_
  simp only [List.take_succ_cons, List.take_zero, List.drop_succ_cons, List.drop_zero, List.drop_nil]
  refine chain_val (.pointer (some ⟨b10, 0, none⟩)) (fun _ _ => Below.refl _ _) rfl (by intro cs b h; cases h) (by kernel_rfl) (by kernel_rfl) (fun w1 _ => by simp [execOp, evE, lk_cons, lk_nil, slotL, go_sem]) ?_
  refine chain_load (.int .i64 a) _ _ _ (fun _ _ => Below.refl _ _) rfl rfl (by kernel_rfl) (by kernel_rfl) rfl (fun w1 hC => load_i64 ((F1.out.below (HOWD.out w1 hC)).cell rfl)) ?_
  refine chain_val (.pointer (some ⟨b10, 1, none⟩)) (fun _ _ => Below.refl _ _) rfl (by intro cs b h; cases h) (by kernel_rfl) (by kernel_rfl) (fun w1 _ => by simp [execOp, evE, lk_cons, lk_nil, slotL, go_sem]) ?_
  refine chain_load (.int .i64 0) _ _ _ (fun _ _ => Below.refl _ _) rfl rfl (by kernel_rfl) (by kernel_rfl) rfl (fun w1 hC => load_i64 ((F1.out.below (HOWD.out w1 hC)).cell rfl)) ?_
  refine chain_idx (.pointer (some ⟨g14, a * 8, none⟩)) _ _ _ (.pointer (some ⟨g14, 0, none⟩)) (.int .i64 a) (fun _ _ => Below.refl _ _) rfl rfl (by kernel_rfl) (by kernel_rfl) rfl rfl (fun w1 => idx_cm _ _ HA32.out w1) ?_
  refine chain_idx (.pointer (some ⟨g14, a * 8 + 0 * 4, none⟩)) _ _ _ (.pointer (some ⟨g14, a * 8, none⟩)) (.int .i64 0) (fun _ _ => Below.refl _ _) rfl rfl (by kernel_rfl) (by kernel_rfl) rfl rfl (fun w1 => idx_cm2 _ _ 0 (by omega) w1) ?_
  refine chain_val (.pointer (some ⟨g14, a * 8 + 3, none⟩)) (fun _ _ => Below.refl _ _) rfl (by intro cs b h; cases h) (by kernel_rfl) (by kernel_rfl) (fun w1 _ => by simp [execOp, evE, lk_cons, lk_nil, slotL, go_sem]) ?_
  refine chain_end (by rfl) ?_
  intro xs w2 hCw2 hrew2
  simp only [layE, List.foldr_cons, List.foldr_nil, List.set_cons_succ, List.set_cons_zero]
  have hb1 := HOWD.out w2 hCw2
  replace HC := Lib.hid (HC.out.below hb1)
  replace HW := Lib.hid (HW.out.below hb1)
  replace HQ := Lib.hid (HQ.out.below hb1)
  replace F1 := Lib.hid (F1.out.below hb1)
  replace F2 := Lib.hid (F2.out.below hb1)
  replace FB := Lib.hid (FB.out.trans (hb1.mono FB.out.size))
  clear hb1 HOWD hCw2 hrew2
  have hg0 : (List.replicate 64 zeroS)[plI (a, 0)]? = some zeroS := by rw [List.getElem?_replicate, if_pos (by unfold plI; have := HA32.out; omega)]
  have d0 := HC.out.cell (i := a * 8 + 3) (by have h := cmV_get hg0 (j := 3) (u := .bool false) rfl; rw [show plI (a, 0) * 4 + 3 = a * 8 + 3 by unfold plI; omega] at h; exact h)
  have f0 := HC.out.frozen (a * 8 + 3)
  have HC5 : Hid (Blk (w2.setCell ⟨g14, a * 8 + 3, none⟩ (.bool true)) g14 (cmV ((List.replicate 64 zeroS).set (plI (a, 0)) ⟨0, 0, 0, true⟩)) 110) := by
    have h := HC.out.set_ (a * 8 + 3) (.bool true)
    have h2 := cmV_set3 _ _ _ hg0
    rw [show plI (a, 0) * 4 + 3 = a * 8 + 3 by unfold plI; omega] at h2
    rw [h2] at h; exact h
  have o5 : Only g14 w2 (w2.setCell ⟨g14, a * 8 + 3, none⟩ (.bool true)) := (Only.refl _ w2).set_ _ _
  have HW5 := Lib.hid (HW.out.only o5 (Nat.ne_of_lt HNE.out.1))
  have HQ5 := Lib.hid (HQ.out.only o5 HNE.out.2.2)
  have F15 := Lib.hid (F1.out.only o5 (by have := HNE.out; have := HBB.out; omega))
  have F25 := Lib.hid (F2.out.only o5 (by have := HNE.out; omega))
  have FB5 : Hid (Below w.heap.size w (w2.setCell ⟨g14, a * 8 + 3, none⟩ (.bool true))) := FB.out.setCell (by have := HNE.out; have := HBB.out; show w.heap.size ≤ g14; omega) _
  clear HC HW HQ F1 F2 FB o5 hg0
  go_wp2_with fail
  go_step3
  have HS0 : Hid (Srch ts cuts a (b, cuts) none ((List.replicate 64 zeroS).set (plI (a, 0)) ⟨0, 0, 0, true⟩) [(a, 0)]) := .init
  have HU0 : Hid (undone ((List.replicate 64 zeroS).set (plI (a, 0)) ⟨0, 0, 0, true⟩) + 1 = 64) := by
    have h := undone_take (c := List.replicate 64 zeroS) (h := (0, 0)) (k := 0) (nx := (a, 0)) (by rw [List.length_replicate]; unfold plI; have := HA32.out; omega) (by unfold doneB; rw [List.getElem?_replicate, if_pos (by unfold plI; have := HA32.out; omega)]; rfl)
    have h2 : undone (List.replicate 64 zeroS) = 64 := by decide
    rw [h2] at h; exact h
  have HM0 : Hid (SM w b10 b11 g12' g14 a b cuts ts ((List.replicate 64 zeroS).set (plI (a, 0)) ⟨0, 0, 0, true⟩) [(a, 0)] v13 (w2.setCell ⟨g14, a * 8 + 3, none⟩ (.bool true))) := ⟨HQ5.out, HC5.out, HW5.out, F15.out, F25.out, FB5.out, HNE.out.2.2⟩
  clear HC5 HW5 HQ5 F15 F25 FB5 d0 f0
  go_wp2_with fail
  go_loopg [13] 64 (fun gk t13 wr => ∃ (c : List StepD) (q : List Plc), Hid (Srch ts cuts a (b, cuts) none c q) ∧ Hid (undone c + q.length = gk ∧ gk ≤ 64) ∧ Hid (SM w b10 b11 g12' g14 a b cuts ts c q t13 wr))
  case atStart => exact ⟨_, _, HS0, ⟨HU0.out, Nat.le_refl _⟩, HM0⟩
  case round =>
    clear HS0 HU0 HM0
    obtain ⟨c, q, HSR, HUN, HMM⟩ := hrel
    have HSK := Lib.hid (HSR.out.ok HV.out ha)
    obtain ⟨gq, oq, kq, rfl, HQC0⟩ := HMM.out.que.cell
    have HQC := Lib.hid HQC0
    clear HQC0
    cases q with
    | nil =>
      have HFN : Hid (Fnd ts cuts a (b, cuts) c) := .inl HSR.out
      simp only [List.length_nil] at HMM ⊢
      have HLEN := Lib.hid (HSK.out.len)
      have hgl : ∃ s, c[plI (b, cuts)]? = some s := ⟨_, List.getElem?_eq_getElem (by rw [HLEN.out]; exact pl_lt hn hc hb (Nat.le_refl _))⟩
      obtain ⟨sl, hsl⟩ := hgl
      have HDN : Hid (doneB c (b, cuts) = sl.done) := by unfold doneB; rw [hsl]; rfl
      obtain ⟨st, sn, sc, dn⟩ := sl
      simp only at HDN
      have HCD : Hid ((cmV c)[b * 8 + cuts * 4 + 3]? = some (.bool dn)) := by have h := cmV_get hsl (j := 3) (u := .bool dn) rfl; rw [show plI (b, cuts) * 4 + 3 = b * 8 + cuts * 4 + 3 by unfold plI; omega] at h; exact h
      have HB32 : Hid (b < 32 ∧ cuts < 2) := ⟨by omega, by omega⟩
      clear hsl
      go_upto_region 17 with (fail)
      have HOWD : Hid (∀ w1, (clOld wr.drew).C w1 → Below wr.heap.size wr w1) := fun w1 hC => old_end (Below.refl _ _) hC (Nat.le_refl _)
      refine wp_region_old 8 104 (by kernel_rfl) (by kernel_rfl) (by rfl) ?_
      simp only [List.take_succ_cons, List.take_zero, List.drop_succ_cons, List.drop_zero, List.drop_nil]
      refine chain_val (.pointer (some ⟨b11, 0, none⟩)) (fun _ _ => Below.refl _ _) rfl (by intro cs b h; cases h) (by kernel_rfl) (by kernel_rfl) (fun w1 _ => by simp [execOp, evE, lk_cons, lk_nil, slotL, go_sem]) ?_
      refine chain_load (.int .i64 b) _ _ _ (fun _ _ => Below.refl _ _) rfl rfl (by kernel_rfl) (by kernel_rfl) rfl (fun w1 hC => load_i64 ((HMM.out.f2.below (HOWD.out w1 hC)).cell rfl)) ?_
      refine chain_val (.pointer (some ⟨b11, 1, none⟩)) (fun _ _ => Below.refl _ _) rfl (by intro cs b h; cases h) (by kernel_rfl) (by kernel_rfl) (fun w1 _ => by simp [execOp, evE, lk_cons, lk_nil, slotL, go_sem]) ?_
      refine chain_load (.int .i64 cuts) _ _ _ (fun _ _ => Below.refl _ _) rfl rfl (by kernel_rfl) (by kernel_rfl) rfl (fun w1 hC => load_i64 ((HMM.out.f2.below (HOWD.out w1 hC)).cell rfl)) ?_
      refine chain_idx (.pointer (some ⟨g14, b * 8, none⟩)) _ _ _ (.pointer (some ⟨g14, 0, none⟩)) (.int .i64 b) (fun _ _ => Below.refl _ _) rfl rfl (by kernel_rfl) (by kernel_rfl) rfl rfl (fun w1 => idx_cm _ _ HB32.out.1 w1) ?_
      refine chain_idx (.pointer (some ⟨g14, b * 8 + cuts * 4, none⟩)) _ _ _ (.pointer (some ⟨g14, b * 8, none⟩)) (.int .i64 cuts) (fun _ _ => Below.refl _ _) rfl rfl (by kernel_rfl) (by kernel_rfl) rfl rfl (fun w1 => idx_cm2 _ _ _ HB32.out.2 w1) ?_
      refine chain_val (.pointer (some ⟨g14, b * 8 + cuts * 4 + 3, none⟩)) (fun _ _ => Below.refl _ _) rfl (by intro cs b h; cases h) (by kernel_rfl) (by kernel_rfl) (fun w1 _ => by simp [execOp, evE, lk_cons, lk_nil, slotL, go_sem]) ?_
      refine chain_load (.bool dn) _ _ _ (fun _ _ => Below.refl _ _) rfl rfl (by kernel_rfl) (by kernel_rfl) rfl (fun w1 hC => load_bool ((HMM.out.cm.below (HOWD.out w1 hC)).cell HCD.out)) ?_
      refine chain_end (by rfl) ?_
      intro xs w7 hCw7 hrew7
      simp only [layE, List.foldr_cons, List.foldr_nil, List.set_cons_succ, List.set_cons_zero]
      replace HMM := Lib.hid (HMM.out.below (HOWD.out w7 hCw7))
      clear HOWD hCw7 hrew7 HCD
      have c0 := HMM.out.f1.cell (i := 0) rfl
      have c1 := HMM.out.f1.cell (i := 1) rfl
      have e0 := HMM.out.f2.cell (i := 0) rfl
      have e1 := HMM.out.f2.cell (i := 1) rfl
      cases dn with
      | false =>
        go_wp2_with fail
        (first | rw [Exit.noGoto_ret] | skip)
        refine bodyPost_ret (v := .tuple #[.slice none 0 0, .bool false]) (by simp [results, Tryz.results65, go_sem]) rfl ?_
        exact ⟨c, HFN.out, .inl ⟨HDN.out, rfl⟩, HMM.out.old⟩
      | true =>
        go_wp2_with (first | (go_at_call 97; go_loud (refine (HBK.out _ _ c HMM.out.old HFN.out HDN.out HMM.out.cm).mono ?_; rintro e w8 ⟨u, rfl, hbp, hb⟩; have HBP := Lib.hid hbp; have HB8 := Lib.hid (HMM.out.old.trans (hb.mono HMM.out.old.size)); clear hbp hb c0 c1 e0 e1)))
        (first | rw [Exit.noGoto_ret] | skip)
        refine bodyPost_ret (v := .tuple #[u, .bool true]) (by simp [results, Tryz.results65, go_sem]) rfl ?_
        exact ⟨c, HFN.out, .inr ⟨HDN.out, u, rfl, HBP.out⟩, HB8.out⟩
    | cons h q' =>
      obtain ⟨hv', hk'⟩ := h
      have q0 : wr.cell? ⟨gq, oq, none⟩ = some (.int .i64 hv') := HQC.out 0 _ rfl
      have q1 : wr.cell? ⟨gq, oq + 1, none⟩ = some (.int .i64 hk') := HQC.out 1 _ rfl
      have HQT := Lib.hid HMM.out.que.tail
      have HPOP : Hid (Srch ts cuts a (b, cuts) (some ((hv', hk'), 0)) c q') := .pop HSR.out
      have HUP : Hid (undone c + q'.length + 1 = gk) := by have h := HUN.out.1; rw [List.length_cons] at h; exact h
      have HGK : Hid (gk ≤ 64) := HUN.out.2
      simp only [List.length_cons] at *
      clear HQC
      go_upto_region 7 with (fail)
      go_upto_region 8 with (fail)
      have HVN : Hid (∀ B, gq ≠ B → (Value.slice (if kq = 1 then some ⟨gq, oq, none⟩ else some ⟨gq, oq + 2, none⟩) q'.length (kq - 1)).ownBlock ≠ some B) := fun B hB => by
        by_cases h1 : kq = 1
        · rw [if_pos h1]; simpa [Value.ownBlock] using hB
        · rw [if_neg h1]; simpa [Value.ownBlock] using hB
      have hgq1 : gq ≠ g14 := fun e => HMM.out.ne (by simp [Value.ownBlock, e])
      have hgq2 : gq < wr.heap.size := (HMM.out.que.lt gq (by simp [Value.ownBlock])).2
      have HN14 := Lib.hid (HVN.out g14 hgq1)
      have HN15 := Lib.hid (HVN.out wr.heap.size (Nat.ne_of_lt hgq2))
      generalize hvv : Value.slice (if kq = 1 then some (⟨gq, oq, none⟩ : Addr) else some ⟨gq, oq + 2, none⟩) q'.length (kq - 1) = v' at HQT HN14 HN15 ⊢
      have HQT2 : Hid (QRow wr (b11 + 1) 102 2 v' q'.length (qvL q')) := HQT.out
      have HLTS : Hid (g14 < wr.heap.size ∧ b11 < wr.heap.size) := ⟨HMM.out.cm.lt, HMM.out.f2.lt⟩
      refine named (fun V => Hid (SM w b10 b11 g12' g14 a b cuts ts c q' v' V) ∧ Hid (Blk V wr.heap.size [.int .i64 hv', .int .i64 hk'] 102)) ?_ ?_
      · have hb : Below wr.heap.size wr (wr.alloc (.cells #[.int .i64 hv', .int .i64 hk'] 102)) := (Below.refl _ _).alloc (Nat.le_refl _) _
        have h := HMM.out.below hb
        exact ⟨⟨HQT2.out.below hb, h.cm, h.wy, h.f1, h.f2, h.old, HN14.out⟩, Blk.new wr _ _⟩
      rintro V8 ⟨HM8, H15⟩
      generalize hb15 : wr.heap.size = b15 at HN15 H15 HLTS ⊢
      have HHV := Lib.hid ((HPOP.out.ok HV.out ha).here _ _ rfl)
      obtain ⟨KG, hKG⟩ : ∃ KG, KG = gk - 1 := ⟨_, rfl⟩
      have HKG : Hid (KG < gk) := by rw [Hid, hKG]; have := HUP.out; omega
      replace HUP : Hid (undone c + q'.length = KG) := by rw [Hid, hKG]; have := HUP.out; omega
      clear hb15 hKG hvv HVN hgq1 hgq2 HQT HQT2 HMM HSR HUN HSK q0 q1 HN14
      go_wp2_with fail
      go_loopg [13, 46] m (fun gk t13 t46 wr => ∃ (k : Nat) (c : List StepD) (q : List Plc), k + gk = m ∧ t46 = .int .i64 k ∧ Hid (Srch ts cuts a (b, cuts) (some ((hv', hk'), k)) c q) ∧ Hid (undone c + q.length = KG) ∧ Hid (SM w b10 b11 g12' g14 a b cuts ts c q t13 wr) ∧ Hid (Blk wr b15 [.int .i64 hv', .int .i64 hk'] 102) ∧ Hid (t13.ownBlock ≠ some b15))
      case atStart => exact ⟨0, c, q', by omega, rfl, HPOP, HUP, HM8, H15, HN15⟩
      case round =>
        clear HPOP HUP HM8 H15 HN15
        obtain ⟨k, c, q, hkg, rfl, HSR, HUN, HMM, H15, HN15⟩ := hrel
        by_cases hlt : k < m
        · have hkl : k < ts.length := by rw [← HM.out]; exact hlt
          have HSK := Lib.hid (HSR.out.ok HV.out ha)
          have HKL : Hid (k < ts.length) := hkl
          obtain ⟨t, ht⟩ : ∃ t, t = ts[k] := ⟨_, rfl⟩
          have HTV : Hid (tieB t n = true) := by rw [ht]; exact HV.out _ (List.getElem_mem hkl)
          have HTK : Hid (ts[k]? = some t) := by rw [ht]; exact List.getElem?_eq_getElem hkl
          obtain ⟨GC0, GC1⟩ := wyL_get HTK.out
          have w0c := HMM.out.wy.cell (i := k * 2) (by rw [Nat.mul_comm]; exact GC0)
          have w1c := HMM.out.wy.cell (i := k * 2 + 1) (by rw [Nat.mul_comm]; exact GC1)
          have p0c := H15.out.cell (i := 0) rfl
          have p1c := H15.out.cell (i := 1) rfl
          have hcu := cutI_le t
          have HNX : Hid (∀ W, Calls Tryz.prog 96 #[.agg #[.func (.func 116) #[tieV t] #[], .int .i64 (cutI t)], .agg #[.int .i64 hv', .int .i64 hk']] W fun e w' => e = .returned (.tuple #[.agg #[.int .i64 (othF t hv').1, .int .i64 (hk' + cutI t)], .bool (othF t hv').2]) ∧ Below W.heap.size W w') := fun W => next_any t (cutI t) hv' hk' W hcu (by have := HHV.out; omega)
          have HOTH : Hid ((othF t hv').2 = true → 0 ≤ (othF t hv').1 ∧ (othF t hv').1 < n) := fun h => oth_in HTV.out (p := (othF t hv').1) (by rw [← h])
          have HOE : Hid (othF t hv' = ((othF t hv').1, (othF t hv').2)) := rfl
          obtain ⟨o1, ho1⟩ : ∃ o1, o1 = (othF t hv').1 := ⟨_, rfl⟩
          obtain ⟨is, his⟩ : ∃ is, is = (othF t hv').2 := ⟨_, rfl⟩
          rw [← ho1, ← his] at HNX HOTH HOE
          obtain ⟨k2, hk2⟩ : ∃ k2, k2 = hk' + cutN t := ⟨_, rfl⟩
          have hk2i : (hk' : Int) + cutI t = (k2 : Int) := by rw [hk2, ← cutN_I]; omega
          rw [hk2i] at HNX
          have HK2 : Hid (k2 = hk' + cutN t ∧ k2 ≤ 2) := ⟨hk2, by have h1 := HHV.out; have h2 := cutN_I t; omega⟩
          have t1 : decide (k < m) = true := decide_eq_true hlt
          generalize tieV t = TV at *
          generalize cutI t = CI at *
          clear ht hkl hcu ho1 his hk2 hk2i GC0 GC1 p0c p1c
          go_upto_region 11 with (fail)
          have hbA : Below wr.heap.size wr (wr.alloc (.cells #[.func (.func 116) #[TV] #[], .int .i64 CI] 113)) := (Below.refl _ _).alloc (Nat.le_refl _) _
          refine named (fun V => Hid (SM w b10 b11 g12' g14 a b cuts ts c q u13 V) ∧ Hid (Blk V b15 [.int .i64 hv', .int .i64 hk'] 102) ∧ Hid (Blk V wr.heap.size [.func (.func 116) #[TV] #[], .int .i64 CI] 113)) ⟨HMM.out.below hbA, H15.out.below hbA, Blk.new wr _ _⟩ ?_
          clear HMM H15 w0c w1c hbA
          rintro V11 ⟨HMM, H15, H17⟩
          generalize hb17 : wr.heap.size = b17 at H17 ⊢
          clear hb17
          have w0c := H17.out.cell (i := 0) rfl
          have w1c := H17.out.cell (i := 1) rfl
          have p0c := H15.out.cell (i := 0) rfl
          have p1c := H15.out.cell (i := 1) rfl
          go_upto_region 12 with (first | (go_at_call 96; go_loud (refine (HNX.out _).mono ?_; rintro e w11 ⟨rfl, hb⟩; clear HNX w0c w1c p0c p1c H17; replace HMM := Lib.hid (HMM.out.below hb); replace H15 := Lib.hid (H15.out.below hb); clear hb)))
          have hbA : Below w11.heap.size w11 (w11.alloc (.cells #[.int .i64 o1, .int .i64 k2] 102)) := (Below.refl _ _).alloc (Nat.le_refl _) _
          have HL18 : Hid (b15 < w11.heap.size ∧ g14 < w11.heap.size ∧ b11 < w11.heap.size ∧ u13.ownBlock ≠ some w11.heap.size) := ⟨H15.out.lt, HMM.out.cm.lt, HMM.out.f2.lt, fun e => Nat.lt_irrefl _ (HMM.out.que.lt _ e).2⟩
          refine named (fun V => Hid (SM w b10 b11 g12' g14 a b cuts ts c q u13 V) ∧ Hid (Blk V b15 [.int .i64 hv', .int .i64 hk'] 102) ∧ Hid (Blk V w11.heap.size [.int .i64 o1, .int .i64 k2] 102)) ⟨HMM.out.below hbA, H15.out.below hbA, Blk.new w11 _ _⟩ ?_
          clear HMM H15 hbA
          rintro V12 ⟨HMM, H15, H18⟩
          generalize hb18 : w11.heap.size = b18 at H18 HL18 ⊢
          clear hb18
          have HOWD : Hid (∀ w1, (clOld V12.drew).C w1 → Below V12.heap.size V12 w1) := fun w1 hC => old_end (Below.refl _ _) hC (Nat.le_refl _)
          cases is with
          | false =>
            have HSKP : Hid (Srch ts cuts a (b, cuts) (some ((hv', hk'), k + 1)) c q) := .skip HSR.out HKL.out (fun nx ⟨t', h1, h2, _⟩ => by
              rw [HTK.out] at h1
              injection h1 with h1
              subst h1
              rw [HOE.out] at h2
              injection h2 with _ h2
              cases h2)
            refine wp_region_old 18 104 (by kernel_rfl) (by kernel_rfl) (by rfl) ?_
            simp only [List.take_succ_cons, List.take_zero, List.drop_succ_cons, List.drop_zero, List.drop_nil]
            refine chain_move (.bool false) _ (fun _ _ => Below.refl _ _) rfl rfl (by kernel_rfl) (by kernel_rfl) rfl ?_
            refine chain_un (.bool true) _ _ _ (.bool false) (fun _ _ => Below.refl _ _) rfl rfl (by kernel_rfl) (by kernel_rfl) rfl (fun w => un_not _ w) ?_
            refine chain_move (.bool true) _ (fun _ _ => Below.refl _ _) rfl rfl (by kernel_rfl) (by kernel_rfl) rfl ?_
            refine chain_skip rfl (by kernel_rfl) ?_
            refine chain_skip rfl (by kernel_rfl) ?_
            refine chain_skip rfl (by kernel_rfl) ?_
            refine chain_skip rfl (by kernel_rfl) ?_
            refine chain_pick (.bool true) _ _ _ true (fun _ _ => Below.refl _ _) rfl rfl (by kernel_rfl) (by kernel_rfl) rfl rfl ?_
            refine chain_move (.bool true) _ (fun _ _ => Below.refl _ _) rfl rfl (by kernel_rfl) (by kernel_rfl) rfl ?_
            refine chain_skip rfl (by kernel_rfl) ?_
            refine chain_skip rfl (by kernel_rfl) ?_
            refine chain_skip rfl (by kernel_rfl) ?_
            refine chain_skip rfl (by kernel_rfl) ?_
            refine chain_skip rfl (by kernel_rfl) ?_
            refine chain_skip rfl (by kernel_rfl) ?_
            refine chain_skip rfl (by kernel_rfl) ?_
            refine chain_skip rfl (by kernel_rfl) ?_
            refine chain_pick (.bool true) _ _ _ true (fun _ _ => Below.refl _ _) rfl rfl (by kernel_rfl) (by kernel_rfl) rfl rfl ?_
            refine chain_end (by rfl) ?_
            intro xs w5 hCw5 hrew5
            simp only [layE, List.foldr_cons, List.foldr_nil, List.set_cons_succ, List.set_cons_zero]
            replace HMM := Lib.hid (HMM.out.below (HOWD.out w5 hCw5))
            replace H15 := Lib.hid (H15.out.below (HOWD.out w5 hCw5))
            clear HOWD hCw5 hrew5
            go_wp2_with fail
            go_roundg (gk - 1)
            case measure => omega
            case rel => exact ⟨k + 1, c, q, by omega, by simp, HSKP, HUN, HMM, H15, HN15⟩
          | true =>
            obtain ⟨p, hp⟩ : ∃ p : Nat, o1 = p := ⟨o1.toNat, by have := HOTH.out rfl; omega⟩
            subst hp
            have HPN : Hid (p < n) := by have := HOTH.out rfl; rw [Hid]; omega
            by_cases hcut : cuts < k2
            · have HSKP : Hid (Srch ts cuts a (b, cuts) (some ((hv', hk'), k + 1)) c q) := .skip HSR.out HKL.out (fun nx ⟨t', h1, h2, h3, h4, _⟩ => by
                rw [HTK.out] at h1
                injection h1 with h1
                subst h1
                have := HK2.out.1
                simp only at h3
                omega)
              have HCT : Hid (decide ((cuts : Int) < (k2 : Int)) = true) := decide_eq_true (by omega)
              clear hcut
              refine wp_region_old 18 104 (by kernel_rfl) (by kernel_rfl) (by rfl) ?_
              simp only [List.take_succ_cons, List.take_zero, List.drop_succ_cons, List.drop_zero, List.drop_nil]
              refine chain_move (.bool true) _ (fun _ _ => Below.refl _ _) rfl rfl (by kernel_rfl) (by kernel_rfl) rfl ?_
              refine chain_un (.bool false) _ _ _ (.bool true) (fun _ _ => Below.refl _ _) rfl rfl (by kernel_rfl) (by kernel_rfl) rfl (fun w => un_not _ w) ?_
              refine chain_move (.bool false) _ (fun _ _ => Below.refl _ _) rfl rfl (by kernel_rfl) (by kernel_rfl) rfl ?_
              refine chain_val (.pointer (some ⟨b18, 1, none⟩)) (fun _ _ => Below.refl _ _) rfl (by intro cs b h; cases h) (by kernel_rfl) (by kernel_rfl) (fun w1 _ => by simp [execOp, evE, lk_cons, lk_nil, slotL, go_sem]) ?_
              refine chain_load (.int .i64 k2) _ _ _ (fun _ _ => Below.refl _ _) rfl rfl (by kernel_rfl) (by kernel_rfl) rfl (fun w1 hC => load_i64 ((H18.out.below (HOWD.out w1 hC)).cell rfl)) ?_
              refine chain_move (.int .i64 cuts) _ (fun _ _ => Below.refl _ _) rfl rfl (by kernel_rfl) (by kernel_rfl) rfl ?_
              refine chain_bin (.bool true) _ _ _ _ _ (.int .i64 k2) (.int .i64 cuts) (fun _ _ => Below.refl _ _) rfl rfl (by kernel_rfl) (by kernel_rfl) rfl rfl (fun w1 => gtr_i _ _ _ _ _ _ HCT.out w1) ?_
              refine chain_pick (.bool true) _ _ _ false (fun _ _ => Below.refl _ _) rfl rfl (by kernel_rfl) (by kernel_rfl) rfl rfl ?_
              refine chain_move (.bool true) _ (fun _ _ => Below.refl _ _) rfl rfl (by kernel_rfl) (by kernel_rfl) rfl ?_
              refine chain_skip rfl (by kernel_rfl) ?_
              refine chain_skip rfl (by kernel_rfl) ?_
              refine chain_skip rfl (by kernel_rfl) ?_
              refine chain_skip rfl (by kernel_rfl) ?_
              refine chain_skip rfl (by kernel_rfl) ?_
              refine chain_skip rfl (by kernel_rfl) ?_
              refine chain_skip rfl (by kernel_rfl) ?_
              refine chain_skip rfl (by kernel_rfl) ?_
              refine chain_pick (.bool true) _ _ _ true (fun _ _ => Below.refl _ _) rfl rfl (by kernel_rfl) (by kernel_rfl) rfl rfl ?_
              refine chain_end (by rfl) ?_
              intro xs w5 hCw5 hrew5
              simp only [layE, List.foldr_cons, List.foldr_nil, List.set_cons_succ, List.set_cons_zero]
              replace HMM := Lib.hid (HMM.out.below (HOWD.out w5 hCw5))
              replace H15 := Lib.hid (H15.out.below (HOWD.out w5 hCw5))
              clear HOWD hCw5 hrew5
              go_wp2_with fail
              go_roundg (gk - 1)
              case measure => omega
              case rel => exact ⟨k + 1, c, q, by omega, by simp, HSKP, HUN, HMM, H15, HN15⟩
            · have HCT : Hid (decide ((cuts : Int) < (k2 : Int)) = false) := decide_eq_false (by omega)
              have HKC : Hid (k2 ≤ cuts) := by rw [Hid]; omega
              have hpl : plI (p, k2) < c.length := by rw [HSK.out.len]; exact pl_lt hn hc HPN.out HKC.out
              obtain ⟨sl, hsl⟩ : ∃ s, c[plI (p, k2)]? = some s := ⟨_, List.getElem?_eq_getElem hpl⟩
              have HPL : Hid (plI (p, k2) < c.length) := hpl
              have HDN : Hid (doneB c (p, k2) = sl.done) := by unfold doneB; rw [hsl]; rfl
              have HSL : Hid (c[plI (p, k2)]? = some sl) := hsl
              obtain ⟨st, sn, sc, dn⟩ := sl
              simp only at HDN
              have HI4 : Hid (plI (p, k2) * 4 = p * 8 + k2 * 4) := by unfold plI; rw [Hid]; omega
              have HCD : Hid ((cmV c)[p * 8 + k2 * 4 + 3]? = some (.bool dn)) := by have h := cmV_get hsl (j := 3) (u := .bool dn) rfl; rw [HI4.out] at h; exact h
              have HP32 : Hid (p < 32 ∧ k2 < 2) := ⟨by have := HPN.out; omega, by have := HKC.out; omega⟩
              clear hcut hpl hsl
              cases dn with
              | true =>
                have HSKP : Hid (Srch ts cuts a (b, cuts) (some ((hv', hk'), k + 1)) c q) := .skip HSR.out HKL.out (fun nx ⟨t', h1, h2, h3, h4, h5⟩ => by
                  rw [HTK.out] at h1
                  injection h1 with h1
                  subst h1
                  rw [HOE.out] at h2
                  injection h2 with h2 _
                  have h6 : nx = (p, k2) := by
                    obtain ⟨n1, n2⟩ := nx
                    have h7 := HK2.out.1
                    simp only at h2 h3
                    rw [show n1 = p by omega, show n2 = k2 by omega]
                  rw [h6, HDN.out] at h5; cases h5)
                refine wp_region_old 18 104 (by kernel_rfl) (by kernel_rfl) (by rfl) ?_
                simp only [List.take_succ_cons, List.take_zero, List.drop_succ_cons, List.drop_zero, List.drop_nil]
                refine chain_move (.bool true) _ (fun _ _ => Below.refl _ _) rfl rfl (by kernel_rfl) (by kernel_rfl) rfl ?_
                refine chain_un (.bool false) _ _ _ (.bool true) (fun _ _ => Below.refl _ _) rfl rfl (by kernel_rfl) (by kernel_rfl) rfl (fun w => un_not _ w) ?_
                refine chain_move (.bool false) _ (fun _ _ => Below.refl _ _) rfl rfl (by kernel_rfl) (by kernel_rfl) rfl ?_
                refine chain_val (.pointer (some ⟨b18, 1, none⟩)) (fun _ _ => Below.refl _ _) rfl (by intro cs b h; cases h) (by kernel_rfl) (by kernel_rfl) (fun w1 _ => by simp [execOp, evE, lk_cons, lk_nil, slotL, go_sem]) ?_
                refine chain_load (.int .i64 k2) _ _ _ (fun _ _ => Below.refl _ _) rfl rfl (by kernel_rfl) (by kernel_rfl) rfl (fun w1 hC => load_i64 ((H18.out.below (HOWD.out w1 hC)).cell rfl)) ?_
                refine chain_move (.int .i64 cuts) _ (fun _ _ => Below.refl _ _) rfl rfl (by kernel_rfl) (by kernel_rfl) rfl ?_
                refine chain_bin (.bool false) _ _ _ _ _ (.int .i64 k2) (.int .i64 cuts) (fun _ _ => Below.refl _ _) rfl rfl (by kernel_rfl) (by kernel_rfl) rfl rfl (fun w1 => gtr_i _ _ _ _ _ _ HCT.out w1) ?_
                refine chain_pick (.bool false) _ _ _ false (fun _ _ => Below.refl _ _) rfl rfl (by kernel_rfl) (by kernel_rfl) rfl rfl ?_
                refine chain_move (.bool false) _ (fun _ _ => Below.refl _ _) rfl rfl (by kernel_rfl) (by kernel_rfl) rfl ?_
                refine chain_val (.pointer (some ⟨b18, 0, none⟩)) (fun _ _ => Below.refl _ _) rfl (by intro cs b h; cases h) (by kernel_rfl) (by kernel_rfl) (fun w1 _ => by simp [execOp, evE, lk_cons, lk_nil, slotL, go_sem]) ?_
                refine chain_load (.int .i64 p) _ _ _ (fun _ _ => Below.refl _ _) rfl rfl (by kernel_rfl) (by kernel_rfl) rfl (fun w1 hC => load_i64 ((H18.out.below (HOWD.out w1 hC)).cell rfl)) ?_
                refine chain_val (.pointer (some ⟨b18, 1, none⟩)) (fun _ _ => Below.refl _ _) rfl (by intro cs b h; cases h) (by kernel_rfl) (by kernel_rfl) (fun w1 _ => by simp [execOp, evE, lk_cons, lk_nil, slotL, go_sem]) ?_
                refine chain_load (.int .i64 k2) _ _ _ (fun _ _ => Below.refl _ _) rfl rfl (by kernel_rfl) (by kernel_rfl) rfl (fun w1 hC => load_i64 ((H18.out.below (HOWD.out w1 hC)).cell rfl)) ?_
                refine chain_idx (.pointer (some ⟨g14, p * 8, none⟩)) _ _ _ (.pointer (some ⟨g14, 0, none⟩)) (.int .i64 p) (fun _ _ => Below.refl _ _) rfl rfl (by kernel_rfl) (by kernel_rfl) rfl rfl (fun w1 => idx_cm _ _ HP32.out.1 w1) ?_
                refine chain_idx (.pointer (some ⟨g14, p * 8 + k2 * 4, none⟩)) _ _ _ (.pointer (some ⟨g14, p * 8, none⟩)) (.int .i64 k2) (fun _ _ => Below.refl _ _) rfl rfl (by kernel_rfl) (by kernel_rfl) rfl rfl (fun w1 => idx_cm2 _ _ _ HP32.out.2 w1) ?_
                refine chain_val (.pointer (some ⟨g14, p * 8 + k2 * 4 + 3, none⟩)) (fun _ _ => Below.refl _ _) rfl (by intro cs b h; cases h) (by kernel_rfl) (by kernel_rfl) (fun w1 _ => by simp [execOp, evE, lk_cons, lk_nil, slotL, go_sem]) ?_
                refine chain_load (.bool true) _ _ _ (fun _ _ => Below.refl _ _) rfl rfl (by kernel_rfl) (by kernel_rfl) rfl (fun w1 hC => load_bool ((HMM.out.cm.below (HOWD.out w1 hC)).cell HCD.out)) ?_
                refine chain_pick (.bool true) _ _ _ false (fun _ _ => Below.refl _ _) rfl rfl (by kernel_rfl) (by kernel_rfl) rfl rfl ?_
                refine chain_end (by rfl) ?_
                intro xs w5 hCw5 hrew5
                simp only [layE, List.foldr_cons, List.foldr_nil, List.set_cons_succ, List.set_cons_zero]
                replace HMM := Lib.hid (HMM.out.below (HOWD.out w5 hCw5))
                replace H15 := Lib.hid (H15.out.below (HOWD.out w5 hCw5))
                clear HOWD hCw5 hrew5
                go_wp2_with fail
                go_roundg (gk - 1)
                case measure => omega
                case rel => exact ⟨k + 1, c, q, by omega, by simp, HSKP, HUN, HMM, H15, HN15⟩
              | false =>
                refine wp_region_old 18 104 (by kernel_rfl) (by kernel_rfl) (by rfl) ?_
                simp only [List.take_succ_cons, List.take_zero, List.drop_succ_cons, List.drop_zero, List.drop_nil]
                refine chain_move (.bool true) _ (fun _ _ => Below.refl _ _) rfl rfl (by kernel_rfl) (by kernel_rfl) rfl ?_
                refine chain_un (.bool false) _ _ _ (.bool true) (fun _ _ => Below.refl _ _) rfl rfl (by kernel_rfl) (by kernel_rfl) rfl (fun w => un_not _ w) ?_
                refine chain_move (.bool false) _ (fun _ _ => Below.refl _ _) rfl rfl (by kernel_rfl) (by kernel_rfl) rfl ?_
                refine chain_val (.pointer (some ⟨b18, 1, none⟩)) (fun _ _ => Below.refl _ _) rfl (by intro cs b h; cases h) (by kernel_rfl) (by kernel_rfl) (fun w1 _ => by simp [execOp, evE, lk_cons, lk_nil, slotL, go_sem]) ?_
                refine chain_load (.int .i64 k2) _ _ _ (fun _ _ => Below.refl _ _) rfl rfl (by kernel_rfl) (by kernel_rfl) rfl (fun w1 hC => load_i64 ((H18.out.below (HOWD.out w1 hC)).cell rfl)) ?_
                refine chain_move (.int .i64 cuts) _ (fun _ _ => Below.refl _ _) rfl rfl (by kernel_rfl) (by kernel_rfl) rfl ?_
                refine chain_bin (.bool false) _ _ _ _ _ (.int .i64 k2) (.int .i64 cuts) (fun _ _ => Below.refl _ _) rfl rfl (by kernel_rfl) (by kernel_rfl) rfl rfl (fun w1 => gtr_i _ _ _ _ _ _ HCT.out w1) ?_
                refine chain_pick (.bool false) _ _ _ false (fun _ _ => Below.refl _ _) rfl rfl (by kernel_rfl) (by kernel_rfl) rfl rfl ?_
                refine chain_move (.bool false) _ (fun _ _ => Below.refl _ _) rfl rfl (by kernel_rfl) (by kernel_rfl) rfl ?_
                refine chain_val (.pointer (some ⟨b18, 0, none⟩)) (fun _ _ => Below.refl _ _) rfl (by intro cs b h; cases h) (by kernel_rfl) (by kernel_rfl) (fun w1 _ => by simp [execOp, evE, lk_cons, lk_nil, slotL, go_sem]) ?_
                refine chain_load (.int .i64 p) _ _ _ (fun _ _ => Below.refl _ _) rfl rfl (by kernel_rfl) (by kernel_rfl) rfl (fun w1 hC => load_i64 ((H18.out.below (HOWD.out w1 hC)).cell rfl)) ?_
                refine chain_val (.pointer (some ⟨b18, 1, none⟩)) (fun _ _ => Below.refl _ _) rfl (by intro cs b h; cases h) (by kernel_rfl) (by kernel_rfl) (fun w1 _ => by simp [execOp, evE, lk_cons, lk_nil, slotL, go_sem]) ?_
                refine chain_load (.int .i64 k2) _ _ _ (fun _ _ => Below.refl _ _) rfl rfl (by kernel_rfl) (by kernel_rfl) rfl (fun w1 hC => load_i64 ((H18.out.below (HOWD.out w1 hC)).cell rfl)) ?_
                refine chain_idx (.pointer (some ⟨g14, p * 8, none⟩)) _ _ _ (.pointer (some ⟨g14, 0, none⟩)) (.int .i64 p) (fun _ _ => Below.refl _ _) rfl rfl (by kernel_rfl) (by kernel_rfl) rfl rfl (fun w1 => idx_cm _ _ HP32.out.1 w1) ?_
                refine chain_idx (.pointer (some ⟨g14, p * 8 + k2 * 4, none⟩)) _ _ _ (.pointer (some ⟨g14, p * 8, none⟩)) (.int .i64 k2) (fun _ _ => Below.refl _ _) rfl rfl (by kernel_rfl) (by kernel_rfl) rfl rfl (fun w1 => idx_cm2 _ _ _ HP32.out.2 w1) ?_
                refine chain_val (.pointer (some ⟨g14, p * 8 + k2 * 4 + 3, none⟩)) (fun _ _ => Below.refl _ _) rfl (by intro cs b h; cases h) (by kernel_rfl) (by kernel_rfl) (fun w1 _ => by simp [execOp, evE, lk_cons, lk_nil, slotL, go_sem]) ?_
                refine chain_load (.bool false) _ _ _ (fun _ _ => Below.refl _ _) rfl rfl (by kernel_rfl) (by kernel_rfl) rfl (fun w1 hC => load_bool ((HMM.out.cm.below (HOWD.out w1 hC)).cell HCD.out)) ?_
                refine chain_pick (.bool false) _ _ _ false (fun _ _ => Below.refl _ _) rfl rfl (by kernel_rfl) (by kernel_rfl) rfl rfl ?_
                refine chain_end (by rfl) ?_
                intro xs w5 hCw5 hrew5
                simp only [layE, List.foldr_cons, List.foldr_nil, List.set_cons_succ, List.set_cons_zero]
                replace HMM := Lib.hid (HMM.out.below (HOWD.out w5 hCw5))
                replace H15 := Lib.hid (H15.out.below (HOWD.out w5 hCw5))
                replace H18 := Lib.hid (H18.out.below (HOWD.out w5 hCw5))
                clear HOWD hCw5 hrew5
                have HTKS : Hid (Takes ts cuts c (hv', hk') k (p, k2)) := ⟨t, HTK.out, HOE.out, HK2.out.1, HKC.out, HDN.out⟩
                go_upto_region 13 with (fail)
                have HOWD : Hid (∀ w1, (clOld w5.drew).C w1 → Below w5.heap.size w5 w1) := fun w1 hC => old_end (Below.refl _ _) hC (Nat.le_refl _)
                refine wp_region_old 9 104 (by kernel_rfl) (by kernel_rfl) (by rfl) ?_
                simp only [List.take_succ_cons, List.take_zero, List.drop_succ_cons, List.drop_zero, List.drop_nil]
                refine chain_val (.pointer (some ⟨b18, 0, none⟩)) (fun _ _ => Below.refl _ _) rfl (by intro cs b h; cases h) (by kernel_rfl) (by kernel_rfl) (fun w1 _ => by simp [execOp, evE, lk_cons, lk_nil, slotL, go_sem]) ?_
                refine chain_load (.int .i64 p) _ _ _ (fun _ _ => Below.refl _ _) rfl rfl (by kernel_rfl) (by kernel_rfl) rfl (fun w1 hC => load_i64 ((H18.out.below (HOWD.out w1 hC)).cell rfl)) ?_
                refine chain_val (.pointer (some ⟨b18, 1, none⟩)) (fun _ _ => Below.refl _ _) rfl (by intro cs b h; cases h) (by kernel_rfl) (by kernel_rfl) (fun w1 _ => by simp [execOp, evE, lk_cons, lk_nil, slotL, go_sem]) ?_
                refine chain_load (.int .i64 k2) _ _ _ (fun _ _ => Below.refl _ _) rfl rfl (by kernel_rfl) (by kernel_rfl) rfl (fun w1 hC => load_i64 ((H18.out.below (HOWD.out w1 hC)).cell rfl)) ?_
                refine chain_move (.int .i64 k) _ (fun _ _ => Below.refl _ _) rfl rfl (by kernel_rfl) (by kernel_rfl) rfl ?_
                refine chain_load (.agg #[.int .i64 hv', .int .i64 hk']) _ _ _ (fun _ _ => Below.refl _ _) rfl rfl (by kernel_rfl) (by kernel_rfl) rfl (fun w1 hC => load_pl ((H15.out.below (HOWD.out w1 hC)).cell rfl) ((H15.out.below (HOWD.out w1 hC)).cell rfl)) ?_
                refine chain_val (.agg #[.int .i64 k, .int .i64 hv', .int .i64 hk', .bool true]) (fun _ _ => Below.refl _ _) rfl (by intro cs b h; cases h) (by kernel_rfl) (by kernel_rfl) (fun w1 _ => by simp [execOp, evE, lk_cons, lk_nil, slotL, go_sem]) ?_
                refine chain_idx (.pointer (some ⟨g14, p * 8, none⟩)) _ _ _ (.pointer (some ⟨g14, 0, none⟩)) (.int .i64 p) (fun _ _ => Below.refl _ _) rfl rfl (by kernel_rfl) (by kernel_rfl) rfl rfl (fun w1 => idx_cm _ _ HP32.out.1 w1) ?_
                refine chain_idx (.pointer (some ⟨g14, p * 8 + k2 * 4, none⟩)) _ _ _ (.pointer (some ⟨g14, p * 8, none⟩)) (.int .i64 k2) (fun _ _ => Below.refl _ _) rfl rfl (by kernel_rfl) (by kernel_rfl) rfl rfl (fun w1 => idx_cm2 _ _ _ HP32.out.2 w1) ?_
                refine chain_end (by rfl) ?_
                intro xs w6 hCw6 hrew6
                simp only [layE, List.foldr_cons, List.foldr_nil, List.set_cons_succ, List.set_cons_zero]
                replace HMM := Lib.hid (HMM.out.below (HOWD.out w6 hCw6))
                replace H15 := Lib.hid (H15.out.below (HOWD.out w6 hCw6))
                replace H18 := Lib.hid (H18.out.below (HOWD.out w6 hCw6))
                clear HOWD hCw6 hrew6
                have d0 := HMM.out.cm.cell (i := p * 8 + k2 * 4) (by have h := cmV_get HSL.out (j := 0) rfl; rw [HI4.out] at h; exact h)
                have d1 := HMM.out.cm.cell (i := p * 8 + k2 * 4 + 1) (by have h := cmV_get HSL.out (j := 1) rfl; rw [HI4.out] at h; exact h)
                have d2 := HMM.out.cm.cell (i := p * 8 + k2 * 4 + 2) (by have h := cmV_get HSL.out (j := 2) rfl; rw [HI4.out] at h; exact h)
                have d3 := HMM.out.cm.cell (i := p * 8 + k2 * 4 + 3) HCD.out
                have f0 := HMM.out.cm.frozen (p * 8 + k2 * 4)
                have f1 := HMM.out.cm.frozen (p * 8 + k2 * 4 + 1)
                have f2 := HMM.out.cm.frozen (p * 8 + k2 * 4 + 2)
                have f3 := HMM.out.cm.frozen (p * 8 + k2 * 4 + 3)
                go_upto_region 14 with (fail)
                refine named (fun V => Hid (SM w b10 b11 g12' g14 a b cuts ts (came c (hv', hk') k (p, k2)) q u13 V) ∧ Hid (Blk V b15 [.int .i64 hv', .int .i64 hk'] 102) ∧ Hid (Blk V b18 [.int .i64 p, .int .i64 k2] 102)) ?_ ?_
                · have o1 : Only g14 w6 ((((w6.setCell ⟨g14, p * 8 + k2 * 4, none⟩ (.int .i64 k)).setCell ⟨g14, p * 8 + k2 * 4 + 1, none⟩ (.int .i64 hv')).setCell ⟨g14, p * 8 + k2 * 4 + 2, none⟩ (.int .i64 hk')).setCell ⟨g14, p * 8 + k2 * 4 + 3, none⟩ (.bool true)) := ((((Only.refl _ w6).set_ _ _).set_ _ _).set_ _ _).set_ _ _
                  have hq9 : w.heap.size ≤ g14 := by have h1 := HBB.out; have h2 := HNE.out; omega
                  have hcm := (((HMM.out.cm.set_ (p * 8 + k2 * 4) (.int .i64 k)).set_ (p * 8 + k2 * 4 + 1) (.int .i64 hv')).set_ (p * 8 + k2 * 4 + 2) (.int .i64 hk')).set_ (p * 8 + k2 * 4 + 3) (.bool true)
                  have hst := cmV_set c (plI (p, k2)) ⟨k, hv', hk', true⟩ HPL.out
                  rw [HI4.out] at hst
                  simp only at hst
                  rw [hst] at hcm
                  exact ⟨⟨HMM.out.que.only o1 HMM.out.ne, hcm, HMM.out.wy.only o1 (by have := HNE.out; omega), HMM.out.f1.only o1 (by have := HNE.out; have := HBB.out; omega), HMM.out.f2.only o1 (by have := HNE.out; omega), (((HMM.out.old.setCell hq9 _).setCell hq9 _).setCell hq9 _).setCell hq9 _, HMM.out.ne⟩, H15.out.only o1 (by have := HLTS.out; omega), H18.out.only o1 (by have := HL18.out; omega)⟩
                clear HMM H15 H18 d0 d1 d2 d3 f0 f1 f2 f3 HCD HSL
                rintro V14 ⟨HMM, H15, H18⟩
                by_cases hlast : p = b ∧ k2 = cuts
                · skip
                  obtain ⟨rfl, rfl⟩ : p = b ∧ k2 = cuts := hlast
                  obtain ⟨c2, hc2⟩ : ∃ c2, c2 = came c (hv', hk') k (p, k2) := ⟨_, rfl⟩
                  have HFN : Hid (Fnd ts k2 a (p, k2) c2) := .inr ⟨(hv', hk'), k, c, q, HSR.out, HKL.out, HTKS.out, hc2⟩
                  have HLEN : Hid (c2.length = 64) := by rw [hc2, Hid]; unfold came; rw [List.length_set]; exact HSK.out.len
                  rw [← hc2] at HMM
                  clear hc2
                  have c0 := H18.out.cell (i := 0) rfl
                  have c1 := H18.out.cell (i := 1) rfl
                  have e0 := HMM.out.f2.cell (i := 0) rfl
                  have e1 := HMM.out.f2.cell (i := 1) rfl
                  have hgl : ∃ s, c2[plI (p, k2)]? = some s := ⟨_, List.getElem?_eq_getElem (by rw [HLEN.out]; exact pl_lt hn hc hb (Nat.le_refl _))⟩
                  obtain ⟨sl, hsl⟩ := hgl
                  have HDN : Hid (doneB c2 (p, k2) = sl.done) := by unfold doneB; rw [hsl]; rfl
                  obtain ⟨st, sn, sc, dn⟩ := sl
                  simp only at HDN
                  have HCD : Hid ((cmV c2)[p * 8 + k2 * 4 + 3]? = some (.bool dn)) := by have h := cmV_get hsl (j := 3) (u := .bool dn) rfl; rw [show plI (p, k2) * 4 + 3 = p * 8 + k2 * 4 + 3 by unfold plI; omega] at h; exact h
                  have HB32 : Hid (p < 32 ∧ k2 < 2) := ⟨by omega, by omega⟩
                  clear hsl
                  go_upto_region 17 with (fail)
                  clear c0 c1 e0 e1
                  have HOWD : Hid (∀ w1, (clOld V14.drew).C w1 → Below V14.heap.size V14 w1) := fun w1 hC => old_end (Below.refl _ _) hC (Nat.le_refl _)
                  refine wp_region_old 8 104 (by kernel_rfl) (by kernel_rfl) (by rfl) ?_
                  simp only [List.take_succ_cons, List.take_zero, List.drop_succ_cons, List.drop_zero, List.drop_nil]
                  refine chain_val (.pointer (some ⟨b11, 0, none⟩)) (fun _ _ => Below.refl _ _) rfl (by intro cs b h; cases h) (by kernel_rfl) (by kernel_rfl) (fun w1 _ => by simp [execOp, evE, lk_cons, lk_nil, slotL, go_sem]) ?_
                  refine chain_load (.int .i64 p) _ _ _ (fun _ _ => Below.refl _ _) rfl rfl (by kernel_rfl) (by kernel_rfl) rfl (fun w1 hC => load_i64 ((HMM.out.f2.below (HOWD.out w1 hC)).cell rfl)) ?_
                  refine chain_val (.pointer (some ⟨b11, 1, none⟩)) (fun _ _ => Below.refl _ _) rfl (by intro cs b h; cases h) (by kernel_rfl) (by kernel_rfl) (fun w1 _ => by simp [execOp, evE, lk_cons, lk_nil, slotL, go_sem]) ?_
                  refine chain_load (.int .i64 k2) _ _ _ (fun _ _ => Below.refl _ _) rfl rfl (by kernel_rfl) (by kernel_rfl) rfl (fun w1 hC => load_i64 ((HMM.out.f2.below (HOWD.out w1 hC)).cell rfl)) ?_
                  refine chain_idx (.pointer (some ⟨g14, p * 8, none⟩)) _ _ _ (.pointer (some ⟨g14, 0, none⟩)) (.int .i64 p) (fun _ _ => Below.refl _ _) rfl rfl (by kernel_rfl) (by kernel_rfl) rfl rfl (fun w1 => idx_cm _ _ HB32.out.1 w1) ?_
                  refine chain_idx (.pointer (some ⟨g14, p * 8 + k2 * 4, none⟩)) _ _ _ (.pointer (some ⟨g14, p * 8, none⟩)) (.int .i64 k2) (fun _ _ => Below.refl _ _) rfl rfl (by kernel_rfl) (by kernel_rfl) rfl rfl (fun w1 => idx_cm2 _ _ _ HB32.out.2 w1) ?_
                  refine chain_val (.pointer (some ⟨g14, p * 8 + k2 * 4 + 3, none⟩)) (fun _ _ => Below.refl _ _) rfl (by intro cs b h; cases h) (by kernel_rfl) (by kernel_rfl) (fun w1 _ => by simp [execOp, evE, lk_cons, lk_nil, slotL, go_sem]) ?_
                  refine chain_load (.bool dn) _ _ _ (fun _ _ => Below.refl _ _) rfl rfl (by kernel_rfl) (by kernel_rfl) rfl (fun w1 hC => load_bool ((HMM.out.cm.below (HOWD.out w1 hC)).cell HCD.out)) ?_
                  refine chain_end (by rfl) ?_
                  intro xs w7 hCw7 hrew7
                  simp only [layE, List.foldr_cons, List.foldr_nil, List.set_cons_succ, List.set_cons_zero]
                  replace HMM := Lib.hid (HMM.out.below (HOWD.out w7 hCw7))
                  clear HOWD hCw7 hrew7 HCD
                  have c0 := HMM.out.f1.cell (i := 0) rfl
                  have c1 := HMM.out.f1.cell (i := 1) rfl
                  have e0 := HMM.out.f2.cell (i := 0) rfl
                  have e1 := HMM.out.f2.cell (i := 1) rfl
                  cases dn with
                  | false =>
                    go_wp2_with fail
                    (first | rw [Exit.noGoto_ret] | skip)
                    refine bodyPost_ret (v := .tuple #[.slice none 0 0, .bool false]) (by simp [results, Tryz.results65, go_sem]) rfl ?_
                    exact ⟨c2, HFN.out, .inl ⟨HDN.out, rfl⟩, HMM.out.old⟩
                  | true =>
                    go_wp2_with (first | (go_at_call 97; go_loud (refine (HBK.out _ _ c2 HMM.out.old HFN.out HDN.out HMM.out.cm).mono ?_; rintro e w8 ⟨u, rfl, hbp, hb⟩; have HBP := Lib.hid hbp; have HB8 := Lib.hid (HMM.out.old.trans (hb.mono HMM.out.old.size)); clear hbp hb c0 c1 e0 e1)))
                    (first | rw [Exit.noGoto_ret] | skip)
                    refine bodyPost_ret (v := .tuple #[u, .bool true]) (by simp [results, Tryz.results65, go_sem]) rfl ?_
                    exact ⟨c2, HFN.out, .inr ⟨HDN.out, u, rfl, HBP.out⟩, HB8.out⟩
                · have HNL : Hid (¬ (p = b ∧ k2 = cuts)) := hlast
                  by_cases hpb : p = b
                  · have tb1 : ((k2 : Int) == (cuts : Int)) = false := by rw [beq_eq_false_iff_ne]; omega
                    have tb2 : (k2 == cuts) = false := by rw [beq_eq_false_iff_ne]; omega
                    clear hlast hpb
                    have HSRT : Hid (Srch ts cuts a (b, cuts) (some ((hv', hk'), k + 1)) (came c (hv', hk') k (p, k2)) (q ++ [(p, k2)])) := .take HSR.out HKL.out HTKS.out (fun e => HNL.out (by injection e with e1 e2; exact ⟨e1, e2⟩))
                    have HUNT : Hid (undone (came c (hv', hk') k (p, k2)) + (q ++ [(p, k2)]).length = KG) := by
                      have h1 := undone_take (h := (hv', hk')) (k := k) HPL.out HDN.out
                      have h2 := HUN.out
                      rw [Hid, List.length_append, List.length_singleton]; omega
                    have HQL : Hid (q.length ≤ 2000) := by rw [Hid]; have h2 := HUN.out; have h3 := HKG.out; have h4 := HGK.out; omega
                    have hbA : Below V14.heap.size V14 (V14.alloc (.cells #[.int .i64 p, .int .i64 k2] 102)) := (Below.refl _ _).alloc (Nat.le_refl _) _
                    have HMA := Lib.hid (HMM.out.below hbA)
                    have H15A := Lib.hid (H15.out.below hbA)
                    have HNEW := Lib.hid (Blk.new V14 [.int .i64 p, .int .i64 k2] 102)
                    have HSZ : Hid (b11 + 1 ≤ (V14.alloc (.cells #[.int .i64 p, .int .i64 k2] 102)).heap.size) := HMA.out.f2.lt
                    have c0 := H18.out.cell (i := 0) rfl
                    have c1 := H18.out.cell (i := 1) rfl
                    have e0 := HMM.out.f2.cell (i := 0) rfl
                    have e1 := HMM.out.f2.cell (i := 1) rfl
                    obtain ⟨i0, hi0, hz0, hz1, hz2⟩ := info_parts infoP
                    clear hbA
                    go_wp2_with (first | (at_builtin; go_loud (obtain ⟨v2, w9, hr, hq, hgrow, hob⟩ := run_append_q (P := Tryz.prog) (V14.alloc (.cells #[.int .i64 p, .int .i64 k2] 102)) (b11 + 1) 105 105 102 i0 _ 2 16 Tryz.underlying105 hi0 hz0 hz1 hz2 rfl (by decide) _ q.length (qvL q) HMA.out.que ⟨V14.heap.size, 0, none⟩ 1 1 [.int .i64 p, .int .i64 k2] (by omega) rfl (pl_cells HNEW.out) (by simp [Value.oneCell']) (by simp only [maxLen]; have := HQL.out; omega) (by have := HQL.out; omega) HSZ.out; refine Lib.wpList_append_run _ rfl _ _ _ _ rfl _ _ rfl rfl _ _ hr ?_; clear hr; have K9 : Hid (SM w b10 b11 g12' g14 a b cuts ts (came c (hv', hk') k (p, k2)) (q ++ [(p, k2)]) v2 w9 ∧ Blk w9 b15 [.int .i64 hv', .int .i64 hk'] 102 ∧ v2.ownBlock ≠ some b15) := sm_append HMA.out H15A.out HN15.out hq hgrow hob (by have := HBB.out; omega); clear hq hgrow hob)))
                    go_roundg (gk - 1)
                    case measure => omega
                    case rel => exact ⟨k + 1, _, _, by omega, by simp, HSRT, HUNT, K9.out.1, K9.out.2.1, K9.out.2.2⟩
                  · have tb1 : ((p : Int) == (b : Int)) = false := by rw [beq_eq_false_iff_ne]; omega
                    have tb2 : (p == b) = false := by rw [beq_eq_false_iff_ne]; exact hpb
                    clear hlast hpb
                    have HSRT : Hid (Srch ts cuts a (b, cuts) (some ((hv', hk'), k + 1)) (came c (hv', hk') k (p, k2)) (q ++ [(p, k2)])) := .take HSR.out HKL.out HTKS.out (fun e => HNL.out (by injection e with e1 e2; exact ⟨e1, e2⟩))
                    have HUNT : Hid (undone (came c (hv', hk') k (p, k2)) + (q ++ [(p, k2)]).length = KG) := by
                      have h1 := undone_take (h := (hv', hk')) (k := k) HPL.out HDN.out
                      have h2 := HUN.out
                      rw [Hid, List.length_append, List.length_singleton]; omega
                    have HQL : Hid (q.length ≤ 2000) := by rw [Hid]; have h2 := HUN.out; have h3 := HKG.out; have h4 := HGK.out; omega
                    have hbA : Below V14.heap.size V14 (V14.alloc (.cells #[.int .i64 p, .int .i64 k2] 102)) := (Below.refl _ _).alloc (Nat.le_refl _) _
                    have HMA := Lib.hid (HMM.out.below hbA)
                    have H15A := Lib.hid (H15.out.below hbA)
                    have HNEW := Lib.hid (Blk.new V14 [.int .i64 p, .int .i64 k2] 102)
                    have HSZ : Hid (b11 + 1 ≤ (V14.alloc (.cells #[.int .i64 p, .int .i64 k2] 102)).heap.size) := HMA.out.f2.lt
                    have c0 := H18.out.cell (i := 0) rfl
                    have c1 := H18.out.cell (i := 1) rfl
                    have e0 := HMM.out.f2.cell (i := 0) rfl
                    have e1 := HMM.out.f2.cell (i := 1) rfl
                    obtain ⟨i0, hi0, hz0, hz1, hz2⟩ := info_parts infoP
                    clear hbA
                    go_wp2_with (first | (at_builtin; go_loud (obtain ⟨v2, w9, hr, hq, hgrow, hob⟩ := run_append_q (P := Tryz.prog) (V14.alloc (.cells #[.int .i64 p, .int .i64 k2] 102)) (b11 + 1) 105 105 102 i0 _ 2 16 Tryz.underlying105 hi0 hz0 hz1 hz2 rfl (by decide) _ q.length (qvL q) HMA.out.que ⟨V14.heap.size, 0, none⟩ 1 1 [.int .i64 p, .int .i64 k2] (by omega) rfl (pl_cells HNEW.out) (by simp [Value.oneCell']) (by simp only [maxLen]; have := HQL.out; omega) (by have := HQL.out; omega) HSZ.out; refine Lib.wpList_append_run _ rfl _ _ _ _ rfl _ _ rfl rfl _ _ hr ?_; clear hr; have K9 : Hid (SM w b10 b11 g12' g14 a b cuts ts (came c (hv', hk') k (p, k2)) (q ++ [(p, k2)]) v2 w9 ∧ Blk w9 b15 [.int .i64 hv', .int .i64 hk'] 102 ∧ v2.ownBlock ≠ some b15) := sm_append HMA.out H15A.out HN15.out hq hgrow hob (by have := HBB.out; omega); clear hq hgrow hob)))
                    go_roundg (gk - 1)
                    case measure => omega
                    case rel => exact ⟨k + 1, _, _, by omega, by simp, HSRT, HUNT, K9.out.1, K9.out.2.1, K9.out.2.2⟩
        · have e : m = k := by omega
          subst e
          have t1 : decide (m < m) = false := by simp
          have HNXT : Hid (Srch ts cuts a (b, cuts) none c q) := by have h := HSR.out; rw [HM.out] at h; exact .next h
          go_wp2_with fail
          go_roundg KG
          case measure => exact HKG.out
          case rel => exact ⟨c, q, HNXT, ⟨HUN.out, by have h1 := HKG.out; have h2 := HGK.out; omega⟩, HMM⟩
end Go.Proofs.YthjeiaildabadaaGreat
