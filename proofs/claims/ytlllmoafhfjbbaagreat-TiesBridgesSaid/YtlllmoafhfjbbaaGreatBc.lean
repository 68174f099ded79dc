/- Layer 4: a list of ties as a walk. -/
import Derived.Test.YtlllmoafhfjbbaaGreatBb
import Derived.Test.YtlllmoafhfjbbaaGreatIz
namespace Go.Proofs.YtlllmoafhfjbbaaGreat
set_option linter.unusedSimpArgs false
set_option linter.unusedVariables false
open Go Go.RowKit

/-- One step over the tie with an index: from a node, behind so many cuts. -/
def stepF (ts : List TieD) (p : Int × Int) (i : Int) : Option (Int × Int) :=
  if 0 ≤ i then match ts[i.toNat]? with
    | some t => if (othF t p.1).2 then some ((othF t p.1).1, p.2 + cutI t) else none
    | none => none
  else none
def leadF (ts : List TieD) (l : List Int) (p : Int × Int) : Option (Int × Int) := l.foldlM (stepF ts) p
theorem leadF_step {ts : List TieD} {l : List Int} {p : Int × Int} {j : Nat} (hj : j < l.length) : leadF ts (l.take (j + 1)) p = (leadF ts (l.take j) p).bind fun x => stepF ts x l[j] := by
  unfold leadF
  rw [← List.take_append_getElem hj, List.foldlM_append]
  simp only [List.foldlM_cons, List.foldlM_nil, bind_pure]; rfl
theorem leadF_none {ts : List TieD} {l : List Int} {p : Int × Int} {j : Nat} (h : leadF ts (l.take j) p = none) : leadF ts l p = none := by
  unfold leadF at *
  rw [← List.take_append_drop j l, List.foldlM_append, h]; rfl
theorem stepF_bad {ts : List TieD} {p : Int × Int} {i : Int} (h : ftB i 0 ((ts.length : Int) - 1) = false) : stepF ts p i = none := by
  unfold stepF
  split
  · have : ts[i.toNat]? = none := List.getElem?_eq_none (by
      unfold ftB at h
      simp only [Bool.and_eq_false_iff, decide_eq_false_iff_not] at h
      omega)
    rw [this]
  · rfl
theorem stepF_at {ts : List TieD} {x k : Int} {i : Nat} (hi : i < ts.length) : stepF ts (x, k) (i : Int) = if (othF ts[i] x).2 then some ((othF ts[i] x).1, k + cutI ts[i]) else none := by
  unfold stepF
  rw [if_pos (by omega), Int.toNat_natCast, List.getElem?_eq_getElem hi]
def plE (a b c d : Int) : Bool := decide (a = c ∧ b = d)
theorem eql_pl (t : TypeId) (x y : Operand) (a b c d : Int) (w : World) : (do eqGuard .eql 90 x y (.agg #[.int .i64 a, .int .i64 b]) (.agg #[.int .i64 c, .int .i64 d]); binOp .eql 90 (.agg #[.int .i64 a, .int .i64 b]) (.agg #[.int .i64 c, .int .i64 d]) : Sem Value).run Tryz.prog w = .ok (.bool (plE a b c d)) w := by
  simp [go_sem]
  unfold plE
  by_cases h0 : a = c <;> by_cases h1 : b = d <;> simp [h0, h1]
theorem load_way {w : World} {b o : Nat} {f c : Value} (h0 : w.cell? ⟨b, o, none⟩ = some f) (h1 : w.cell? ⟨b, o + 1, none⟩ = some c) : (Instr.loadAt 101 (.pointer (some ⟨b, o, none⟩))).run Tryz.prog w = .ok (.agg #[f, c]) w := by
  simp [go_sem, Instr.loadAt, h0, h1]
theorem load_pl {w : World} {b o : Nat} {f c : Value} (h0 : w.cell? ⟨b, o, none⟩ = some f) (h1 : w.cell? ⟨b, o + 1, none⟩ = some c) : (Instr.loadAt 90 (.pointer (some ⟨b, o, none⟩))).run Tryz.prog w = .ok (.agg #[f, c]) w := by
  simp [go_sem, Instr.loadAt, h0, h1]
theorem idx_way (b n cap k : Nat) (h : k < n) (w : World) : (Instr.indexAt 91 (.slice (some ⟨b, 0, none⟩) n cap) (.int .i64 k)).run Tryz.prog w = .ok (.pointer (some ⟨b, k * 2, none⟩)) w := by
  simp [go_sem, Instr.indexAt, h]
def zvP : Value := .agg #[.int .i64 0, .int .i64 0]
theorem zero_pl : ∀ w, (zeroValue 90).run Tryz.prog w = .ok zvP w := fun w => by simp [go_sem, zvP]
attribute [local go_sem] eql_pl
set_option maxRecDepth 100000 in
set_option maxHeartbeats 4000000 in
theorem leads_any (n : Int) (a : Option Addr) (cap cq : Nat) (ts : List TieD) (gv : Value) (r : Option Addr) (l : List Int) (x y c : Int) (w : World) (hl : ts.length ≤ 1000) (hl2 : l.length ≤ 1000) (hs : TiesAt w a ts) (hr : IntsAt w r l) :
    Calls Tryz.prog 59 #[.agg #[.int .i64 n, .slice a ts.length cap, gv], .slice r l.length cq, .int .i64 x, .int .i64 y, .int .i64 c] w fun e w' => e = .returned (.bool (leadF ts l (x, 0) == some (y, c))) ∧ Below w.heap.size w w' := by
  have HS := Lib.hid hs
  have HR := Lib.hid hr
  obtain ⟨m, hm⟩ : ∃ m, m = ts.length := ⟨_, rfl⟩
  have HM := Lib.hid hm
  obtain ⟨q, hq⟩ : ∃ q, q = l.length := ⟨_, rfl⟩
  have HQ := Lib.hid hq
  have HWY : Hid (∀ W, Below w.heap.size w W → Calls Tryz.prog 65 #[.agg #[.int .i64 n, .slice a m cap, gv]] W fun e w' => ∃ g, e = .returned (.slice (some ⟨g, 0, none⟩) m m) ∧ Blk w' g (wyL ts) 101 ∧ W.heap.size ≤ g ∧ Below W.heap.size W w') := fun W hb => by rw [hm]; exact ways_any n a cap ts gv W hl (hs.below hb)
  rw [← hm] at hl ⊢
  rw [← hq] at hl2 ⊢
  have HFT : Hid (∀ v W, Calls Tryz.prog 27 #[.int .i64 v, .int .i64 0, .int .i64 ((m : Int) - 1)] W fun e w' => e = .returned (.bool (ftB v 0 ((m : Int) - 1))) ∧ W = w') := fun v W => tFromTo_any v 0 _ W
  clear hs hr hm hq
  have HB0 : Hid (Below w.heap.size w (w.alloc (.cells #[.int .i64 n, .slice a m cap, gv] 63))) := (Below.refl _ _).alloc (Nat.le_refl _) _
  go_enter Tryz.func59, Tryz.ntmps59
  go_upto_region 2 with (first | (go_at_call 65; go_loud (refine (HWY.out _ HB0.out).mono ?_; rintro e w1 ⟨g, rfl, hk, hg, hb⟩; clear HWY; have HG := Lib.hid hk; have HB := Lib.hid (HB0.out.trans (hb.mono HB0.out.size)); have HGE : Hid (w.heap.size ≤ g ∧ g < w1.heap.size) := ⟨Nat.le_trans HB0.out.size hg, hk.lt⟩; clear hk hg hb HB0)))
  refine named (fun V => Hid (Blk V g (wyL ts) 101) ∧ Hid (Blk V w1.heap.size [.int .i64 x, .int .i64 0] 90) ∧ Hid (Below w.heap.size w V)) ?_ ?_
  · exact ⟨HG.out.block (Below.heap_alloc _ _ _ HG.out.lt), Blk.new w1 _ _, HB.out.alloc HB.out.size _⟩
  clear HG HB
  rintro V ⟨HG, HP, HB⟩
  generalize hb12 : w1.heap.size = b12 at HGE HP ⊢
  clear hb12
  have HP0 : Hid (leadF ts (l.take 0) (x, 0) = some (x, 0)) := rfl
  go_wp2_with fail
  go_loopg [23] q (fun gk t23 wr => ∃ j : Nat, j + gk = q ∧ t23 = .int .i64 j ∧ ∃ p k : Int, Hid (leadF ts (l.take j) (x, 0) = some (p, k) ∧ 0 ≤ k ∧ k ≤ j) ∧ Hid (Blk wr g (wyL ts) 101) ∧ Hid (Blk wr b12 [.int .i64 p, .int .i64 k] 90) ∧ Hid (Below w.heap.size w wr))
  case atStart => exact ⟨0, by omega, rfl, x, 0, ⟨HP0.out, by omega, by omega⟩, HG, HP, HB⟩
  case round =>
    clear HG HP HB HP0
    obtain ⟨j, hjg, rfl, p, k, HK, HG, HP, HB⟩ := hrel
    by_cases hlt : j < q
    · have hjl : j < l.length := by rw [← HQ.out]; exact hlt
      obtain ⟨lb, lo, rfl, hlb, lc⟩ := (HR.out.below HB.out).at hjl
      have ST := Lib.hid (leadF_step (ts := ts) (p := (x, 0)) hjl)
      obtain ⟨v, hv⟩ : ∃ v, v = l[j] := ⟨_, rfl⟩
      rw [← hv] at ST lc
      rw [HK.out.1] at ST
      clear hv hjl hlb
      have t1 : decide (j < q) = true := decide_eq_true hlt
      cases hft : ftB v 0 ((m : Int) - 1) with
      | false =>
        have HN : Hid ((leadF ts l (x, 0) == some (y, c)) = false) := by
          have h1 : leadF ts (l.take (j + 1)) (x, 0) = none := by rw [ST.out]; exact stepF_bad (by rw [← HM.out]; exact hft)
          rw [Hid, leadF_none h1]; rfl
        have HF1 : Hid (∀ W, Calls Tryz.prog 27 #[.int .i64 v, .int .i64 0, .int .i64 ((m : Int) - 1)] W fun e w' => e = .returned (.bool false) ∧ W = w') := fun W => by rw [← hft]; exact HFT.out v W
        clear hft HFT
        go_wp2_with (first | (go_at_call 27; go_loud (refine (HF1.out _).mono ?_; rintro e w3 ⟨rfl, rfl⟩; clear HF1)))
        go_ret
        exact ⟨by rw [HN.out]; rfl, HB.out⟩
      | true =>
        obtain ⟨i, rfl, him⟩ : ∃ i : Nat, v = i ∧ i < m := by
          unfold ftB at hft
          simp only [Bool.and_eq_true, decide_eq_true_eq] at hft
          exact ⟨v.toNat, by omega, by omega⟩
        have hil : i < ts.length := by rw [← HM.out]; exact him
        have ST2 : Hid (leadF ts (l.take (j + 1)) (x, 0) = if (othF ts[i] p).2 then some ((othF ts[i] p).1, k + cutI ts[i]) else none) := by rw [Hid, ST.out]; exact stepF_at hil
        have HF1 : Hid (∀ W, Calls Tryz.prog 27 #[.int .i64 (i : Int), .int .i64 0, .int .i64 ((m : Int) - 1)] W fun e w' => e = .returned (.bool true) ∧ W = w') := fun W => by rw [← hft]; exact HFT.out i W
        have HNX : Hid (∀ W, Calls Tryz.prog 66 #[wayV ts[i], .agg #[.int .i64 p, .int .i64 k]] W fun e w' => e = .returned (.tuple #[.agg #[.int .i64 (othF ts[i] p).1, .int .i64 (k + cutI ts[i])], .bool (othF ts[i] p).2]) ∧ Below W.heap.size W w') := fun W => next_any ts[i] (cutI ts[i]) p k W (cutI_le _) (by have := HK.out.2; omega)
        have HCU := Lib.hid (cutI_le ts[i])
        have GC := Lib.hid (wyL_get (List.getElem?_eq_getElem hil))
        have HIM : Hid (i < m) := him
        obtain ⟨t, htt⟩ : ∃ t, t = ts[i] := ⟨_, rfl⟩
        rw [← htt] at ST2 HNX HCU GC
        clear hft HFT ST htt hil him
        obtain ⟨b, hbb⟩ : ∃ b, b = (othF t p).2 := ⟨_, rfl⟩
        obtain ⟨o1, ho1⟩ : ∃ o1, o1 = (othF t p).1 := ⟨_, rfl⟩
        rw [← hbb, ← ho1] at ST2 HNX
        obtain ⟨k2, hk2⟩ : ∃ k2, k2 = k + cutI t := ⟨_, rfl⟩
        have HK2 : Hid (0 ≤ k2 ∧ k2 ≤ (j : Int) + 1) := by rw [Hid, hk2]; have := HK.out.2; have := HCU.out; omega
        rw [← hk2] at ST2 HNX
        clear hbb ho1 hk2 HCU
        go_upto_region 7 with (first | (go_at_call 27; go_loud (refine (HF1.out _).mono ?_; rintro e w3 ⟨rfl, rfl⟩; clear HF1)))
        have HOWD : Hid (∀ w1, (clOld wr.drew).C w1 → Below wr.heap.size wr w1) := fun w1 hC => old_end (Below.refl _ _) hC (Nat.le_refl _)
        clear lc
        refine wp_region_two (Z := (fun e => if e = 90 then zvP else .bool false)) 11 51 10 11 [8] [90] (by kernel_rfl) (by kernel_rfl) (by kernel_rfl) (by kernel_rfl) (by intro e he w; simp only [List.mem_cons, List.not_mem_nil, or_false] at he; rcases he with rfl <;> first | exact zero_pl w) (by rfl) ?_
        simp only [List.take_succ_cons, List.take_zero, List.eraseIdx_cons_succ, List.eraseIdx_cons_zero]
        refine chain_move (.slice (some ⟨g, 0, none⟩) m m) _ (fun _ _ => Below.refl _ _) rfl rfl (by kernel_rfl) (by kernel_rfl) rfl ?_
        refine chain_move (.int .i64 (i : Int)) _ (fun _ _ => Below.refl _ _) rfl rfl (by kernel_rfl) (by kernel_rfl) rfl ?_
        refine chain_idx (.pointer (some ⟨g, i * 2, none⟩)) _ _ _ (.slice (some ⟨g, 0, none⟩) m m) (.int .i64 (i : Int)) (fun _ _ => Below.refl _ _) rfl rfl (by kernel_rfl) (by kernel_rfl) rfl rfl (fun w1 => idx_way _ _ _ _ HIM.out w1) ?_
        refine chain_load (wayV t) _ _ _ (fun _ _ => Below.refl _ _) rfl rfl (by kernel_rfl) (by kernel_rfl) rfl (fun w1 hC => load_way ((HG.out.below (HOWD.out w1 hC)).cell (by rw [Nat.mul_comm]; exact GC.out.1)) ((HG.out.below (HOWD.out w1 hC)).cell (by rw [Nat.mul_comm]; exact GC.out.2))) ?_
        refine chain_load (.agg #[.int .i64 p, .int .i64 k]) _ _ _ (fun _ _ => Below.refl _ _) rfl rfl (by kernel_rfl) (by kernel_rfl) rfl (fun w1 hC => load_pl ((HP.out.below (HOWD.out w1 hC)).cell rfl) ((HP.out.below (HOWD.out w1 hC)).cell rfl)) ?_
        refine chain_call (.tuple #[.agg #[.int .i64 o1, .int .i64 k2], .bool b]) 66 [wayV t, .agg #[.int .i64 p, .int .i64 k]] _ _ (enters_of Tryz.func66 (by kernel_rfl) rfl) rfl rfl rfl (by kernel_rfl) (by kernel_rfl) rfl rfl (fun w1 hC => HNX.out w1) ?_
        refine chain_move (.tuple #[.agg #[.int .i64 o1, .int .i64 k2], .bool b]) _ (fun _ _ => Below.refl _ _) rfl rfl (by kernel_rfl) (by kernel_rfl) rfl ?_
        refine chain_ext (.agg #[.int .i64 o1, .int .i64 k2]) _ _ (#[.agg #[.int .i64 o1, .int .i64 k2], .bool b]) (fun _ _ => Below.refl _ _) rfl rfl (by kernel_rfl) (by kernel_rfl) rfl rfl ?_
        refine chain_ext (.bool b) _ _ (#[.agg #[.int .i64 o1, .int .i64 k2], .bool b]) (fun _ _ => Below.refl _ _) rfl rfl (by kernel_rfl) (by kernel_rfl) rfl rfl ?_
        refine chain_alloc 90 zvP rfl rfl (by kernel_rfl) (by kernel_rfl) (fun w => zero_pl w) ?_
        refine ⟨_, rfl, by kernel_rfl, ?_⟩
        intro A w1 hC hk hN
        obtain ⟨p9, hx9, hB9, hk9⟩ := hN.1 9 _ _ 15 (by decide) (by rfl) (by rfl) rfl rfl rfl
        have hk9' : Blk w1 p9 [.int .i64 0, .int .i64 0] 90 := hk9
        have d0 := hk9'.cell (i := 0) rfl
        have d1 := hk9'.cell (i := 1) rfl
        have f0 := hk9'.frozen 0
        have f1 := hk9'.frozen 1
        have hb1 := HOWD.out w1 hC
        refine wp_of_skip (w' := (w1.setCell ⟨p9, 0, none⟩ (.int .i64 o1)).setCell ⟨p9, 1, none⟩ (.int .i64 k2)) ?_ ?_
        · rw [execOp_congr _ (by intro cs b h; cases h) (eval_of1 15 (fun x => by kernel_rfl) hk), hx9]
          simp [execOp, evE, lk_cons, lk_nil, go_sem, d0, d1, f0, f1]
        refine ⟨undef, clOld _, [(15, .pointer (some ⟨p9, 0, none⟩))], rfl, Below.refl _ _, fun _ _ h hb => Old.step h hb, ?_, ?_⟩
        · intro pr hpr
          obtain rfl : pr = (15, .pointer (some ⟨p9, 0, none⟩)) := by simpa using hpr
          exact ⟨hx9, by simp, by rfl⟩
        simp only [List.take_succ_cons, List.take_zero, List.drop_succ_cons, List.drop_zero, List.drop_nil, envB, List.map_cons, List.map_nil, List.nil_append, List.cons_append, weak, weak1]
        refine ⟨?_, ?_⟩
        · intro i9 hi9 p' e' hp' he'
          obtain rfl : i9 = 8 := by simpa using hi9
          cases hp'
          cases he'
          exact obl_pure (.bool b) (fun _ _ => Below.refl _ _) (by intro cs b h; cases h) (by kernel_rfl) (by kernel_rfl) rfl (fun w9 _ => by simp [execOp, evE, lk_cons, lk_nil, slotL, go_sem])
        refine chain_end (by rfl) ?_
        intro xs w7 hC7 hre
        have hC7' : Below ((w1.setCell ⟨p9, 0, none⟩ (.int .i64 o1)).setCell ⟨p9, 1, none⟩ (.int .i64 k2)).heap.size ((w1.setCell ⟨p9, 0, none⟩ (.int .i64 o1)).setCell ⟨p9, 1, none⟩ (.int .i64 k2)) w7 := hC7
        have hP9 := Lib.hid (((hk9'.set_ 0 (.int .i64 o1)).set_ 1 (.int .i64 k2)).below hC7')
        have hs9 : Below wr.heap.size wr ((w1.setCell ⟨p9, 0, none⟩ (.int .i64 o1)).setCell ⟨p9, 1, none⟩ (.int .i64 k2)) := (hb1.setCell hB9 _).setCell hB9 _
        have hb7 : Below wr.heap.size wr w7 := hs9.trans (hC7'.mono hs9.size)
        replace HG := Lib.hid (HG.out.below hb7)
        replace HP := Lib.hid (HP.out.below hb7)
        replace HB := Lib.hid (HB.out.trans (hb7.mono HB.out.size))
        simp only [layE, List.foldr_cons, List.foldr_nil, List.set_cons_succ, List.set_cons_zero]
        clear hC7 hC7' hs9 hb7 hre hk9 hk9' d0 d1 f0 f1 hb1 hx9 hk hN hC hB9 HOWD
        cases b with
        | false =>
          have HN : Hid ((leadF ts l (x, 0) == some (y, c)) = false) := by
            have h1 := ST2.out
            rw [if_neg (by simp)] at h1
            rw [Hid, leadF_none h1]; rfl
          go_wp2_with fail
          go_ret
          exact ⟨by rw [HN.out]; rfl, HB.out⟩
        | true =>
          have HN : Hid (leadF ts (l.take (j + 1)) (x, 0) = some (o1, k2)) := by have h1 := ST2.out; rwa [if_pos rfl] at h1
          have e0 := hP9.out.cell (i := 0) rfl
          have e1 := hP9.out.cell (i := 1) rfl
          have d0 := HP.out.cell (i := 0) rfl
          have d1 := HP.out.cell (i := 1) rfl
          have f0 := HP.out.frozen 0
          have f1 := HP.out.frozen 1
          have H8 : Hid (Blk ((w7.setCell ⟨b12, 0, none⟩ (.int .i64 o1)).setCell ⟨b12, 1, none⟩ (.int .i64 k2)) g (wyL ts) 101 ∧ Blk ((w7.setCell ⟨b12, 0, none⟩ (.int .i64 o1)).setCell ⟨b12, 1, none⟩ (.int .i64 k2)) b12 [.int .i64 o1, .int .i64 k2] 90 ∧ Below w.heap.size w ((w7.setCell ⟨b12, 0, none⟩ (.int .i64 o1)).setCell ⟨b12, 1, none⟩ (.int .i64 k2))) := by
            have o9 : Only b12 w7 ((w7.setCell ⟨b12, 0, none⟩ (.int .i64 o1)).setCell ⟨b12, 1, none⟩ (.int .i64 k2)) := ((Only.refl _ w7).set_ 0 _).set_ 1 _
            have hq : w.heap.size ≤ b12 := by have := HGE.out; omega
            exact ⟨HG.out.only o9 (by have := HGE.out; omega), (HP.out.set_ 0 _).set_ 1 _, (HB.out.setCell hq _).setCell hq _⟩
          clear HG HP HB
          go_wp2_with fail
          go_roundg (gk - 1)
          case measure => omega
          case rel => exact ⟨j + 1, by omega, by simp, o1, k2, ⟨HN.out, HK2.out.1, by have := HK2.out.2; omega⟩, H8.out.1, H8.out.2.1, H8.out.2.2⟩
    · have e : q = j := by omega
      subst e
      have t1 : decide (q < q) = false := by simp
      have HN : Hid ((leadF ts l (x, 0) == some (y, c)) = plE p k y c) := by
        have h1 := HK.out.1
        rw [List.take_of_length_le (by rw [← HQ.out]; omega)] at h1
        rw [Hid, h1]
        unfold plE
        by_cases h0 : p = y <;> by_cases h2 : k = c <;> simp [h0, h2]
      have d0 := HP.out.cell (i := 0) rfl
      have d1 := HP.out.cell (i := 1) rfl
      clear HFT
      go_wp2_with fail
      all_goals (
        go_ret
        exact ⟨by rw [HN.out]; (first | rfl | (unfold plE; simp_all)), HB.out⟩)
end Go.Proofs.YtlllmoafhfjbbaaGreat
