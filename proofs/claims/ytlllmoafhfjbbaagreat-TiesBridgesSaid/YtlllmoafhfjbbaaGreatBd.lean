/- Layer 4: CheckChain; a graph without one tie. -/
import Derived.Test.YtlllmoafhfjbbaaGreatBc
import Derived.Test.YtlllmoafhfjbbaaGreatEu
namespace Go.Proofs.YtlllmoafhfjbbaaGreat
set_option linter.unusedSimpArgs false
set_option linter.unusedVariables false
open Go Go.RowKit

def chnF (ts : List TieD) (l : List Int) (x y c : Int) : Int := if leadF ts l (x, 0) == some (y, c) then 0 else 42
set_option maxRecDepth 100000 in
set_option maxHeartbeats 2000000 in
theorem checkWalk_any (n : Int) (a : Option Addr) (cap cq : Nat) (ts : List TieD) (r : Option Addr) (l : List Int) (x y c : Int) (w : World) (hl2 : l.length ≤ 1000) (h0 : errA n ts x y = 0) (hs : TiesAt w a ts) (hr : IntsAt w r l) :
    Calls Tryz.prog 36 #[gV n a ts.length cap, .int .i64 x, .int .i64 y, .slice r l.length cq, .int .i64 c] w fun e w' => e = .returned (.int .i64 (chnF ts l x y c)) ∧ Below w.heap.size w w' := by
  obtain ⟨hok, hxy⟩ := errA_ok h0
  obtain ⟨k, rfl, hk1, hk2, hl, hv⟩ := okG_parts hok
  have HP : Hid (∀ W, Below w.heap.size w W → Calls Tryz.prog 35 #[gV k a ts.length cap, .int .i64 x, .int .i64 y] W fun e w' => e = .returned (.int .i64 0) ∧ Below W.heap.size W w') := fun W hb => by
    have h := tPair_any k a cap ts x y W (by omega) (hs.below hb); rw [h0] at h; exact h
  have HBE : Hid (∀ W, Below w.heap.size w W → Calls Tryz.prog 32 #[gV k a ts.length cap] W fun e w' => ∃ g, e = .returned (wkV k a ts.length cap g k) ∧ W.heap.size ≤ g ∧ NB w' g (grpL k ts) ∧ Below W.heap.size W w') := fun W hb => begin_any k a cap ts W hk2 hl hv (hs.below hb)
  have HLD : Hid (∀ W gv, Below w.heap.size w W → Calls Tryz.prog 59 #[.agg #[.int .i64 k, .slice a ts.length cap, gv], .slice r l.length cq, .int .i64 x, .int .i64 y, .int .i64 c] W fun e w' => e = .returned (.bool (leadF ts l (x, 0) == some (y, c))) ∧ Below W.heap.size W w') := fun W gv hb => leads_any k a cap cq ts gv r l x y c W (by omega) hl2 (hs.below hb) (hr.below hb)
  unfold chnF
  obtain ⟨v, hvv⟩ : ∃ v, v = (leadF ts l (x, 0) == some (y, c)) := ⟨_, rfl⟩
  rw [← hvv] at HLD ⊢
  obtain ⟨m, hm⟩ : ∃ m, m = ts.length := ⟨_, rfl⟩
  rw [← hm] at HP HBE HLD ⊢
  obtain ⟨q, hq⟩ : ∃ q, q = l.length := ⟨_, rfl⟩
  rw [← hq] at HLD ⊢
  have HK := Lib.hid (Blk.new w [.int .i64 k, .slice a m cap] 24)
  have HB0 : Hid (Below w.heap.size w (w.alloc (.cells #[.int .i64 k, .slice a m cap] 24))) := (Below.refl _ _).alloc (Nat.le_refl _) _
  clear hm hq hvv hs hr hok hxy h0 hl hv hk1 hk2 hl2
  simp only [gV, wkV] at HP HBE ⊢
  cases v with
  | true =>
    go_enter Tryz.func36, Tryz.ntmps36
    go_wp2_with (first | (go_at_call 35; refine (HP.out _ HB0.out).mono ?_; rintro e w1 ⟨rfl, hb⟩; clear HP; have HK1 := Lib.hid (HK.out.below hb); have HB1 := Lib.hid (HB0.out.trans (hb.mono HB0.out.size)); clear hb; have c0 := HK1.out.cell (i := 0) rfl; have c1 := HK1.out.cell (i := 1) rfl) | (go_at_call 32; refine (HBE.out _ HB1.out).mono ?_; rintro e w2 ⟨g, rfl, _, _, hb⟩; clear HBE c0 c1; have HB2 := Lib.hid (HB1.out.trans (hb.mono HB1.out.size)); clear hb) | (go_at_call 59; refine (HLD.out _ _ HB2.out).mono ?_; rintro e w3 ⟨rfl, hb⟩; clear HLD; have HB3 := Lib.hid (HB2.out.trans (hb.mono HB2.out.size)); clear hb))
    go_ret
    exact ⟨rfl, HB3.out⟩
  | false =>
    go_enter Tryz.func36, Tryz.ntmps36
    go_wp2_with (first | (go_at_call 35; refine (HP.out _ HB0.out).mono ?_; rintro e w1 ⟨rfl, hb⟩; clear HP; have HK1 := Lib.hid (HK.out.below hb); have HB1 := Lib.hid (HB0.out.trans (hb.mono HB0.out.size)); clear hb; have c0 := HK1.out.cell (i := 0) rfl; have c1 := HK1.out.cell (i := 1) rfl) | (go_at_call 32; refine (HBE.out _ HB1.out).mono ?_; rintro e w2 ⟨g, rfl, _, _, hb⟩; clear HBE c0 c1; have HB2 := Lib.hid (HB1.out.trans (hb.mono HB1.out.size)); clear hb) | (go_at_call 59; refine (HLD.out _ _ HB2.out).mono ?_; rintro e w3 ⟨rfl, hb⟩; clear HLD; have HB3 := Lib.hid (HB2.out.trans (hb.mono HB2.out.size)); clear hb))
    go_ret
    exact ⟨rfl, HB3.out⟩
set_option maxRecDepth 100000 in
theorem checkChain_any (n : Int) (a : Option Addr) (cap cq : Nat) (ts : List TieD) (r : Option Addr) (l : List Int) (x y : Int) (w : World) (hl2 : l.length ≤ 1000) (h0 : errA n ts x y = 0) (hs : TiesAt w a ts) (hr : IntsAt w r l) :
    Calls Tryz.prog 11 #[gV n a ts.length cap, .int .i64 x, .int .i64 y, .slice r l.length cq] w fun e w' => e = .returned (.int .i64 (chnF ts l x y 0)) ∧ Below w.heap.size w w' := by
  have HW : Hid (∀ W, Below w.heap.size w W → Calls Tryz.prog 36 #[gV n a ts.length cap, .int .i64 x, .int .i64 y, .slice r l.length cq, .int .i64 0] W fun e w' => e = .returned (.int .i64 (chnF ts l x y 0)) ∧ Below W.heap.size W w') := fun W hb => checkWalk_any n a cap cq ts r l x y 0 W hl2 h0 (hs.below hb) (hr.below hb)
  generalize chnF ts l x y 0 = E at *
  generalize ts.length = m at *
  generalize l.length = q at *
  have HB0 : Hid (Below w.heap.size w (w.alloc (.cells #[.int .i64 n, .slice a m cap] 24))) := (Below.refl _ _).alloc (Nat.le_refl _) _
  clear hl2 h0 hs hr
  simp only [gV] at HW ⊢
  go_enter Tryz.func11, Tryz.ntmps11
  go_wp2_with (first | (go_at_call 36; refine (HW.out _ HB0.out).mono ?_; rintro e w1 ⟨rfl, hb⟩; have HB3 := Lib.hid (HB0.out.trans (hb.mono HB0.out.size)); clear hb))
  go_ret
  exact ⟨rfl, HB3.out⟩
set_option maxRecDepth 100000 in
theorem has_any (r : Option Addr) (cq : Nat) (l : List Int) (v : Int) (w : World) (hl : l.length ≤ 100000) (hr : IntsAt w r l) :
    Calls Tryz.prog 10 #[.slice r l.length cq, .int .i64 v] w fun e w' => e = .returned (.bool (decide (v ∈ l))) ∧ Below w.heap.size w w' := by
  have HR := Lib.hid hr
  obtain ⟨q, hq⟩ : ∃ q, q = l.length := ⟨_, rfl⟩
  have HQ := Lib.hid hq
  rw [← hq] at hl ⊢
  clear hr hq
  have HN0 : Hid (decide (v ∈ l.take 0) = false) := by simp [Hid]
  go_enter Tryz.func10, Tryz.ntmps10
  go_wp2_with fail
  go_loopg [5] q (fun gk t5 wr => ∃ j : Nat, j + gk = q ∧ t5 = .int .i64 j ∧ Hid (decide (v ∈ l.take j) = false) ∧ Hid (Below w.heap.size w wr))
  case atStart => exact ⟨0, by omega, rfl, HN0, Below.refl _ _⟩
  case round =>
    clear HN0
    obtain ⟨j, hjg, rfl, HN, HB⟩ := hrel
    by_cases hlt : j < q
    · have hjl : j < l.length := by rw [← HQ.out]; exact hlt
      obtain ⟨lb, lo, rfl, hlb, lc⟩ := (HR.out.below HB.out).at hjl
      have ST : Hid (decide (v ∈ l.take (j + 1)) = (decide (v ∈ l.take j) || decide (v = l[j]))) := by
        rw [Hid, ← List.take_append_getElem hjl, ← Bool.decide_or]
        exact decide_eq_decide.2 (by rw [List.mem_append, List.mem_singleton])
      have HME : Hid (l[j] ∈ l) := List.getElem_mem hjl
      obtain ⟨x, hx⟩ : ∃ x, x = l[j] := ⟨_, rfl⟩
      rw [← hx] at ST HME lc
      clear hx hjl hlb
      have t1 : decide (j < q) = true := decide_eq_true hlt
      rw [HN.out, Bool.false_or] at ST
      cases hc : (x == v) with
      | true =>
        have HT : Hid (decide (v ∈ l) = true) := by
          have : x = v := by simpa using hc
          rw [Hid, ← this]; exact decide_eq_true HME.out
        go_wp2_with fail
        go_ret
        exact ⟨by rw [HT.out]; rfl, HB.out⟩
      | false =>
        have HN2 : Hid (decide (v ∈ l.take (j + 1)) = false) := by
          have : ¬ x = v := by simpa using hc
          rw [Hid, ST.out]; exact decide_eq_false fun h => this h.symm
        go_wp2_with fail
        go_roundg (gk - 1)
        case measure => omega
        case rel => exact ⟨j + 1, by omega, by simp, HN2, HB⟩
    · have e : q = j := by omega
      subst e
      have t1 : decide (q < q) = false := by simp
      have HT : Hid (decide (v ∈ l) = false) := by
        have h := HN.out
        rwa [List.take_of_length_le (by rw [← HQ.out]; omega)] at h
      go_wp2_with fail
      go_ret
      exact ⟨by rw [HT.out]; rfl, HB.out⟩
end Go.Proofs.YtlllmoafhfjbbaaGreat
