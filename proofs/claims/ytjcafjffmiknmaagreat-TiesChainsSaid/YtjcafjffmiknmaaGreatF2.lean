/- Layer 4: CheckChain and CheckWhy, of the specification and of the program where they refuse. -/
import Derived.Test.YtjcafjffmiknmaaGreatF1
namespace Go.Proofs.YtjcafjffmiknmaaGreat
set_option linter.unusedSimpArgs false
set_option linter.unusedVariables false
open Go Go.RowKit

theorem walk_iff {ts : List TieD} {l : List Int} {x y c : Int} (hc : 0 ≤ c) : walkF ts l x y = c ↔ leadF ts l (x, 0) = some (y, c) := by
  unfold walkF
  cases h : leadF ts l (x, 0) with
  | none => simp; omega
  | some p =>
    obtain ⟨v, d⟩ := p
    simp only [Option.some.injEq, Prod.mk.injEq]
    by_cases hv : v = y
    · rw [if_pos hv]; simp [hv]
    · rw [if_neg hv]; simp only [hv, false_and, iff_false]; omega
set_option maxRecDepth 100000 in
set_option maxHeartbeats 2000000 in
theorem rCheckChain_ok (k : Nat) (a : Option Addr) (cap cq : Nat) (ts : List TieD) (r : Option Addr) (l : List Int) (x y : Int) (w : World) (hl2 : l.length ≤ 1000) (h0 : errA k ts x y = 0) (hs : TiesAt w a ts) (hr : IntsAt w r l) :
    Calls Tryz.prog 10 #[gV k a ts.length cap, .int .i64 x, .int .i64 y, .slice r l.length cq] w fun e w' => e = .returned (.int .i64 (chnF ts l x y 0)) ∧ Below w.heap.size w w' := by
  obtain ⟨hok, hxy⟩ := errA_ok h0
  obtain ⟨k', hk', hk1, hk2, hl, hv⟩ := okG_parts hok
  obtain rfl : k = k' := by omega
  unfold ftB at hxy
  simp only [Bool.and_eq_true, decide_eq_true_eq] at hxy
  have HP : Hid (∀ W, Below w.heap.size w W → Calls Tryz.prog 38 #[gV k a ts.length cap, .int .i64 x, .int .i64 y] W fun e w' => e = .returned (.int .i64 0) ∧ Below W.heap.size W w') := fun W hb => by
    have h := rAsked_any k a cap ts x y W (by omega) (hs.below hb); rw [h0] at h; exact h
  have HW : Hid (∀ W, Below w.heap.size w W → Calls Tryz.prog 39 #[gV k a ts.length cap, .int .i64 x, .int .i64 y, .slice r l.length cq] W fun e w' => e = .returned (.int .i64 (walkF ts l x y)) ∧ Below W.heap.size W w') := fun W hb => rWalk_any k a cap cq ts r l x y W hk2 hl hl2 (by omega) hv (hs.below hb) (hr.below hb)
  have hcs : (walkF ts l x y = 0 ∧ chnF ts l x y 0 = 0) ∨ (walkF ts l x y ≠ 0 ∧ chnF ts l x y 0 = 42) := by
    by_cases h : walkF ts l x y = 0
    · exact .inl ⟨h, chn_zero.2 ((walk_iff (by omega)).1 h)⟩
    · exact .inr ⟨h, (chn_two ts l x y 0).resolve_left fun e => h ((walk_iff (by omega)).2 (chn_zero.1 e))⟩
  generalize chnF ts l x y 0 = E at *
  generalize walkF ts l x y = D at *
  generalize ts.length = m at *
  generalize l.length = q at *
  have FB := Lib.hid (FA.new w [.int .i64 k, .slice a m cap])
  clear hl2 h0 hs hr hok hxy hk' hk1 hk2 hl hv
  simp only [gV] at HP HW ⊢
  rcases hcs with ⟨rfl, rfl⟩ | ⟨hd, rfl⟩
  · go_enter Tryz.func10, Tryz.ntmps10
    go_wp2_with (first | (go_at_call 38; go_loud (refine (HP.out _ FB.out.2).mono ?_; rintro e w1 ⟨rfl, hb⟩; clear HP; replace FB := Lib.hid (FB.out.below hb); clear hb; have c0 := FB.out.1.cell (i := 0) rfl; have c1 := FB.out.1.cell (i := 1) rfl)) | (go_at_call 39; go_loud (refine (HW.out _ FB.out.2).mono ?_; rintro e w2 ⟨rfl, hb⟩; clear HW c0 c1; replace FB := Lib.hid (FB.out.below hb); clear hb)))
    go_ret
    exact ⟨rfl, FB.out.2⟩
  · have t1 : (D != 0) = true := by simpa using hd
    clear hd
    go_enter Tryz.func10, Tryz.ntmps10
    go_wp2_with (first | (go_at_call 38; go_loud (refine (HP.out _ FB.out.2).mono ?_; rintro e w1 ⟨rfl, hb⟩; clear HP; replace FB := Lib.hid (FB.out.below hb); clear hb; have c0 := FB.out.1.cell (i := 0) rfl; have c1 := FB.out.1.cell (i := 1) rfl)) | (go_at_call 39; go_loud (refine (HW.out _ FB.out.2).mono ?_; rintro e w2 ⟨rfl, hb⟩; clear HW c0 c1; replace FB := Lib.hid (FB.out.below hb); clear hb)))
    go_ret
    exact ⟨rfl, FB.out.2⟩
set_option maxRecDepth 100000 in
set_option maxHeartbeats 2000000 in
theorem rCheckChain_bad (n : Int) (a : Option Addr) (cap : Nat) (ts : List TieD) (u : Value) (x y : Int) (w : World) (hl : ts.length ≤ 9223372036854775807) (h0 : errA n ts x y ≠ 0) (hs : TiesAt w a ts) :
    Calls Tryz.prog 10 #[gV n a ts.length cap, .int .i64 x, .int .i64 y, u] w fun e w' => e = .returned (.int .i64 (errA n ts x y)) ∧ Below w.heap.size w w' := by
  have HP : Hid (∀ W, Below w.heap.size w W → Calls Tryz.prog 38 #[gV n a ts.length cap, .int .i64 x, .int .i64 y] W fun e w' => e = .returned (.int .i64 (errA n ts x y)) ∧ Below W.heap.size W w') := fun W hb => rAsked_any n a cap ts x y W hl (hs.below hb)
  generalize errA n ts x y = E at *
  generalize ts.length = m at *
  have t1 : (E == 0) = false := by simpa using h0
  have HB0 : Hid (Below w.heap.size w (w.alloc (.cells #[.int .i64 n, .slice a m cap] 24))) := (Below.refl _ _).alloc (Nat.le_refl _) _
  clear hl hs h0
  simp only [gV] at HP ⊢
  go_enter Tryz.func10, Tryz.ntmps10
  go_wp2_with (first | (go_at_call 38; refine (HP.out _ HB0.out).mono ?_; rintro e w1 ⟨rfl, hb⟩; clear HP; have HB1 := Lib.hid (HB0.out.trans (hb.mono HB0.out.size)); clear hb))
  go_ret
  exact ⟨rfl, HB1.out⟩
set_option maxRecDepth 100000 in
set_option maxHeartbeats 2000000 in
theorem rCheckWhy_ok (k : Nat) (a : Option Addr) (cap cq : Nat) (ts : List TieD) (r : Option Addr) (l : List Int) (x y : Int) (w : World) (hl2 : l.length ≤ 1000) (h0 : errA k ts x y = 0) (hs : TiesAt w a ts) (hr : IntsAt w r l) :
    Calls Tryz.prog 12 #[gV k a ts.length cap, .int .i64 x, .int .i64 y, .slice r l.length cq] w fun e w' => e = .returned (.int .i64 (chnF ts l x y 1)) ∧ Below w.heap.size w w' := by
  obtain ⟨hok, hxy⟩ := errA_ok h0
  obtain ⟨k', hk', hk1, hk2, hl, hv⟩ := okG_parts hok
  obtain rfl : k = k' := by omega
  unfold ftB at hxy
  simp only [Bool.and_eq_true, decide_eq_true_eq] at hxy
  have HP : Hid (∀ W, Below w.heap.size w W → Calls Tryz.prog 38 #[gV k a ts.length cap, .int .i64 x, .int .i64 y] W fun e w' => e = .returned (.int .i64 0) ∧ Below W.heap.size W w') := fun W hb => by
    have h := rAsked_any k a cap ts x y W (by omega) (hs.below hb); rw [h0] at h; exact h
  have HW : Hid (∀ W, Below w.heap.size w W → Calls Tryz.prog 39 #[gV k a ts.length cap, .int .i64 x, .int .i64 y, .slice r l.length cq] W fun e w' => e = .returned (.int .i64 (walkF ts l x y)) ∧ Below W.heap.size W w') := fun W hb => rWalk_any k a cap cq ts r l x y W hk2 hl hl2 (by omega) hv (hs.below hb) (hr.below hb)
  have hcs : (walkF ts l x y = 1 ∧ chnF ts l x y 1 = 0) ∨ (walkF ts l x y ≠ 1 ∧ chnF ts l x y 1 = 42) := by
    by_cases h : walkF ts l x y = 1
    · exact .inl ⟨h, chn_zero.2 ((walk_iff (by omega)).1 h)⟩
    · exact .inr ⟨h, (chn_two ts l x y 1).resolve_left fun e => h ((walk_iff (by omega)).2 (chn_zero.1 e))⟩
  generalize chnF ts l x y 1 = E at *
  generalize walkF ts l x y = D at *
  generalize ts.length = m at *
  generalize l.length = q at *
  have FB := Lib.hid (FA.new w [.int .i64 k, .slice a m cap])
  clear hl2 h0 hs hr hok hxy hk' hk1 hk2 hl hv
  simp only [gV] at HP HW ⊢
  rcases hcs with ⟨rfl, rfl⟩ | ⟨hd, rfl⟩
  · go_enter Tryz.func12, Tryz.ntmps12
    go_wp2_with (first | (go_at_call 38; go_loud (refine (HP.out _ FB.out.2).mono ?_; rintro e w1 ⟨rfl, hb⟩; clear HP; replace FB := Lib.hid (FB.out.below hb); clear hb; have c0 := FB.out.1.cell (i := 0) rfl; have c1 := FB.out.1.cell (i := 1) rfl)) | (go_at_call 39; go_loud (refine (HW.out _ FB.out.2).mono ?_; rintro e w2 ⟨rfl, hb⟩; clear HW c0 c1; replace FB := Lib.hid (FB.out.below hb); clear hb)))
    go_ret
    exact ⟨rfl, FB.out.2⟩
  · have t1 : (D != 1) = true := by simpa using hd
    clear hd
    go_enter Tryz.func12, Tryz.ntmps12
    go_wp2_with (first | (go_at_call 38; go_loud (refine (HP.out _ FB.out.2).mono ?_; rintro e w1 ⟨rfl, hb⟩; clear HP; replace FB := Lib.hid (FB.out.below hb); clear hb; have c0 := FB.out.1.cell (i := 0) rfl; have c1 := FB.out.1.cell (i := 1) rfl)) | (go_at_call 39; go_loud (refine (HW.out _ FB.out.2).mono ?_; rintro e w2 ⟨rfl, hb⟩; clear HW c0 c1; replace FB := Lib.hid (FB.out.below hb); clear hb)))
    go_ret
    exact ⟨rfl, FB.out.2⟩
set_option maxRecDepth 100000 in
set_option maxHeartbeats 2000000 in
theorem rCheckWhy_bad (n : Int) (a : Option Addr) (cap : Nat) (ts : List TieD) (u : Value) (x y : Int) (w : World) (hl : ts.length ≤ 9223372036854775807) (h0 : errA n ts x y ≠ 0) (hs : TiesAt w a ts) :
    Calls Tryz.prog 12 #[gV n a ts.length cap, .int .i64 x, .int .i64 y, u] w fun e w' => e = .returned (.int .i64 (errA n ts x y)) ∧ Below w.heap.size w w' := by
  have HP : Hid (∀ W, Below w.heap.size w W → Calls Tryz.prog 38 #[gV n a ts.length cap, .int .i64 x, .int .i64 y] W fun e w' => e = .returned (.int .i64 (errA n ts x y)) ∧ Below W.heap.size W w') := fun W hb => rAsked_any n a cap ts x y W hl (hs.below hb)
  generalize errA n ts x y = E at *
  generalize ts.length = m at *
  have t1 : (E == 0) = false := by simpa using h0
  have HB0 : Hid (Below w.heap.size w (w.alloc (.cells #[.int .i64 n, .slice a m cap] 24))) := (Below.refl _ _).alloc (Nat.le_refl _) _
  clear hl hs h0
  simp only [gV] at HP ⊢
  go_enter Tryz.func12, Tryz.ntmps12
  go_wp2_with (first | (go_at_call 38; refine (HP.out _ HB0.out).mono ?_; rintro e w1 ⟨rfl, hb⟩; clear HP; have HB1 := Lib.hid (HB0.out.trans (hb.mono HB0.out.size)); clear hb))
  go_ret
  exact ⟨rfl, HB1.out⟩
set_option maxRecDepth 100000 in
set_option maxHeartbeats 2000000 in
theorem checkWalk_bad (n : Int) (a : Option Addr) (cap : Nat) (ts : List TieD) (u : Value) (x y c : Int) (w : World) (hl : ts.length ≤ 9223372036854775807) (h0 : errA n ts x y ≠ 0) (hs : TiesAt w a ts) :
    Calls Tryz.prog 37 #[gV n a ts.length cap, .int .i64 x, .int .i64 y, u, .int .i64 c] w fun e w' => e = .returned (.int .i64 (errA n ts x y)) ∧ Below w.heap.size w w' := by
  have HP : Hid (∀ W, Below w.heap.size w W → Calls Tryz.prog 52 #[gV n a ts.length cap, .int .i64 x, .int .i64 y] W fun e w' => e = .returned (.int .i64 (errA n ts x y)) ∧ Below W.heap.size W w') := fun W hb => tPair_any n a cap ts x y W hl (hs.below hb)
  generalize errA n ts x y = E at *
  generalize ts.length = m at *
  have HB0 : Hid (Below w.heap.size w (w.alloc (.cells #[.int .i64 n, .slice a m cap] 24))) := (Below.refl _ _).alloc (Nat.le_refl _) _
  clear hl hs
  simp only [gV] at HP ⊢
  go_enter Tryz.func37, Tryz.ntmps37
  go_wp2_with (first | (go_at_call 52; refine (HP.out _ HB0.out).mono ?_; rintro e w1 ⟨rfl, hb⟩; clear HP; have HB1 := Lib.hid (HB0.out.trans (hb.mono HB0.out.size)); clear hb))
  go_ret
  exact ⟨rfl, HB1.out⟩
set_option maxRecDepth 100000 in
set_option maxHeartbeats 2000000 in
theorem tCheckChain_bad (n : Int) (a : Option Addr) (cap : Nat) (ts : List TieD) (u : Value) (x y : Int) (w : World) (hl : ts.length ≤ 9223372036854775807) (h0 : errA n ts x y ≠ 0) (hs : TiesAt w a ts) :
    Calls Tryz.prog 9 #[gV n a ts.length cap, .int .i64 x, .int .i64 y, u] w fun e w' => e = .returned (.int .i64 (errA n ts x y)) ∧ Below w.heap.size w w' := by
  have HW : Hid (∀ W, Below w.heap.size w W → Calls Tryz.prog 37 #[gV n a ts.length cap, .int .i64 x, .int .i64 y, u, .int .i64 0] W fun e w' => e = .returned (.int .i64 (errA n ts x y)) ∧ Below W.heap.size W w') := fun W hb => checkWalk_bad n a cap ts u x y 0 W hl h0 (hs.below hb)
  generalize errA n ts x y = E at *
  generalize ts.length = m at *
  have HB0 : Hid (Below w.heap.size w (w.alloc (.cells #[.int .i64 n, .slice a m cap] 24))) := (Below.refl _ _).alloc (Nat.le_refl _) _
  clear hl hs h0
  simp only [gV] at HW ⊢
  go_enter Tryz.func9, Tryz.ntmps9
  go_wp2_with (first | (go_at_call 37; refine (HW.out _ HB0.out).mono ?_; rintro e w1 ⟨rfl, hb⟩; have HB3 := Lib.hid (HB0.out.trans (hb.mono HB0.out.size)); clear hb))
  go_ret
  exact ⟨rfl, HB3.out⟩
set_option maxRecDepth 100000 in
set_option maxHeartbeats 2000000 in
theorem tCheckWhy_bad (n : Int) (a : Option Addr) (cap : Nat) (ts : List TieD) (u : Value) (x y : Int) (w : World) (hl : ts.length ≤ 9223372036854775807) (h0 : errA n ts x y ≠ 0) (hs : TiesAt w a ts) :
    Calls Tryz.prog 11 #[gV n a ts.length cap, .int .i64 x, .int .i64 y, u] w fun e w' => e = .returned (.int .i64 (errA n ts x y)) ∧ Below w.heap.size w w' := by
  have HW : Hid (∀ W, Below w.heap.size w W → Calls Tryz.prog 37 #[gV n a ts.length cap, .int .i64 x, .int .i64 y, u, .int .i64 1] W fun e w' => e = .returned (.int .i64 (errA n ts x y)) ∧ Below W.heap.size W w') := fun W hb => checkWalk_bad n a cap ts u x y 1 W hl h0 (hs.below hb)
  generalize errA n ts x y = E at *
  generalize ts.length = m at *
  have HB0 : Hid (Below w.heap.size w (w.alloc (.cells #[.int .i64 n, .slice a m cap] 24))) := (Below.refl _ _).alloc (Nat.le_refl _) _
  clear hl hs h0
  simp only [gV] at HW ⊢
  go_enter Tryz.func11, Tryz.ntmps11
  go_wp2_with (first | (go_at_call 37; refine (HW.out _ HB0.out).mono ?_; rintro e w1 ⟨rfl, hb⟩; have HB3 := Lib.hid (HB0.out.trans (hb.mono HB0.out.size)); clear hb))
  go_ret
  exact ⟨rfl, HB3.out⟩
end Go.Proofs.YtjcafjffmiknmaaGreat
