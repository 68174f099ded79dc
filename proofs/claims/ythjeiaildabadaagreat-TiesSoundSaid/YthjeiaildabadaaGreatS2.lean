/- Layer 4: Soundest, and the law TiesSound. -/
import Derived.Test.YthjeiaildabadaaGreatS1
import Derived.Test.YthjeiaildabadaaGreatKd
namespace Go.Proofs.YthjeiaildabadaaGreat
set_option linter.unusedSimpArgs false
set_option linter.unusedVariables false
open Go Go.RowKit

set_option maxRecDepth 100000 in
set_option maxHeartbeats 4000000 in
theorem soundest_any (k : Nat) (a : Option Addr) (cap : Nat) (ts : List TieD) (w : World) (hok : okG k ts = true) (hs : TiesAt w a ts) :
    Calls Tryz.prog 16 #[gV k a ts.length cap] w fun e w' => (∃ r : Nat, e = .returned (.tuple #[.int .i64 ((r : Int) + 1), .int .i64 0]) ∧ r ≤ 100 ∧ ∀ s : Nat, 1 ≤ s ∧ s ≤ 101 → conF k (stF ts s) = decide (s < r + 1)) ∧ Below w.heap.size w w' := by
  obtain ⟨k', hk', hk1, hk2, hl, hv⟩ := okG_parts hok
  obtain rfl : k = k' := by omega
  have HC : Hid (∀ W, Below w.heap.size w W → Calls Tryz.prog 24 #[gV k a ts.length cap] W fun e w' => e = .returned (.int .i64 0) ∧ Below W.heap.size W w') := fun W hb => by
    have h := tCheck_any k a cap ts W (by omega) (hs.below hb)
    rw [show errG k ts = 0 from by unfold errG; rw [hok]; rfl] at h; exact h
  have HSE : Hid (∀ W bc, Below w.heap.size w W → Blk W bc [.int .i64 k, .slice a ts.length cap] 24 → Calls Tryz.prog 57 #[.int .i64 100, .func (.func 58) #[] #[.pointer (some ⟨bc, 0, none⟩)]] W fun e w' => (∃ r : Nat, e = .returned (.int .i64 r) ∧ r ≤ 100 ∧ ∀ s : Nat, 1 ≤ s ∧ s ≤ 101 → conF k (stF ts s) = decide (s < r + 1)) ∧ Below W.heap.size W w') := fun W bc hb hB => (search_any (snP k ts) bc 100 W (by omega) (fun i j h1 h2 => snP_mono hv h1 h2) (fun h W' hh hb' => soundFn_any k h a cap bc ts W' hk2 hl (by omega) hv ((hs.below hb).below hb') (hB.below hb'))).mono fun e w' ⟨⟨r, h1, h2, h3, h4⟩, h5⟩ => ⟨⟨r, h1, h2, snd_at hv h2 h3 h4⟩, h5⟩
  generalize ts.length = m at *
  have FB := Lib.hid (FA.new w [.int .i64 k, .slice a m cap])
  clear hok hs hk' hk1 hk2 hl hv
  simp only [gV] at HC ⊢
  go_enter Tryz.func16, Tryz.ntmps16
  go_wp2_with (first | (go_at_call 24; go_loud (refine (HC.out _ FB.out.2).mono ?_; rintro e w1 ⟨rfl, hb⟩; clear HC; replace FB := Lib.hid (FB.out.below hb); clear hb)) | (go_at_call 57; go_loud (refine (HSE.out _ _ FB.out.2 FB.out.1).mono ?_; rintro e w2 ⟨⟨r, rfl, hr, hp⟩, hb⟩; replace FB := Lib.hid (FB.out.below hb); have HP := Lib.hid hp; clear hb hp)))
  refine bodyPost_ret (v := .tuple #[.int .i64 ((r : Int) + 1), .int .i64 0]) (by simp [results, Tryz.results16, go_sem]; omega) rfl ?_
  exact ⟨⟨r, rfl, hr, HP.out⟩, FB.out.2⟩
set_option maxRecDepth 100000 in
set_option maxHeartbeats 8000000 in
theorem tiesSound_walk (n x : Int) (a : Option Addr) (cap m : Nat) (us : List TieD) (w : World) (F C : Bool) (E : Int)
    (HSA : Hid (∀ W, Calls Tryz.prog 10 #[] W fun e w' => e = .returned (.bool true) ∧ Below W.heap.size W w'))
    (HF : Hid (∀ W, Calls Tryz.prog 11 #[.agg #[.int .i64 n, .slice a m cap]] W fun e w' => e = .returned (.bool F) ∧ Below W.heap.size W w'))
    (HC : Hid (∀ W, Below w.heap.size w W → Calls Tryz.prog 24 #[.agg #[.int .i64 n, .slice a m cap]] W fun e w' => e = .returned (.int .i64 E) ∧ Below W.heap.size W w'))
    (HSO : Hid (E = 0 → ∀ W, Below w.heap.size w W → Calls Tryz.prog 16 #[.agg #[.int .i64 n, .slice a m cap]] W fun e w' => (∃ r : Nat, e = .returned (.tuple #[.int .i64 ((r : Int) + 1), .int .i64 0]) ∧ r ≤ 100 ∧ (1 ≤ x → x ≤ 101 → C = decide (x < (r : Int) + 1))) ∧ Below W.heap.size W w'))
    (HST : Hid (E = 0 → 1 ≤ x → x ≤ 101 → ∀ W, Below w.heap.size w W → Calls Tryz.prog 28 #[.agg #[.int .i64 n, .slice a m cap], .int .i64 x] W fun e w' => ∃ a' c', e = .returned (.tuple #[.agg #[.int .i64 n, .slice a' us.length c'], .int .i64 0]) ∧ TiesAt w' a' us ∧ Below W.heap.size W w'))
    (HCL : Hid (E = 0 → 1 ≤ x → x ≤ 101 → ∀ W a' c', TiesAt W a' us → Calls Tryz.prog 30 #[.agg #[.int .i64 n, .slice a' us.length c']] W fun e w' => (∃ u, e = .returned (.tuple #[u, .bool C, .int .i64 0])) ∧ Below W.heap.size W w')) :
    Calls Tryz.prog 7 #[.agg #[.int .i64 n, .slice a m cap], .int .i64 x] w fun e w' => e = .returned (.bool true) ∧ Below w.heap.size w w' := by
  have FB := Lib.hid (FA.new w [.int .i64 n, .slice a m cap])
  cases F
  · clear HC HSO HST HCL
    go_enter Tryz.func7, Tryz.ntmps7
    go_wp2_with (first | (go_at_call 10; refine (HSA.out _).mono ?_; rintro e w1 ⟨rfl, hb⟩; clear HSA; replace FB := Lib.hid (FB.out.below hb); clear hb; have c0 := FB.out.1.cell (i := 0) rfl; have c1 := FB.out.1.cell (i := 1) rfl) | (go_at_call 11; refine (HF.out _).mono ?_; rintro e w2 ⟨rfl, hb⟩; clear HF c0 c1; replace FB := Lib.hid (FB.out.below hb); clear hb; have c0 := FB.out.1.cell (i := 0) rfl; have c1 := FB.out.1.cell (i := 1) rfl) | (go_at_call 24; refine (HC.out _ FB.out.2).mono ?_; rintro e w3 ⟨rfl, hb⟩; clear HC c0 c1; replace FB := Lib.hid (FB.out.below hb); clear hb; have c0 := FB.out.1.cell (i := 0) rfl; have c1 := FB.out.1.cell (i := 1) rfl))
    go_ret
    exact ⟨rfl, FB.out.2⟩
  by_cases he : E = 0
  case neg =>
    have t1 : (E != 0) = true := by simpa using he
    clear he HSO HST HCL
    go_enter Tryz.func7, Tryz.ntmps7
    go_wp2_with (first | (go_at_call 10; refine (HSA.out _).mono ?_; rintro e w1 ⟨rfl, hb⟩; clear HSA; replace FB := Lib.hid (FB.out.below hb); clear hb; have c0 := FB.out.1.cell (i := 0) rfl; have c1 := FB.out.1.cell (i := 1) rfl) | (go_at_call 11; refine (HF.out _).mono ?_; rintro e w2 ⟨rfl, hb⟩; clear HF c0 c1; replace FB := Lib.hid (FB.out.below hb); clear hb; have c0 := FB.out.1.cell (i := 0) rfl; have c1 := FB.out.1.cell (i := 1) rfl) | (go_at_call 24; refine (HC.out _ FB.out.2).mono ?_; rintro e w3 ⟨rfl, hb⟩; clear HC c0 c1; replace FB := Lib.hid (FB.out.below hb); clear hb; have c0 := FB.out.1.cell (i := 0) rfl; have c1 := FB.out.1.cell (i := 1) rfl))
    go_ret
    exact ⟨rfl, FB.out.2⟩
  subst he
  replace HSO := Lib.hid (HSO.out rfl)
  replace HST := Lib.hid (HST.out rfl)
  replace HCL := Lib.hid (HCL.out rfl)
  go_enter Tryz.func7, Tryz.ntmps7
  go_upto_region 5 with (first | (go_at_call 10; refine (HSA.out _).mono ?_; rintro e w1 ⟨rfl, hb⟩; clear HSA; replace FB := Lib.hid (FB.out.below hb); clear hb; have c0 := FB.out.1.cell (i := 0) rfl; have c1 := FB.out.1.cell (i := 1) rfl) | (go_at_call 11; refine (HF.out _).mono ?_; rintro e w2 ⟨rfl, hb⟩; clear HF c0 c1; replace FB := Lib.hid (FB.out.below hb); clear hb; have c0 := FB.out.1.cell (i := 0) rfl; have c1 := FB.out.1.cell (i := 1) rfl) | (go_at_call 24; refine (HC.out _ FB.out.2).mono ?_; rintro e w3 ⟨rfl, hb⟩; clear HC c0 c1; replace FB := Lib.hid (FB.out.below hb); clear hb; have c0 := FB.out.1.cell (i := 0) rfl; have c1 := FB.out.1.cell (i := 1) rfl))
  go_upto_region 6 with (first | (go_at_call 16; go_loud (refine (HSO.out _ FB.out.2).mono ?_; rintro e w4 ⟨⟨r, rfl, hr, hc⟩, hb⟩; clear HSO c0 c1; replace FB := Lib.hid (FB.out.below hb); have HCX := Lib.hid hc; have HR := Lib.hid hr; clear hb hc hr)))
  have t1 : decide ((r : Int) + 1 < 1) = false := decide_eq_false (by omega)
  have t2 : decide ((101 : Int) < (r : Int) + 1) = false := decide_eq_false (by have := HR.out; omega)
  go_upto_region 8 with (fail)
  clear t1 t2
  by_cases h1 : x < 1
  · have u1 : decide (x < 1) = true := decide_eq_true h1
    clear h1 HST HCL HCX
    go_wp2_with fail
    go_ret
    exact ⟨rfl, FB.out.2⟩
  by_cases h2 : 101 < x
  · have u1 : decide (x < 1) = false := decide_eq_false h1
    have u2 : decide (101 < x) = true := decide_eq_true h2
    clear h1 h2 HST HCL HCX
    go_wp2_with fail
    go_ret
    exact ⟨rfl, FB.out.2⟩
  have u1 : decide (x < 1) = false := decide_eq_false h1
  have u2 : decide (101 < x) = false := decide_eq_false h2
  replace HST := Lib.hid (HST.out (by omega) (by omega))
  replace HCL := Lib.hid (HCL.out (by omega) (by omega))
  replace HCX := Lib.hid (HCX.out (by omega) (by omega))
  clear h1 h2
  have c0 := FB.out.1.cell (i := 0) rfl
  have c1 := FB.out.1.cell (i := 1) rfl
  go_upto_region 11 with (first | (go_at_call 28; go_loud (refine (HST.out _ FB.out.2).mono ?_; rintro e w5 ⟨a', c', rfl, ht, hb⟩; clear HST c0 c1; replace FB := Lib.hid (FB.out.below hb); have HT := Lib.hid ht; clear hb ht)))
  clear u1 u2
  refine named (fun V => Hid (Blk V w5.heap.size [.int .i64 n, .slice a' us.length c'] 24) ∧ Hid (Below w5.heap.size w5 V)) ⟨Blk.new w5 [.int .i64 n, .slice a' us.length c'] _, (Below.refl _ _).alloc (Nat.le_refl _) _⟩ ?_
  rintro V ⟨H7, HBV⟩
  replace FB := Lib.hid (FB.out.below HBV.out)
  replace HT := Lib.hid (HT.out.below HBV.out)
  generalize hb7 : w5.heap.size = b7 at H7 ⊢
  clear hb7 HBV
  have d0 := H7.out.cell (i := 0) rfl
  have d1 := H7.out.cell (i := 1) rfl
  obtain ⟨D, hD⟩ : ∃ D, D = decide (x < (r : Int) + 1) := ⟨_, rfl⟩
  have hcd : C = D := by rw [hD]; exact HCX.out
  subst hcd
  have v1 : decide (x < (r : Int) + 1) = C := hD.symm
  clear hD HCX
  go_wp2_with (first | (go_at_call 30; go_loud (refine (HCL.out _ _ _ HT.out).mono ?_; rintro e w6 ⟨⟨u, rfl⟩, hb⟩; clear HCL d0 d1; replace FB := Lib.hid (FB.out.below hb); clear hb)))
  go_ret
  exact ⟨by first | rfl | simp, FB.out.2⟩
set_option maxRecDepth 100000 in
theorem tiesSound_any (n : Int) (a : Option Addr) (cap : Nat) (ts : List TieD) (x : Int) (w : World) (hl : ts.length ≤ 9223372036854775807) (hs : TiesAt w a ts)
    (hsane : ∀ W, Calls Tryz.prog 10 #[] W fun e w' => e = .returned (.bool true) ∧ Below W.heap.size W w') :
    Calls Tryz.prog 7 #[gV n a ts.length cap, .int .i64 x] w fun e w' => e = .returned (.bool true) ∧ Below w.heap.size w w' := by
  refine tiesSound_walk n x a cap ts.length (stF ts x) w (fewB ts.length) (conF n.toNat (stF ts x)) (errG n ts) (Lib.hid hsane) (fun W => few_any n a ts.length cap W hl) (fun W hb => tCheck_any n a cap ts W hl (hs.below hb)) ?_ ?_ ?_
  · intro hE W hb
    have hok : okG n ts = true := by unfold errG at hE; split at hE; assumption; cases hE
    obtain ⟨k, rfl, hk1, hk2, hl5, hv⟩ := okG_parts hok
    refine (soundest_any k a cap ts W hok (hs.below hb)).mono fun e w' ⟨⟨r, h1, h2, h3⟩, h4⟩ => ⟨⟨r, h1, h2, fun h5 h6 => ?_⟩, h4⟩
    obtain ⟨s, rfl⟩ := Int.eq_ofNat_of_zero_le (by omega : 0 ≤ x)
    rw [Int.toNat_natCast, h3 s ⟨by omega, by omega⟩]
    exact decide_eq_decide.2 (by omega)
  · intro hE h5 h6 W hb
    have hok : okG n ts = true := by unfold errG at hE; split at hE; assumption; cases hE
    have h := Strong_any x n a cap ts W hl (hs.below hb)
    have e : strR n ts x = ⟨n, stF ts x, 0⟩ := by unfold strR; rw [hok, if_pos rfl, if_pos (by unfold ftB; simp only [Bool.and_eq_true, decide_eq_true_eq]; omega)]; rfl
    rw [e] at h
    exact h.mono fun e w' ⟨a', c', h1, h2, h3⟩ => ⟨a', c', h1, h2.1, h3⟩
  · intro hE h5 h6 W a' c' h
    have hok : okG n ts = true := by unfold errG at hE; split at hE; assumption; cases hE
    obtain ⟨k, rfl, hk1, hk2, hl5, hv⟩ := okG_parts hok
    have hoks : okG k (stF ts x) = true := okG_mk hk1 hk2 (Nat.le_trans (List.length_filter_le _ _) hl5) (stF_valid hv)
    rw [Int.toNat_natCast]
    exact clash_con2 k a' c' (stF ts x) W hoks h
end Go.Proofs.YthjeiaildabadaaGreat
