/- Layer 4: the law TiesGroups. -/
import Derived.Test.YteojbichibdhjabGreatUj
import Derived.Test.YteojbichibdhjabGreatUf
namespace Go.Proofs.YteojbichibdhjabGreat
set_option linter.unusedSimpArgs false
set_option linter.unusedVariables false
open Go Go.RowKit

theorem load_sl0 {w : World} {b o : Nat} {a : Option Addr} {len cap : Nat} (h : w.cell? ⟨b, o, none⟩ = some (.slice a len cap)) : (Instr.loadAt 27 (.pointer (some ⟨b, o, none⟩))).run Tryz.prog w = .ok (.slice a len cap) w := by
  simp [go_sem, Instr.loadAt, h]
set_option maxRecDepth 100000 in
theorem ints_same (a1 a2 : Option Addr) (cap1 cap2 : Nat) (l : List Int) (w : World) (hl : l.length ≤ 100000) (hs1 : IntsAt w a1 l) (hs2 : IntsAt w a2 l) :
    Calls Tryz.prog 12 #[.slice a1 l.length cap1, .slice a2 l.length cap2] w fun e w' => e = .returned (.bool true) ∧ Below w.heap.size w w' := by
  have HS1 := Lib.hid hs1
  have HS2 := Lib.hid hs2
  obtain ⟨n, hn⟩ : ∃ n, n = l.length := ⟨_, rfl⟩
  rw [← hn] at hl ⊢
  have HN := Lib.hid hn
  clear hs1 hs2 hn
  go_enter Tryz.func12, Tryz.ntmps12
  go_wp2_with fail
  go_loopw [5] (fun ti wr => ∃ k : Nat, k ≤ n ∧ ti = .int .i64 k ∧ Hid (Below w.heap.size w wr)) (fun ti _ => n - (intOf ti).toNat)
  case atStart => exact ⟨0, by omega, rfl, Below.refl _ _⟩
  case round =>
    obtain ⟨k, hk, rfl, HB⟩ := hrel
    by_cases hlt : k < n
    · have hkl : k < l.length := by rw [← HN.out]; exact hlt
      obtain ⟨b1, o1, rfl, h1, c1⟩ := (HS1.out.below HB.out).at hkl
      obtain ⟨b2, o2, rfl, h2, c2⟩ := (HS2.out.below HB.out).at hkl
      obtain ⟨x, hx⟩ : ∃ x, x = l[k] := ⟨_, rfl⟩
      rw [← hx] at c1 c2
      have HC : Hid (∀ W, Old wr.drew W → W.cell? ⟨b1, o1 + k, none⟩ = some (.int .i64 x) ∧ W.cell? ⟨b2, o2 + k, none⟩ = some (.int .i64 x)) := fun W h => ⟨by rw [Below.cell h (by exact h1)]; exact c1, by rw [Below.cell h (by exact h2)]; exact c2⟩
      have HLT : Hid (k < n) := hlt
      clear hx hkl h1 h2 c1 c2
      have t3 : decide (k < n) = true := decide_eq_true hlt
      go_upto_region 6 with (fail)
      refine wp_region_old 9 26 (by kernel_rfl) (by kernel_rfl) (by rfl) ?_
      simp only [List.take_succ_cons, List.take_zero, List.drop_succ_cons, List.drop_zero, List.drop_nil]
      refine chain_move (.slice (some ⟨b1, o1, none⟩) n cap1) _ (fun _ _ => Below.refl _ _) rfl rfl (by kernel_rfl) (by kernel_rfl) rfl ?_
      refine chain_move (.int .i64 k) _ (fun _ _ => Below.refl _ _) rfl rfl (by kernel_rfl) (by kernel_rfl) rfl ?_
      refine chain_idx (.pointer (some ⟨b1, o1 + k, none⟩)) _ _ _ (.slice (some ⟨b1, o1, none⟩) n cap1) (.int .i64 k) (fun _ _ => Below.refl _ _) rfl rfl (by kernel_rfl) (by kernel_rfl) rfl rfl (fun w1 => idx_i64 _ _ _ _ _ HLT.out w1) ?_
      refine chain_load (.int .i64 x) _ _ _ (fun _ _ => Below.refl _ _) rfl rfl (by kernel_rfl) (by kernel_rfl) rfl (fun w1 hC => load_i64 (HC.out _ hC).1) ?_
      refine chain_move (.slice (some ⟨b2, o2, none⟩) n cap2) _ (fun _ _ => Below.refl _ _) rfl rfl (by kernel_rfl) (by kernel_rfl) rfl ?_
      refine chain_move (.int .i64 k) _ (fun _ _ => Below.refl _ _) rfl rfl (by kernel_rfl) (by kernel_rfl) rfl ?_
      refine chain_idx (.pointer (some ⟨b2, o2 + k, none⟩)) _ _ _ (.slice (some ⟨b2, o2, none⟩) n cap2) (.int .i64 k) (fun _ _ => Below.refl _ _) rfl rfl (by kernel_rfl) (by kernel_rfl) rfl rfl (fun w1 => idx_i64 _ _ _ _ _ HLT.out w1) ?_
      refine chain_load (.int .i64 x) _ _ _ (fun _ _ => Below.refl _ _) rfl rfl (by kernel_rfl) (by kernel_rfl) rfl (fun w1 hC => load_i64 (HC.out _ hC).2) ?_
      refine chain_bin (.bool false) _ _ _ _ _ (.int .i64 x) (.int .i64 x) (fun _ _ => Below.refl _ _) rfl rfl (by kernel_rfl) (by kernel_rfl) rfl rfl (fun w1 => neq_i64 _ _ _ _ _ _ (by simp) w1) ?_
      refine chain_end (by rfl) ?_
      intro xs w6 hCw6 hrew6
      simp only [layE, List.foldr_cons, List.foldr_nil, List.set_cons_succ, List.set_cons_zero]
      have HB6 := Lib.hid (old_end HB.out hCw6 HB.out.size)
      clear hCw6 hrew6 HC
      go_wp2_with fail
      exact ⟨⟨k + 1, by omega, by simp, HB6.out⟩, by simp [intOf]; omega⟩
    · have t3 : decide (k < n) = false := decide_eq_false hlt
      go_wp2_with fail
      go_ret
      exact ⟨rfl, HB.out⟩
def fewB (m : Nat) : Bool := decide (m ≤ 40) || (decide (512 < m) && decide (m ≤ 516))
set_option maxRecDepth 100000 in
set_option maxHeartbeats 2000000 in
theorem few_any (n : Int) (a : Option Addr) (m cap : Nat) (w : World) (hl : m ≤ 9223372036854775807) :
    Calls Tryz.prog 5 #[gV n a m cap] w fun e w' => e = .returned (.bool (fewB m)) ∧ Below w.heap.size w w' := by
  have hc : (m ≤ 40 ∧ fewB m = true) ∨ (¬ m ≤ 40 ∧ ¬ 512 < m ∧ fewB m = false) ∨ (¬ m ≤ 40 ∧ 512 < m ∧ m ≤ 516 ∧ fewB m = true) ∨ (¬ m ≤ 40 ∧ 512 < m ∧ ¬ m ≤ 516 ∧ fewB m = false) := by
    unfold fewB
    by_cases h1 : m ≤ 40 <;> by_cases h2 : 512 < m <;> by_cases h3 : m ≤ 516 <;> simp [h1, h2, h3] <;> omega
  rcases hc with ⟨h1, hr⟩ | ⟨h1, h2, hr⟩ | ⟨h1, h2, h3, hr⟩ | ⟨h1, h2, h3, hr⟩
  · rw [hr]
    clear hr
    have t1 : decide (m ≤ 40) = true := decide_eq_true h1
    go_enter Tryz.func5, Tryz.ntmps5
    simp only [gV]
    go_wp2_with fail
    go_ret
    exact ⟨by first | rfl | (simp; omega), (Below.refl _ _).alloc (Nat.le_refl _) _⟩
  · rw [hr]
    clear hr
    have t1 : decide (m ≤ 40) = false := decide_eq_false h1
    have t2 : decide (512 < m) = false := decide_eq_false h2
    go_enter Tryz.func5, Tryz.ntmps5
    simp only [gV]
    go_wp2_with fail
    go_ret
    exact ⟨by first | rfl | (simp; omega), (Below.refl _ _).alloc (Nat.le_refl _) _⟩
  · rw [hr]
    clear hr
    have t1 : decide (m ≤ 40) = false := decide_eq_false h1
    have t2 : decide (512 < m) = true := decide_eq_true h2
    have t3 : decide (m ≤ 516) = true := decide_eq_true h3
    go_enter Tryz.func5, Tryz.ntmps5
    simp only [gV]
    go_wp2_with fail
    go_ret
    exact ⟨by first | rfl | (simp; omega), (Below.refl _ _).alloc (Nat.le_refl _) _⟩
  · rw [hr]
    clear hr
    have t1 : decide (m ≤ 40) = false := decide_eq_false h1
    have t2 : decide (512 < m) = true := decide_eq_true h2
    have t3 : decide (m ≤ 516) = false := decide_eq_false h3
    go_enter Tryz.func5, Tryz.ntmps5
    simp only [gV]
    go_wp2_with fail
    go_ret
    exact ⟨by first | rfl | (simp; omega), (Below.refl _ _).alloc (Nat.le_refl _) _⟩
set_option maxRecDepth 100000 in
set_option maxHeartbeats 4000000 in
theorem tiesGroups_any (n : Int) (a : Option Addr) (cap : Nat) (ts : List TieD) (x y : Int) (w : World) (hl : ts.length ≤ 9223372036854775807) (hs : TiesAt w a ts)
    (hsane : ∀ W, Calls Tryz.prog 4 #[] W fun e w' => e = .returned (.bool true) ∧ Below W.heap.size W w') :
    Calls Tryz.prog 3 #[gV n a ts.length cap, .int .i64 x, .int .i64 y] w fun e w' => e = .returned (.bool true) ∧ Below w.heap.size w w' := by
  have HSA := Lib.hid hsane
  have HC1 : Hid (∀ W, Below w.heap.size w W → Calls Tryz.prog 6 #[gV n a ts.length cap] W (fun e w' => ∃ r c, e = .returned (.tuple #[.slice r (if okG n ts then grpL n.toNat ts else []).length c, .int .i64 (errG n ts)]) ∧ IntsAt w' r (if okG n ts then grpL n.toNat ts else []) ∧ Below W.heap.size W w') ∧ Calls Tryz.prog 7 #[gV n a ts.length cap] W (fun e w' => ∃ r c, e = .returned (.tuple #[.slice r (if okG n ts then grpL n.toNat ts else []).length c, .int .i64 (errG n ts)]) ∧ IntsAt w' r (if okG n ts then grpL n.toNat ts else []) ∧ Below W.heap.size W w')) := fun W hb => ⟨tGroups_any n a cap ts W hl (hs.below hb), rGrps_any n a cap ts W hl (hs.below hb)⟩
  have HC2 : Hid (∀ W, Below w.heap.size w W → Calls Tryz.prog 8 #[gV n a ts.length cap, .int .i64 x, .int .i64 y] W (fun e w' => e = .returned (.tuple #[.bool (sameR n ts x y), .int .i64 (errA n ts x y)]) ∧ Below W.heap.size W w') ∧ Calls Tryz.prog 9 #[gV n a ts.length cap, .int .i64 x, .int .i64 y] W (fun e w' => e = .returned (.tuple #[.bool (sameR n ts x y), .int .i64 (errA n ts x y)]) ∧ Below W.heap.size W w')) := fun W hb => ⟨tSame_any n a cap ts x y W hl (hs.below hb), rSame_any n a cap ts x y W hl (hs.below hb)⟩
  have HC3 : Hid (∀ W, Below w.heap.size w W → Calls Tryz.prog 10 #[gV n a ts.length cap, .int .i64 x, .int .i64 y] W (fun e w' => e = .returned (.tuple #[.bool (apartR n ts x y), .int .i64 (errA n ts x y)]) ∧ Below W.heap.size W w') ∧ Calls Tryz.prog 11 #[gV n a ts.length cap, .int .i64 x, .int .i64 y] W (fun e w' => e = .returned (.tuple #[.bool (apartR n ts x y), .int .i64 (errA n ts x y)]) ∧ Below W.heap.size W w')) := fun W hb => ⟨tApart_any n a cap ts x y W hl (hs.below hb), rApt_any n a cap ts x y W hl (hs.below hb)⟩
  have HGL : Hid ((if okG n ts then grpL n.toNat ts else []).length ≤ 100000) := by
    cases hok : okG n ts with
    | false => simp [Hid]
    | true =>
      simp only [if_true, grpL_len, Hid]
      unfold okG ftB at hok
      simp only [Bool.and_eq_true, decide_eq_true_eq] at hok
      omega
  generalize (if okG n ts then grpL n.toNat ts else []) = GL at *
  generalize errG n ts = E at *
  generalize errA n ts x y = EA at *
  generalize sameR n ts x y = S at *
  generalize apartR n ts x y = AP at *
  have HEN : Hid (∀ W r1 c1 r2 c2, IntsAt W r1 GL → IntsAt W r2 GL → Calls Tryz.prog 12 #[.slice r1 GL.length c1, .slice r2 GL.length c2] W fun e w' => e = .returned (.bool true) ∧ Below W.heap.size W w') := fun W r1 c1 r2 c2 h1 h2 => ints_same r1 r2 c1 c2 GL W HGL.out h1 h2
  obtain ⟨gl, hgl⟩ : ∃ gl, gl = GL.length := ⟨_, rfl⟩
  obtain ⟨m, hm⟩ : ∃ m, m = ts.length := ⟨_, rfl⟩
  rw [← hgl] at HC1 HEN
  rw [← hm] at hl HC1 HC2 HC3 ⊢
  have HF : Hid (∀ W, Calls Tryz.prog 5 #[gV n a m cap] W fun e w' => e = .returned (.bool (fewB m)) ∧ Below W.heap.size W w') := fun W => few_any n a m cap W hl
  clear hsane hs hm hgl HGL
  have HKC : Hid (∀ W, Below (w.heap.size + 1) (w.alloc (.cells #[.int .i64 n, .slice a m cap] 24)) W → (W.cell? ⟨w.heap.size, 0, none⟩ = some (.int .i64 n) ∧ W.cell? ⟨w.heap.size, 1, none⟩ = some (.slice a m cap)) ∧ Below w.heap.size w W) := fun W hb => by
    have hb' : Below (w.alloc (.cells #[.int .i64 n, .slice a m cap] 24)).heap.size (w.alloc (.cells #[.int .i64 n, .slice a m cap] 24)) W := by simpa using hb
    have k := (Blk.new w [.int .i64 n, .slice a m cap] 24).below hb'
    exact ⟨⟨k.cell rfl, k.cell rfl⟩, ((Below.refl _ _).alloc (Nat.le_refl _) _).trans (hb.mono (by omega))⟩
  have HB : Hid (Below (w.heap.size + 1) (w.alloc (.cells #[.int .i64 n, .slice a m cap] 24)) (w.alloc (.cells #[.int .i64 n, .slice a m cap] 24))) := Below.refl _ _
  obtain ⟨fw, hfw⟩ : ∃ fw, fw = fewB m := ⟨_, rfl⟩
  rw [← hfw] at HF
  clear hfw
  cases fw with
  | false =>
    go_enter Tryz.func3, Tryz.ntmps3
    simp only [gV] at HF ⊢
    go_wp2_with (first | (go_at_call 4; refine (HSA.out _).mono ?_; rintro e w9 ⟨rfl, hb⟩; have HB' := Lib.hid (HB.out.trans (hb.mono (Nat.le_trans (by simp) HB.out.size))); clear hb HB; have HB := HB'; clear HB'; obtain ⟨_, _⟩ := (HKC.out _ HB.out).1; clear HSA) | (go_at_call 5; refine (HF.out _).mono ?_; rintro e w9 ⟨rfl, hb⟩; have HB' := Lib.hid (HB.out.trans (hb.mono (Nat.le_trans (by simp) HB.out.size))); clear hb HB; have HB := HB'; clear HB'; obtain ⟨_, _⟩ := (HKC.out _ HB.out).1; clear HF))
    go_ret
    exact ⟨rfl, (HKC.out _ HB.out).2⟩
  | true =>
    go_enter Tryz.func3, Tryz.ntmps3
    simp only [gV] at HF HC1 HC2 HC3 ⊢
    go_wp2_with (first | (go_at_call 4; refine (HSA.out _).mono ?_; rintro e w9 ⟨rfl, hb⟩; have HB' := Lib.hid (HB.out.trans (hb.mono (Nat.le_trans (by simp) HB.out.size))); clear hb HB; have HB := HB'; clear HB'; obtain ⟨_, _⟩ := (HKC.out _ HB.out).1; clear HSA) | (go_at_call 5; refine (HF.out _).mono ?_; rintro e w9 ⟨rfl, hb⟩; have HB' := Lib.hid (HB.out.trans (hb.mono (Nat.le_trans (by simp) HB.out.size))); clear hb HB; have HB := HB'; clear HB'; obtain ⟨_, _⟩ := (HKC.out _ HB.out).1; clear HF) | (go_at_call 6; refine ((HC1.out _ (HKC.out _ HB.out).2).1).mono ?_; rintro e w9 ⟨r1, c1, rfl, hi, hb⟩; have HB' := Lib.hid (HB.out.trans (hb.mono (Nat.le_trans (by simp) HB.out.size))); have I1 := Lib.hid hi; clear hi; clear hb HB; have HB := HB'; clear HB'; obtain ⟨_, _⟩ := (HKC.out _ HB.out).1; ) | (go_at_call 7; refine ((HC1.out _ (HKC.out _ HB.out).2).2).mono ?_; rintro e w9 ⟨r2, c2, rfl, hi, hb⟩; have HB' := Lib.hid (HB.out.trans (hb.mono (Nat.le_trans (by simp) HB.out.size))); have I2 := Lib.hid (I1.out.below hb); clear I1; have I1 := I2; clear I2; have J1 := Lib.hid hi; clear hi; clear hb HB; have HB := HB'; clear HB'; obtain ⟨_, _⟩ := (HKC.out _ HB.out).1; clear HC1) | (go_at_call 8; refine ((HC2.out _ (HKC.out _ HB.out).2).1).mono ?_; rintro e w9 ⟨rfl, hb⟩; have HB' := Lib.hid (HB.out.trans (hb.mono (Nat.le_trans (by simp) HB.out.size))); have I2 := Lib.hid (I1.out.below hb); clear I1; have I1 := I2; clear I2; have J2 := Lib.hid (J1.out.below hb); clear J1; have J1 := J2; clear J2; clear hb HB; have HB := HB'; clear HB'; obtain ⟨_, _⟩ := (HKC.out _ HB.out).1; ) | (go_at_call 9; refine ((HC2.out _ (HKC.out _ HB.out).2).2).mono ?_; rintro e w9 ⟨rfl, hb⟩; have HB' := Lib.hid (HB.out.trans (hb.mono (Nat.le_trans (by simp) HB.out.size))); have I2 := Lib.hid (I1.out.below hb); clear I1; have I1 := I2; clear I2; have J2 := Lib.hid (J1.out.below hb); clear J1; have J1 := J2; clear J2; clear hb HB; have HB := HB'; clear HB'; obtain ⟨_, _⟩ := (HKC.out _ HB.out).1; clear HC2) | (go_at_call 10; refine ((HC3.out _ (HKC.out _ HB.out).2).1).mono ?_; rintro e w9 ⟨rfl, hb⟩; have HB' := Lib.hid (HB.out.trans (hb.mono (Nat.le_trans (by simp) HB.out.size))); have I2 := Lib.hid (I1.out.below hb); clear I1; have I1 := I2; clear I2; have J2 := Lib.hid (J1.out.below hb); clear J1; have J1 := J2; clear J2; clear hb HB; have HB := HB'; clear HB'; obtain ⟨_, _⟩ := (HKC.out _ HB.out).1; ) | (go_at_call 11; refine ((HC3.out _ (HKC.out _ HB.out).2).2).mono ?_; rintro e w9 ⟨rfl, hb⟩; have HB' := Lib.hid (HB.out.trans (hb.mono (Nat.le_trans (by simp) HB.out.size))); have I2 := Lib.hid (I1.out.below hb); clear I1; have I1 := I2; clear I2; have J2 := Lib.hid (J1.out.below hb); clear J1; have J1 := J2; clear J2; clear hb HB; have HB := HB'; clear HB'; obtain ⟨_, _⟩ := (HKC.out _ HB.out).1; clear HC3) | (go_at_call 12; refine (HEN.out _ r1 c1 r2 c2 I1.out J1.out).mono ?_; rintro e w9 ⟨rfl, hb⟩; have HB' := Lib.hid (HB.out.trans (hb.mono (Nat.le_trans (by simp) HB.out.size))); clear hb HB; have HB := HB'; clear HB'; obtain ⟨_, _⟩ := (HKC.out _ HB.out).1; ))
    go_ret
    exact ⟨rfl, (HKC.out _ HB.out).2⟩
end Go.Proofs.YteojbichibdhjabGreat
