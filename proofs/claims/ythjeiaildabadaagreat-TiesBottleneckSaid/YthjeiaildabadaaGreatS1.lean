/- Layer 4: contradictions, and Search of the library over them. -/
import Derived.Test.YthjeiaildabadaaGreatF0
import Derived.Test.YthjeiaildabadaaGreatQn
import Derived.Test.YthjeiaildabadaaGreatK3
namespace Go.Proofs.YthjeiaildabadaaGreat
set_option linter.unusedSimpArgs false
set_option linter.unusedVariables false
open Go Go.RowKit

/-- The ties contradict each other. -/
def conF (n : Nat) (us : List TieD) : Bool := us.any (wrB (grpL n us))
set_option maxRecDepth 100000 in
set_option maxHeartbeats 4000000 in
theorem contradicts_any (k : Nat) (a : Option Addr) (cap : Nat) (ts : List TieD) (w : World) (hk : k ≤ 32) (hl : ts.length ≤ 512) (hv : ∀ t ∈ ts, tieB t k = true) (hs : TiesAt w a ts) :
    Calls Tryz.prog 59 #[gV k a ts.length cap] w fun e w' => e = .returned (.bool (conF k ts)) ∧ Below w.heap.size w w' := by
  have HBE : Hid (∀ W, Below w.heap.size w W → Calls Tryz.prog 43 #[gV k a ts.length cap] W fun e w' => ∃ g, e = .returned (wkV k a ts.length cap g k) ∧ W.heap.size ≤ g ∧ NB w' g (grpL k ts) ∧ Below W.heap.size W w') := fun W hb => begin_any k a cap ts W hk hl hv (hs.below hb)
  have HWR : Hid (∀ W g, Below w.heap.size w W → NB W g (grpL k ts) → Calls Tryz.prog 62 #[wkV k a ts.length cap g k] W fun e w' => (∃ r : Int, e = .returned (.int .i64 r) ∧ decide (0 ≤ r) = conF k ts ∧ (r = -1 ∨ 0 ≤ r)) ∧ Below W.heap.size W w') := fun W g hb hg => (wrong_any a cap ts g k (grpL k ts) W (by omega) (hs.below hb) (grpL_len _ _) hk hv hg).mono fun e w' ⟨⟨r, h1, h2⟩, h3⟩ => by
    refine ⟨⟨r, h1, ?_⟩, h3⟩
    unfold conF
    rcases h2 with ⟨rfl, h4⟩ | ⟨j, t, rfl, hj, ht, _⟩
    · rw [h4]; exact ⟨rfl, .inl rfl⟩
    · have : ts.any (wrB (grpL k ts)) = true := List.any_eq_true.2 ⟨t, List.mem_of_getElem? hj, ht⟩
      rw [this]; exact ⟨decide_eq_true (by omega), .inr (by omega)⟩
  generalize ts.length = m at *
  generalize conF k ts = C at *
  have HK := Lib.hid (Blk.new w [.int .i64 k, .slice a m cap] 24)
  have HB0 : Hid (Below w.heap.size w (w.alloc (.cells #[.int .i64 k, .slice a m cap] 24))) := (Below.refl _ _).alloc (Nat.le_refl _) _
  clear hl hv hs hk
  simp only [gV] at HBE ⊢
  go_enter Tryz.func59, Tryz.ntmps59
  go_wp2_with (first | (go_at_call 43; go_loud (refine (HBE.out _ HB0.out).mono ?_; rintro e w1 ⟨g, rfl, _, hg, hb⟩; have HB1 := Lib.hid (HB0.out.trans (hb.mono HB0.out.size)); have HG := Lib.hid hg; clear hb hg HBE)) | (go_at_call 62; go_loud (refine (HWR.out _ _ HB1.out HG.out).mono ?_; rintro e w2 ⟨⟨r, rfl, hr, hr2⟩, hb⟩; have HB2 := Lib.hid (HB1.out.trans (hb.mono HB1.out.size)); have HR := Lib.hid hr; clear hb HWR hr hr2)))
  go_ret
  exact ⟨by rw [← HR.out]; rfl, HB2.out⟩
/-- What the answer of Clash tells: whether some cut is within a group. -/
theorem clash_con2 (k : Nat) (a : Option Addr) (cap : Nat) (ts : List TieD) (w : World) (hok : okG k ts = true) (hs : TiesAt w a ts) :
    Calls Tryz.prog 30 #[gV k a ts.length cap] w fun e w' => (∃ u, e = .returned (.tuple #[u, .bool (ts.any (wrB (grpL k ts))), .int .i64 0])) ∧ Below w.heap.size w w' := by
  obtain ⟨k', hk', hk1, hk2, hl, hv⟩ := okG_parts hok
  have hkk : k' = k := by omega
  subst hkk
  have h0 : errG k' ts = 0 := by unfold errG; rw [hok]; rfl
  cases hn : ts.any (wrB (grpL k' ts)) with
  | false => exact (clash_none k' a cap ts w hk2 hl hv h0 hn hs).mono fun e w' ⟨h1, h2⟩ => ⟨⟨_, h1⟩, h2⟩
  | true => exact (clash_some k' a cap ts w hk2 hl hv h0 hn hs).mono fun e w' ⟨⟨j, t, l, r, c, _, _, _, _, h1, _⟩, h2⟩ => ⟨⟨_, h1⟩, h2⟩
/-- The ties that are at least so strong. -/
def stF (ts : List TieD) (s : Int) : List TieD := ts.filter fun t => decide (s ≤ t.str)
theorem stF_mem {ts : List TieD} {s : Int} {t : TieD} : t ∈ stF ts s ↔ t ∈ ts ∧ s ≤ t.str := by unfold stF; rw [List.mem_filter, decide_eq_true_eq]
theorem con_mono {n : Nat} {us ts : List TieD} (hv : ∀ t ∈ ts, tieB t n = true) (hu : ∀ t ∈ us, t ∈ ts) (h : conF n us = true) : conF n ts = true := by
  unfold conF at *
  obtain ⟨t, ht, hw⟩ := List.any_eq_true.1 h
  have htm := hu t ht
  obtain ⟨_, _, _, _, ga, gb⟩ := tieB_in (hv t htm)
  refine List.any_eq_true.2 ⟨t, htm, ?_⟩
  unfold wrB at hw ⊢
  simp only [Bool.and_eq_true, beq_iff_eq] at hw ⊢
  exact ⟨hw.1, grp_sub (fun t ht => hv t (hu t ht)) hv hu ga gb hw.2⟩
def snP (n : Nat) (ts : List TieD) (i : Nat) : Bool := !conF n (stF ts ((i : Int) + 1))
theorem stF_less {ts : List TieD} {s s' : Int} (h : s ≤ s') : ∀ t ∈ stF ts s', t ∈ stF ts s := fun t ht => stF_mem.2 ⟨(stF_mem.1 ht).1, by have := (stF_mem.1 ht).2; omega⟩
theorem stF_valid {ts : List TieD} {n s : Int} (hv : ∀ t ∈ ts, tieB t n = true) : ∀ t ∈ stF ts s, tieB t n = true := fun t ht => hv t (stF_mem.1 ht).1
theorem snP_mono {n : Nat} {ts : List TieD} (hv : ∀ t ∈ ts, tieB t n = true) {i j : Nat} (hij : i ≤ j) (h : snP n ts i = true) : snP n ts j = true := by
  unfold snP at *
  rw [Bool.not_eq_true'] at *
  cases hc : conF n (stF ts ((j : Int) + 1)) with
  | false => rfl
  | true =>
    have := con_mono (stF_valid hv) (stF_less (s := (i : Int) + 1) (s' := (j : Int) + 1) (by omega)) hc
    rw [h] at this; cases this
theorem st_top {n : Nat} {ts : List TieD} (hv : ∀ t ∈ ts, tieB t n = true) : conF n (stF ts 101) = false := by
  have e : stF ts 101 = [] := by
    refine List.eq_nil_iff_forall_not_mem.2 fun t ht => ?_
    obtain ⟨h1, h2⟩ := stF_mem.1 ht
    have hb := hv t h1
    unfold tieB ftB at hb
    simp only [Bool.and_eq_true, decide_eq_true_eq] at hb
    omega
  rw [e]; rfl
/-- Where a graph comes to be sound. -/
theorem snd_at {n r : Nat} {ts : List TieD} (hv : ∀ t ∈ ts, tieB t n = true) (h0 : r ≤ 100) (h1 : ∀ i, i < r → snP n ts i = false) (h2 : r < 100 → snP n ts r = true) (s : Nat) (hs : 1 ≤ s ∧ s ≤ 101) : conF n (stF ts s) = decide (s < r + 1) := by
  obtain ⟨i, rfl⟩ : ∃ i, s = i + 1 := ⟨s - 1, by omega⟩
  have e : ((i + 1 : Nat) : Int) = (i : Int) + 1 := by omega
  by_cases hi : i < r
  · have := h1 i hi
    unfold snP at this
    rw [e, decide_eq_true (by omega)]
    simpa using this
  · rw [decide_eq_false (by omega)]
    by_cases hr : r < 100
    · have := snP_mono hv (by omega : r ≤ i) (h2 hr)
      unfold snP at this
      rw [e]; simpa using this
    · obtain rfl : i = 100 := by omega
      exact st_top hv
theorem half_u (i j : Nat) (hi : i ≤ 1000) (hj : j ≤ 1000) : (i + j) / 2 ≤ 1000 := by omega
set_option maxRecDepth 100000 in
set_option maxHeartbeats 4000000 in
theorem soundFn_any (k h : Nat) (a : Option Addr) (cap bc : Nat) (ts : List TieD) (w : World) (hk : k ≤ 32) (hl : ts.length ≤ 512) (hh : h ≤ 1000) (hv : ∀ t ∈ ts, tieB t k = true) (hs : TiesAt w a ts) (hb : Blk w bc [.int .i64 k, .slice a ts.length cap] 24) :
    Calls Tryz.prog 58 #[.int .i64 h, .pointer (some ⟨bc, 0, none⟩)] w fun e w' => e = .returned (.bool (snP k ts h)) ∧ Below w.heap.size w w' := by
  have HST : Hid (∀ W, Below w.heap.size w W → Calls Tryz.prog 60 #[.agg #[.int .i64 k, .slice a ts.length cap], .int .i64 ((h : Int) + 1)] W fun e w' => ∃ a' c', e = .returned (.agg #[.int .i64 k, .slice a' (stF ts ((h : Int) + 1)).length c']) ∧ TiesAt w' a' (stF ts ((h : Int) + 1)) ∧ Below W.heap.size W w') := fun W hb => (strong_any ((h : Int) + 1) k a cap ts W (by omega) (hs.below hb)).mono fun e w' ⟨a', c', h1, h2, h3⟩ => ⟨a', c', h1, h2.1, h3⟩
  have HCO : Hid (∀ W a' c', TiesAt W a' (stF ts ((h : Int) + 1)) → Calls Tryz.prog 59 #[.agg #[.int .i64 k, .slice a' (stF ts ((h : Int) + 1)).length c']] W fun e w' => e = .returned (.bool (conF k (stF ts ((h : Int) + 1)))) ∧ Below W.heap.size W w') := fun W a' c' h1 => contradicts_any k a' c' (stF ts ((h : Int) + 1)) W hk (Nat.le_trans (List.length_filter_le _ _) hl) (stF_valid hv) h1
  have e0 : snP k ts h = !conF k (stF ts ((h : Int) + 1)) := rfl
  rw [e0]
  generalize conF k (stF ts ((h : Int) + 1)) = C at *
  generalize stF ts ((h : Int) + 1) = us at *
  generalize ts.length = m at *
  have c0 := hb.cell (i := 0) rfl
  have c1 := hb.cell (i := 1) rfl
  have HB := Lib.hid (Below.refl w.heap.size w)
  clear hb hs hv hl e0 hk
  go_enter Tryz.func58, Tryz.ntmps58
  go_wp2_with (first | (go_at_call 60; go_loud (refine (HST.out _ HB.out).mono ?_; rintro e w1 ⟨a', c', rfl, ht, hb⟩; have HT := Lib.hid ht; have HB1 := Lib.hid hb; clear hb ht)) | (go_at_call 59; go_loud (refine (HCO.out _ _ _ HT.out).mono ?_; rintro e w2 ⟨rfl, hb⟩; have HB2 := Lib.hid (HB1.out.trans (hb.mono HB1.out.size)); clear hb)))
  go_ret
  exact ⟨rfl, HB2.out⟩
set_option maxRecDepth 100000 in
set_option maxHeartbeats 4000000 in
theorem search_any (P : Nat → Bool) (bc N : Nat) (w : World) (hN : N ≤ 1000) (hm : ∀ i j, i ≤ j → P i = true → P j = true)
    (hK : ∀ h W, h < N → Below w.heap.size w W → Calls Tryz.prog 58 #[.int .i64 (h : Nat), .pointer (some ⟨bc, 0, none⟩)] W fun e w' => e = .returned (.bool (P h)) ∧ Below W.heap.size W w') :
    Calls Tryz.prog 57 #[.int .i64 N, .func (.func 58) #[] #[.pointer (some ⟨bc, 0, none⟩)]] w fun e w' => (∃ r : Nat, e = .returned (.int .i64 r) ∧ r ≤ N ∧ (∀ i, i < r → P i = false) ∧ (r < N → P r = true)) ∧ Below w.heap.size w w' := by
  have HK := Lib.hid hK
  have HM := Lib.hid hm
  have HS0 : Hid ((∀ i, i < 0 → P i = false) ∧ (N < N → P N = true)) := ⟨fun i h => by omega, fun h => by omega⟩
  have HB0 := Lib.hid (Below.refl w.heap.size w)
  clear hK hm
  go_enter Tryz.func57, Tryz.ntmps57
  go_wp2_with fail
  go_loopg [5, 6, 7] N (fun gk t5 t6 t7 wr => ∃ i j : Nat, i + gk = j ∧ j ≤ N ∧ t5 = .int .i64 i ∧ t6 = .int .i64 j ∧ Hid ((∀ x, x < i → P x = false) ∧ (j < N → P j = true)) ∧ Hid (Below w.heap.size w wr))
  case atStart => exact ⟨0, N, by omega, Nat.le_refl _, rfl, rfl, HS0, HB0⟩
  case round =>
    clear HS0 HB0
    obtain ⟨i, j, hij, hjN, rfl, rfl, HS, HB⟩ := hrel
    by_cases hlt : i < j
    · obtain ⟨h, hh⟩ : ∃ h : Nat, ((i : Int) + (j : Int)) / 2 = (h : Int) := ⟨(i + j) / 2, by omega⟩
      have hb1 : i ≤ h := by omega
      have hb2 : h < j := by omega
      have hb3 : h ≤ 1000 := by omega
      go_upto_region 4 with (fail)
      clear hh
      obtain ⟨b, hb⟩ : ∃ b, b = P h := ⟨_, rfl⟩
      have HKH : Hid (∀ W, Below w.heap.size w W → Calls Tryz.prog 58 #[.int .i64 (h : Nat), .pointer (some ⟨bc, 0, none⟩)] W fun e w' => e = .returned (.bool b) ∧ Below W.heap.size W w') := fun W hbw => by rw [hb]; exact HK.out h W (by omega) hbw
      have HPH : Hid (P h = b) := hb.symm
      clear hb
      cases b
      · have HS2 : Hid ((∀ x, x < h + 1 → P x = false) ∧ (j < N → P j = true)) := by
          refine ⟨fun x hx => ?_, HS.out.2⟩
          cases hpx : P x with
          | false => rfl
          | true => have := HM.out x h (by omega) hpx; rw [HPH.out] at this; cases this
        go_wp2_with (first | (go_at_call 58; go_loud (refine (HKH.out _ HB.out).mono ?_; rintro e w1 ⟨rfl, hbw⟩; have HB1 := Lib.hid (HB.out.trans (hbw.mono HB.out.size)); clear hbw)))
        go_roundg (j - (h + 1))
        case measure => omega
        case rel => exact ⟨h + 1, j, by omega, hjN, by simp, rfl, HS2, HB1⟩
      · have HS2 : Hid ((∀ x, x < i → P x = false) ∧ (h < N → P h = true)) := ⟨HS.out.1, fun _ => HPH.out⟩
        go_wp2_with (first | (go_at_call 58; go_loud (refine (HKH.out _ HB.out).mono ?_; rintro e w1 ⟨rfl, hbw⟩; have HB1 := Lib.hid (HB.out.trans (hbw.mono HB.out.size)); clear hbw)))
        go_roundg (h - i)
        case measure => omega
        case rel => exact ⟨i, h, by omega, by omega, rfl, rfl, HS2, HB1⟩
    · have e : i = j := by omega
      subst e
      go_wp2_with fail
      go_ret
      exact ⟨⟨i, rfl, hjN, HS.out⟩, HB.out⟩
end Go.Proofs.YthjeiaildabadaaGreat
