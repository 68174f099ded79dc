/- Layer 4: the specification's strong, over kept. -/
import Derived.Test.YtmnabonhilkkbaaGreatEp
namespace Go.Proofs.YtmnabonhilkkbaaGreat
set_option linter.unusedSimpArgs false
set_option linter.unusedVariables false
open Go Go.RowKit

/-- What kept does: the ties of which the list says so. -/
def KeptOk : Prop := ∀ (p : TieD → Bool) (n : Int) (a : Option Addr) (cap g : Nat) (ts : List TieD) (w : World), ts.length ≤ 1000 → TiesAt w a ts → Blk w g (bvL (ts.map p)) 4 →
    Calls Tryz.prog 35 #[gV n a ts.length cap, .slice (some ⟨g, 0, none⟩) ts.length ts.length] w (GRet n (ts.filter p) w)
set_option maxRecDepth 100000 in
set_option maxHeartbeats 4000000 in
theorem rstrong_any (HKO : KeptOk) (s : Int) (n : Int) (a : Option Addr) (cap : Nat) (ts : List TieD) (w : World) (hl : ts.length ≤ 1000) (hs : TiesAt w a ts) :
    Calls Tryz.prog 40 #[gV n a ts.length cap, .int .i64 s] w (GRet n (ts.filter fun t => decide (s ≤ t.str)) w) := by
  have HS := Lib.hid hs
  obtain ⟨p, hp⟩ : ∃ p : TieD → Bool, p = fun t => decide (s ≤ t.str) := ⟨_, rfl⟩
  have HP : Hid (∀ t : TieD, p t = decide (s ≤ t.str)) := fun t => by rw [hp]
  rw [← hp]
  clear hp
  have HA : Hid (∀ W, Calls Tryz.prog 36 #[gV n a ts.length cap] W fun e w' => ∃ g, e = .returned (.slice (some ⟨g, 0, none⟩) ts.length ts.length) ∧ Blk w' g (bvL (List.replicate ts.length true)) 4 ∧ W.heap.size ≤ g ∧ Below W.heap.size W w') := fun W => rAll_any n a cap ts W hl
  have HKP : Hid (∀ W g, Below w.heap.size w W → Blk W g (bvL (ts.map p)) 4 → Calls Tryz.prog 35 #[gV n a ts.length cap, .slice (some ⟨g, 0, none⟩) ts.length ts.length] W (GRet n (ts.filter p) W)) := fun W g hb hk => HKO p n a cap g ts W hl (hs.below hb) hk
  obtain ⟨m, hm⟩ : ∃ m, m = ts.length := ⟨_, rfl⟩
  have HL := Lib.hid hm
  rw [← hm] at hl HA HKP
  rw [← hm]
  clear hs hm HKO
  unfold GRet at HKP ⊢
  simp only [gV] at HA HKP ⊢
  obtain ⟨F, hF⟩ : ∃ F, F = ts.filter p := ⟨_, rfl⟩
  rw [← hF] at HKP ⊢
  clear hF
  have HB0 : Hid (Blk ((w.alloc (.cells #[.int .i64 n, .slice a m cap] 24)).alloc (.cells #[.int .i64 0, .slice none 0 0] 24)) w.heap.size [.int .i64 n, .slice a m cap] 24) := (Blk.new w _ _).block (Below.heap_alloc _ _ _ (by simp))
  have HZ0 : Hid (Blk ((w.alloc (.cells #[.int .i64 n, .slice a m cap] 24)).alloc (.cells #[.int .i64 0, .slice none 0 0] 24)) (w.heap.size + 1) [.int .i64 0, .slice none 0 0] 24) := by
    have := Blk.new (w.alloc (.cells #[.int .i64 n, .slice a m cap] 24)) [.int .i64 0, .slice none 0 0] 24
    simpa [Hid] using this
  have HW0 : Hid (Below w.heap.size w ((w.alloc (.cells #[.int .i64 n, .slice a m cap] 24)).alloc (.cells #[.int .i64 0, .slice none 0 0] 24))) := ((Below.refl _ _).alloc (Nat.le_refl _) _).alloc (by simp) _
  have c0 := HB0.out.cell (i := 0) rfl
  have c1 := HB0.out.cell (i := 1) rfl
  go_enter Tryz.func40, Tryz.ntmps40
  go_wp2_with (first | (go_at_call 36; refine (HA.out _).mono ?_; rintro e w1 ⟨g, rfl, hk, hg, hb⟩; clear HA c0 c1; have HG := Lib.hid hk; have HGE : Hid (w.heap.size + 1 < g) := Nat.lt_of_lt_of_le HZ0.out.lt hg; have HK := Lib.hid (HB0.out.below hb); have HZ := Lib.hid (HZ0.out.below hb); have HB := Lib.hid (HW0.out.trans (hb.mono HW0.out.size)); clear hk hg hb HB0 HW0 HZ0))
  obtain ⟨b1, hb1⟩ : ∃ b1, b1 = w.heap.size := ⟨_, rfl⟩
  have HB1 := Lib.hid hb1
  rw [← hb1] at HK HZ HGE ⊢
  obtain ⟨b4, hb4⟩ : ∃ b4, b4 = b1 + 1 := ⟨_, rfl⟩
  have HB4 := Lib.hid hb4
  rw [← hb4] at HZ HGE ⊢
  clear hb1 hb4
  go_loopg [6] m (fun gk t6 wr => ∃ k : Nat, k + gk = m ∧ t6 = .int .i64 k ∧ Hid (Blk wr g (bvL (filL (pAt p ts) (fun _ => true) m k)) 4) ∧ Hid (Blk wr b1 [.int .i64 n, .slice a m cap] 24) ∧ Hid (Blk wr b4 [.int .i64 0, .slice none 0 0] 24) ∧ Hid (Below w.heap.size w wr))
  case atStart => exact ⟨0, by omega, rfl, by rw [filL_zero, range_rep]; exact HG, HK, HZ, HB⟩
  case round =>
    clear HG HK HB HZ
    obtain ⟨k, hkg, rfl, HG, HK, HZ, HB⟩ := hrel
    by_cases hlt : k < m
    · have hkl : k < ts.length := by rw [← HL.out]; exact hlt
      obtain ⟨lb, lo, rfl, hlb, x0, x1, x2, x3, x4⟩ := (HS.out.below HB.out).at hkl
      have c1 := HK.out.cell (i := 1) rfl
      have hc := HG.out.cell (bvL_get (filL_get hlt))
      have hf := HG.out.frozen k
      obtain ⟨v, hv⟩ : ∃ v, v = pAt p ts k := ⟨_, rfl⟩
      have HV : Hid (decide (s ≤ ts[k].str) = v) := by rw [Hid, hv, pAt_get hkl, HP.out]
      have HN : Hid (Blk (wr.setCell ⟨g, k, none⟩ (.bool v)) g (bvL (filL (pAt p ts) (fun _ => true) m (k + 1))) 4) := by
        have h1 := HG.out.set_ k (.bool v)
        rw [hv, bvL_set, filL_set _ _ hlt] at h1
        rw [hv]; exact h1
      have o1 : Only g wr (wr.setCell ⟨g, k, none⟩ (.bool v)) := (Only.refl g wr).set_ k _
      have HKN : Hid (Blk (wr.setCell ⟨g, k, none⟩ (.bool v)) b1 [.int .i64 n, .slice (some ⟨lb, lo, none⟩) m cap] 24) := HK.out.only o1 (by have := HGE.out; have := HB4.out; omega)
      have HZN : Hid (Blk (wr.setCell ⟨g, k, none⟩ (.bool v)) b4 [.int .i64 0, .slice none 0 0] 24) := HZ.out.only o1 (by have := HGE.out; omega)
      have HBN : Hid (Below w.heap.size w (wr.setCell ⟨g, k, none⟩ (.bool v))) := HB.out.setCell (by have := HGE.out; have := HB1.out; have := HB4.out; show w.heap.size ≤ g; omega) _
      have t1 : decide (k < m) = true := decide_eq_true hlt
      generalize ts[k].str = xs at *
      have tv : decide (s ≤ xs) = v := HV
      clear hv hkl x0 x1 x2 x4 HV hlb o1
      go_wp2_with fail
      go_roundg (gk - 1)
      case measure => omega
      case rel => exact ⟨k + 1, by omega, by simp, HN, HKN, HZN, HBN⟩
    · have e : k = m := by omega
      subst e
      have t1 : decide (k < k) = false := by simp
      have HG2 : Hid (Blk wr g (bvL (ts.map p)) 4) := by have := HG.out; rw [filL_all, HL.out, pAt_all] at this; exact this
      have c0 := HK.out.cell (i := 0) rfl
      have c1 := HK.out.cell (i := 1) rfl
      clear HG
      go_wp2_with (first | (go_at_call 35; refine (HKP.out _ _ HB.out HG2.out).mono ?_; rintro e w5 ⟨a9, c9, rfl, hT, hb5⟩; clear HKP c0 c1; have HT := Lib.hid hT; have H4 := Lib.hid (HZ.out.below hb5); have HB5 := Lib.hid (HB.out.trans (hb5.mono HB.out.size)); have HLT : Hid (b4 < wr.heap.size ∧ w.heap.size ≤ wr.heap.size ∧ w.heap.size ≤ b4) := ⟨HZ.out.lt, HB.out.size, (by have := HB1.out; have := HB4.out; omega)⟩; clear hT hb5; have d0 := H4.out.cell (i := 0) rfl; have d1 := H4.out.cell (i := 1) rfl; have f0 := H4.out.frozen 0; have f1 := H4.out.frozen 1))
      refine named (fun V => Blk V b4 [.int .i64 n, .slice a9 F.length c9] 24 ∧ TiesNew w.heap.size V a9 F ∧ Below w.heap.size w V) ?_ ?_
      · have o2 : Only b4 w5 ((w5.setCell ⟨b4, 0, none⟩ (.int .i64 n)).setCell ⟨b4, 1, none⟩ (.slice a9 F.length c9)) := ((Only.refl b4 w5).set_ 0 _).set_ 1 _
        exact ⟨(H4.out.set_ 0 _).set_ 1 _, (HT.out.only o2 HLT.out.1).mono HLT.out.2.1, (HB5.out.setCell HLT.out.2.2 _).setCell HLT.out.2.2 _⟩
      rintro V ⟨V1, V2, V3⟩
      have e0 := V1.cell (i := 0) rfl
      have e1 := V1.cell (i := 1) rfl
      refine bodyPost_ret (v := .agg #[.int .i64 n, .slice a9 F.length c9]) (by simp [results, Tryz.results40, go_sem, e0, e1]) rfl ?_
      exact ⟨a9, c9, rfl, V2, V3⟩
end Go.Proofs.YtmnabonhilkkbaaGreat
