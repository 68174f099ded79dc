/- Layer 4: the specification's others and strong. -/
import Derived.Test.YtmnabonhilkkbaaGreatEo
namespace Go.Proofs.YtmnabonhilkkbaaGreat
set_option linter.unusedSimpArgs false
set_option linter.unusedVariables false
open Go Go.RowKit

def pAt (p : TieD → Bool) (ts : List TieD) (i : Nat) : Bool := match ts[i]? with | some t => p t | none => false
theorem pAt_all (p : TieD → Bool) (ts : List TieD) : (List.range ts.length).map (pAt p ts) = ts.map p := by
  apply List.ext_getElem?; intro i
  by_cases h : i < ts.length
  · simp [h, pAt]
  · simp [h, List.getElem?_eq_none]
theorem pAt_get {p : TieD → Bool} {ts : List TieD} {k : Nat} (h : k < ts.length) : pAt p ts k = p ts[k] := by
  unfold pAt; rw [List.getElem?_eq_getElem h]
set_option maxRecDepth 100000 in
set_option maxHeartbeats 4000000 in
theorem rOthers_any (s : Int) (n : Int) (a : Option Addr) (cap : Nat) (ts : List TieD) (w : World) (hl : ts.length ≤ 1000) (hs : TiesAt w a ts) :
    Calls Tryz.prog 46 #[gV n a ts.length cap, .int .i64 s] w fun e w' => ∃ g, e = .returned (.slice (some ⟨g, 0, none⟩) ts.length ts.length) ∧ Blk w' g (bvL (ts.map fun t => !(t.src == s))) 4 ∧ w.heap.size ≤ g ∧ Below w.heap.size w w' := by
  have HS := Lib.hid hs
  obtain ⟨p, hp⟩ : ∃ p : TieD → Bool, p = fun t => !(t.src == s) := ⟨_, rfl⟩
  have HP : Hid (∀ t : TieD, p t = !(t.src == s)) := fun t => by rw [hp]
  rw [← hp]
  clear hp
  have HA : Hid (∀ W, Calls Tryz.prog 36 #[gV n a ts.length cap] W fun e w' => ∃ g, e = .returned (.slice (some ⟨g, 0, none⟩) ts.length ts.length) ∧ Blk w' g (bvL (List.replicate ts.length true)) 4 ∧ W.heap.size ≤ g ∧ Below W.heap.size W w') := fun W => rAll_any n a cap ts W hl
  obtain ⟨m, hm⟩ : ∃ m, m = ts.length := ⟨_, rfl⟩
  have HL := Lib.hid hm
  rw [← hm] at hl HA ⊢
  clear hs hm
  simp only [gV] at HA ⊢
  have HB0 : Hid (Blk (w.alloc (.cells #[.int .i64 n, .slice a m cap] 24)) w.heap.size [.int .i64 n, .slice a m cap] 24) := Blk.new w _ _
  have HW0 : Hid (Below w.heap.size w (w.alloc (.cells #[.int .i64 n, .slice a m cap] 24))) := (Below.refl _ _).alloc (Nat.le_refl _) _
  have c0 := HB0.out.cell (i := 0) rfl
  have c1 := HB0.out.cell (i := 1) rfl
  go_enter Tryz.func46, Tryz.ntmps46
  go_wp2_with (first | (go_at_call 36; refine (HA.out _).mono ?_; rintro e w1 ⟨g, rfl, hk, hg, hb⟩; clear HA c0 c1; have HG := Lib.hid hk; have HGE : Hid (w.heap.size < g) := Nat.lt_of_lt_of_le HB0.out.lt hg; have HK := Lib.hid (HB0.out.below hb); have HB := Lib.hid (HW0.out.trans (hb.mono HW0.out.size)); clear hk hg hb HB0 HW0))
  obtain ⟨b1, hb1⟩ : ∃ b1, b1 = w.heap.size := ⟨_, rfl⟩
  have HB1 := Lib.hid hb1
  rw [← hb1] at HK HGE ⊢
  clear hb1
  go_loopg [6] m (fun gk t6 wr => ∃ k : Nat, k + gk = m ∧ t6 = .int .i64 k ∧ Hid (Blk wr g (bvL (filL (pAt p ts) (fun _ => true) m k)) 4) ∧ Hid (Blk wr b1 [.int .i64 n, .slice a m cap] 24) ∧ Hid (Below w.heap.size w wr))
  case atStart => exact ⟨0, by omega, rfl, by rw [filL_zero, range_rep]; exact HG, HK, HB⟩
  case round =>
    clear HG HK HB
    obtain ⟨k, hkg, rfl, HG, HK, HB⟩ := hrel
    by_cases hlt : k < m
    · have hkl : k < ts.length := by rw [← HL.out]; exact hlt
      obtain ⟨lb, lo, rfl, hlb, x0, x1, x2, x3, x4⟩ := (HS.out.below HB.out).at hkl
      have c1 := HK.out.cell (i := 1) rfl
      have hc := HG.out.cell (bvL_get (filL_get hlt))
      have hf := HG.out.frozen k
      obtain ⟨v, hv⟩ : ∃ v, v = pAt p ts k := ⟨_, rfl⟩
      have HV : Hid ((ts[k].src != s) = v) := by rw [Hid, hv, pAt_get hkl, HP.out]; rfl
      have HN : Hid (Blk (wr.setCell ⟨g, k, none⟩ (.bool v)) g (bvL (filL (pAt p ts) (fun _ => true) m (k + 1))) 4) := by
        have h1 := HG.out.set_ k (.bool v)
        rw [hv, bvL_set, filL_set _ _ hlt] at h1
        rw [hv]; exact h1
      have HKN : Hid (Blk (wr.setCell ⟨g, k, none⟩ (.bool v)) b1 [.int .i64 n, .slice (some ⟨lb, lo, none⟩) m cap] 24) := HK.out.only ((Only.refl g wr).set_ k _) (by have := HGE.out; omega)
      have HBN : Hid (Below w.heap.size w (wr.setCell ⟨g, k, none⟩ (.bool v))) := HB.out.setCell (by have := HGE.out; have := HB1.out; show w.heap.size ≤ g; omega) _
      have t1 : decide (k < m) = true := decide_eq_true hlt
      generalize ts[k].src = xs at *
      have tv : (xs != s) = v := HV
      clear hv hkl x0 x1 x2 x3 HV hlb
      go_wp2_with fail
      go_roundg (gk - 1)
      case measure => omega
      case rel => exact ⟨k + 1, by omega, by simp, HN, HKN, HBN⟩
    · have e : k = m := by omega
      subst e
      have t1 : decide (k < k) = false := by simp
      go_wp2_with fail
      go_ret
      exact ⟨g, rfl, by have := HG.out; rw [filL_all, HL.out, pAt_all] at this; exact this, by have := HGE.out; have := HB1.out; omega, HB.out⟩
end Go.Proofs.YtmnabonhilkkbaaGreat
