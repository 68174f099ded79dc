/- Layer 4: Clash, where the graph is bad or does not contradict itself. -/
import Derived.Test.YthjeiaildabadaaGreatKb
import Derived.Test.YthjeiaildabadaaGreatUg
namespace Go.Proofs.YthjeiaildabadaaGreat
set_option linter.unusedSimpArgs false
set_option linter.unusedVariables false
open Go Go.RowKit

set_option maxRecDepth 100000 in
set_option maxHeartbeats 4000000 in
theorem clash_bad (n : Int) (a : Option Addr) (cap : Nat) (ts : List TieD) (w : World) (hl : ts.length ≤ 9223372036854775807) (h0 : errG n ts ≠ 0) (hs : TiesAt w a ts) :
    Calls Tryz.prog 30 #[gV n a ts.length cap] w fun e w' => e = .returned (.tuple #[.slice none 0 0, .bool false, .int .i64 (errG n ts)]) ∧ Below w.heap.size w w' := by
  have HP : Hid (∀ W, Below w.heap.size w W → Calls Tryz.prog 24 #[gV n a ts.length cap] W fun e w' => e = .returned (.int .i64 (errG n ts)) ∧ Below W.heap.size W w') := fun W hb => tCheck_any n a cap ts W hl (hs.below hb)
  generalize errG n ts = E at *
  generalize ts.length = m at *
  have HB0 : Hid (Below w.heap.size w (w.alloc (.cells #[.int .i64 n, .slice a m cap] 24))) := (Below.refl _ _).alloc (Nat.le_refl _) _
  clear hl hs
  have HK := Lib.hid (Blk.new w [.int .i64 n, .slice a m cap] 24)
  simp only [gV] at HP ⊢
  go_enter Tryz.func30, Tryz.ntmps30
  go_wp2_with (first | (go_at_call 24; refine (HP.out _ HB0.out).mono ?_; rintro e w1 ⟨rfl, hb⟩; clear HP; have HB1 := Lib.hid (HB0.out.trans (hb.mono HB0.out.size)); clear hb))
  go_ret3
  exact ⟨rfl, HB1.out⟩
set_option maxRecDepth 100000 in
set_option maxHeartbeats 4000000 in
theorem clash_none (k : Nat) (a : Option Addr) (cap : Nat) (ts : List TieD) (w : World) (hk : k ≤ 32) (hl : ts.length ≤ 512) (hv : ∀ t ∈ ts, tieB t k = true) (h0 : errG k ts = 0) (hn : ts.any (wrB (grpL k ts)) = false) (hs : TiesAt w a ts) :
    Calls Tryz.prog 30 #[gV k a ts.length cap] w fun e w' => e = .returned (.tuple #[.slice none 0 0, .bool false, .int .i64 0]) ∧ Below w.heap.size w w' := by
  have HP : Hid (∀ W, Below w.heap.size w W → Calls Tryz.prog 24 #[gV k a ts.length cap] W fun e w' => e = .returned (.int .i64 0) ∧ Below W.heap.size W w') := fun W hb => by
    have h := tCheck_any k a cap ts W (by omega) (hs.below hb); rw [h0] at h; exact h
  have HBE : Hid (∀ W, Below w.heap.size w W → Calls Tryz.prog 43 #[gV k a ts.length cap] W fun e w' => ∃ g, e = .returned (wkV k a ts.length cap g k) ∧ W.heap.size ≤ g ∧ NB w' g (grpL k ts) ∧ Below W.heap.size W w') := fun W hb => begin_any k a cap ts W hk hl hv (hs.below hb)
  have HWR : Hid (∀ W g, Below w.heap.size w W → NB W g (grpL k ts) → Calls Tryz.prog 62 #[wkV k a ts.length cap g k] W fun e w' => e = .returned (.int .i64 (-1)) ∧ Below W.heap.size W w') := fun W g hb hg => (wrong_any a cap ts g k (grpL k ts) W (by omega) (hs.below hb) (grpL_len _ _) hk hv hg).mono fun e w' ⟨⟨r, h1, h2⟩, h3⟩ => by
    rcases h2 with ⟨rfl, _⟩ | ⟨j, t, _, hj, ht, _⟩
    · exact ⟨h1, h3⟩
    · rw [List.any_eq_false] at hn
      exact absurd ht (hn t (List.mem_of_getElem? hj))
  obtain ⟨m, hm⟩ : ∃ m, m = ts.length := ⟨_, rfl⟩
  rw [← hm] at HP HBE HWR ⊢
  have HK := Lib.hid (Blk.new w [.int .i64 k, .slice a m cap] 24)
  have HB0 : Hid (Below w.heap.size w (w.alloc (.cells #[.int .i64 k, .slice a m cap] 24))) := (Below.refl _ _).alloc (Nat.le_refl _) _
  clear hm hs h0 hl hv hk hn
  simp only [gV, wkV] at HP HBE HWR ⊢
  go_enter Tryz.func30, Tryz.ntmps30
  go_wp2_with (first | (go_at_call 24; refine (HP.out _ HB0.out).mono ?_; rintro e w1 ⟨rfl, hb⟩; clear HP; have HK1 := Lib.hid (HK.out.below hb); have HB1 := Lib.hid (HB0.out.trans (hb.mono HB0.out.size)); clear hb; have c0 := HK1.out.cell (i := 0) rfl; have c1 := HK1.out.cell (i := 1) rfl) | (go_at_call 43; refine (HBE.out _ HB1.out).mono ?_; rintro e w2 ⟨g, rfl, _, hng, hb⟩; clear HBE c0 c1; have HNG := Lib.hid hng; have HB2 := Lib.hid (HB1.out.trans (hb.mono HB1.out.size)); clear hb hng) | (go_at_call 62; go_loud (refine (HWR.out _ g (HB2.out.alloc HB2.out.size _) (HNG.out.block (((Below.refl w2.heap.size w2).alloc (Nat.le_refl _) _).block _ HNG.out.lt))).mono ?_; rintro e w3 ⟨rfl, hb3⟩); clear HWR; have HB3 := Lib.hid ((HB2.out.alloc HB2.out.size _).trans (hb3.mono (by have := HB2.out.size; simp; omega))); clear hb3))
  go_ret3
  exact ⟨rfl, HB3.out⟩
end Go.Proofs.YthjeiaildabadaaGreat
