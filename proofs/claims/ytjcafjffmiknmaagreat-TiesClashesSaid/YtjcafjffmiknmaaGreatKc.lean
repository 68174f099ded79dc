/- Layer 4: Clash, where the graph is bad or does not contradict itself. / Layer 4: Clash, where the graph contradicts itself. / Layer 4: agrees of the law TiesFollows. / Layer 4: agrees2 of the law TiesFollows, at what is a list of least ones. / Layer 4: the mathematics of TiesFollows. / Layer 4: Clash by its truth value alone. -/
import Derived.Test.YtjcafjffmiknmaaGreatKb
import Derived.Test.YtjcafjffmiknmaaGreatUg
/- Layer 4: Clash, where the graph is bad or does not contradict itself. -/
namespace Go.Proofs.YtjcafjffmiknmaaGreat
set_option linter.unusedSimpArgs false
set_option linter.unusedVariables false
open Go Go.RowKit

set_option maxRecDepth 100000 in
set_option maxHeartbeats 4000000 in
theorem clash_bad (n : Int) (a : Option Addr) (cap : Nat) (ts : List TieD) (w : World) (hl : ts.length ≤ 9223372036854775807) (h0 : errG n ts ≠ 0) (hs : TiesAt w a ts) :
    Calls Tryz.prog 19 #[gV n a ts.length cap] w fun e w' => e = .returned (.tuple #[.slice none 0 0, .bool false, .int .i64 (errG n ts)]) ∧ Below w.heap.size w w' := by
  have HP : Hid (∀ W, Below w.heap.size w W → Calls Tryz.prog 22 #[gV n a ts.length cap] W fun e w' => e = .returned (.int .i64 (errG n ts)) ∧ Below W.heap.size W w') := fun W hb => tCheck_any n a cap ts W hl (hs.below hb)
  generalize errG n ts = E at *
  generalize ts.length = m at *
  have HB0 : Hid (Below w.heap.size w (w.alloc (.cells #[.int .i64 n, .slice a m cap] 24))) := (Below.refl _ _).alloc (Nat.le_refl _) _
  clear hl hs
  have HK := Lib.hid (Blk.new w [.int .i64 n, .slice a m cap] 24)
  simp only [gV] at HP ⊢
  go_enter Tryz.func19, Tryz.ntmps19
  go_wp2_with (first | (go_at_call 22; refine (HP.out _ HB0.out).mono ?_; rintro e w1 ⟨rfl, hb⟩; clear HP; have HB1 := Lib.hid (HB0.out.trans (hb.mono HB0.out.size)); clear hb))
  go_ret3
  exact ⟨rfl, HB1.out⟩
set_option maxRecDepth 100000 in
set_option maxHeartbeats 4000000 in
theorem clash_none (k : Nat) (a : Option Addr) (cap : Nat) (ts : List TieD) (w : World) (hk : k ≤ 32) (hl : ts.length ≤ 512) (hv : ∀ t ∈ ts, tieB t k = true) (h0 : errG k ts = 0) (hn : ts.any (wrB (grpL k ts)) = false) (hs : TiesAt w a ts) :
    Calls Tryz.prog 19 #[gV k a ts.length cap] w fun e w' => e = .returned (.tuple #[.slice none 0 0, .bool false, .int .i64 0]) ∧ Below w.heap.size w w' := by
  have HP : Hid (∀ W, Below w.heap.size w W → Calls Tryz.prog 22 #[gV k a ts.length cap] W fun e w' => e = .returned (.int .i64 0) ∧ Below W.heap.size W w') := fun W hb => by
    have h := tCheck_any k a cap ts W (by omega) (hs.below hb); rw [h0] at h; exact h
  have HBE : Hid (∀ W, Below w.heap.size w W → Calls Tryz.prog 46 #[gV k a ts.length cap] W fun e w' => ∃ g, e = .returned (wkV k a ts.length cap g k) ∧ W.heap.size ≤ g ∧ NB w' g (grpL k ts) ∧ Below W.heap.size W w') := fun W hb => begin_any k a cap ts W hk hl hv (hs.below hb)
  have HWR : Hid (∀ W g, Below w.heap.size w W → NB W g (grpL k ts) → Calls Tryz.prog 47 #[wkV k a ts.length cap g k] W fun e w' => e = .returned (.int .i64 (-1)) ∧ Below W.heap.size W w') := fun W g hb hg => (wrong_any a cap ts g k (grpL k ts) W (by omega) (hs.below hb) (grpL_len _ _) hk hv hg).mono fun e w' ⟨⟨r, h1, h2⟩, h3⟩ => by
    rcases h2 with ⟨rfl, _⟩ | ⟨j, t, _, hj, ht, _⟩
    · exact ⟨h1, h3⟩
    · rw [List.any_eq_false] at hn
      exact absurd ht (hn t (List.mem_of_getElem? hj))
  obtain ⟨m, hm⟩ : ∃ m, m = ts.length := ⟨_, rfl⟩
  rw [← hm] at HP HBE HWR ⊢
  have HK := Lib.hid (Blk.new w [.int .i64 k, .slice a m cap] 24)
  have HB0 : Hid (Below w.heap.size w (w.alloc (.cells #[.int .i64 k, .slice a m cap] 24))) := (Below.refl _ _).alloc (Nat.le_refl _) _
  clear hm hs h0 hl hv hk hn
  simp only [gV, wkV] at HP HBE HWR ⊢
  go_enter Tryz.func19, Tryz.ntmps19
  go_wp2_with (first | (go_at_call 22; refine (HP.out _ HB0.out).mono ?_; rintro e w1 ⟨rfl, hb⟩; clear HP; have HK1 := Lib.hid (HK.out.below hb); have HB1 := Lib.hid (HB0.out.trans (hb.mono HB0.out.size)); clear hb; have c0 := HK1.out.cell (i := 0) rfl; have c1 := HK1.out.cell (i := 1) rfl) | (go_at_call 46; refine (HBE.out _ HB1.out).mono ?_; rintro e w2 ⟨g, rfl, _, hng, hb⟩; clear HBE c0 c1; have HNG := Lib.hid hng; have HB2 := Lib.hid (HB1.out.trans (hb.mono HB1.out.size)); clear hb hng) | (go_at_call 47; go_loud (refine (HWR.out _ g (HB2.out.alloc HB2.out.size _) (HNG.out.block (((Below.refl w2.heap.size w2).alloc (Nat.le_refl _) _).block _ HNG.out.lt))).mono ?_; rintro e w3 ⟨rfl, hb3⟩); clear HWR; have HB3 := Lib.hid ((HB2.out.alloc HB2.out.size _).trans (hb3.mono (by have := HB2.out.size; simp; omega))); clear hb3))
  go_ret3
  exact ⟨rfl, HB3.out⟩
end Go.Proofs.YtjcafjffmiknmaaGreat
/- Layer 4: Clash, where the graph contradicts itself. -/
namespace Go.Proofs.YtjcafjffmiknmaaGreat
set_option linter.unusedSimpArgs false
set_option linter.unusedVariables false
open Go Go.RowKit

/-- The chain that Clash takes. -/
def ChL (ts : List TieD) (x y : Int) (l : List Int) : Prop := (WayL ts 0 x y l ∧ leadF ts l (x, 0) = some (y, ((0 : Nat) : Int))) ∨ (l = [] ∧ ∀ l' : List Int, leadF ts l' (x, 0) ≠ some (y, ((0 : Nat) : Int)))
def chW (ts : List TieD) (x y : Int) (B : Nat) : Word := fun u w => ∃ (l : List Int) (r : Option Addr) (k : Nat), u = .slice r l.length k ∧ l.length < 64 ∧ ChL ts x y l ∧ w.ownsRow B 3 1 (.slice r l.length k) l.length (ivL l)
def chT (ts : List TieD) (x y : Int) (B : Nat) : Word := fun u w => ∃ u' v, u = .tuple #[u', .bool v] ∧ chW ts x y B u' w
def blW : Word := fun u w => ∃ v, u = .bool v
theorem chW_lasts {w0 : World} (ts : List TieD) (x y : Int) (B : Nat) : lasts (clOld w0) (chW ts x y B) := fun v w w' _ hR ⟨l, r, k, h1, h2, h3, h4⟩ => ⟨l, r, k, h1, h2, h3, own_below h4 hR⟩
theorem chT_lasts {w0 : World} (ts : List TieD) (x y : Int) (B : Nat) : lasts (clOld w0) (chT ts x y B) := fun v w w' _ hR ⟨u', b, h1, l, r, k, h2, h3, h4, h5⟩ => ⟨u', b, h1, l, r, k, h2, h3, h4, own_below h5 hR⟩
theorem blW_lasts {w0 : World} : lasts (clOld w0) blW := fun v w w' _ _ h => h
theorem WP.ch {ts : List TieD} {x y : Int} {B : Nat} {u : Value} {v : Bool} {w : World} (h : WP ts 0 x y B u v w) : chW ts x y B u w := by
  rcases h with ⟨_, h2, h3⟩ | ⟨_, l, r, k, h2, h3, h4, h5, h6⟩
  · exact ⟨[], none, 0, h2, by simp, .inr ⟨rfl, h3⟩, World.ownsRow_nil _ _ _ _⟩
  · exact ⟨l, r, k, h5, h4, .inl ⟨h2, h3⟩, h6⟩
set_option maxRecDepth 100000 in
set_option maxHeartbeats 8000000 in
theorem clash_some (k : Nat) (a : Option Addr) (cap : Nat) (ts : List TieD) (w : World) (hk : k ≤ 32) (hl : ts.length ≤ 512) (hv : ∀ t ∈ ts, tieB t k = true) (h0 : errG k ts = 0) (hn : ts.any (wrB (grpL k ts)) = true) (hs : TiesAt w a ts) :
    Calls Tryz.prog 19 #[gV k a ts.length cap] w fun e w' => (∃ (j : Nat) (t : TieD) (l : List Int) (r : Option Addr) (c : Nat), ts[j]? = some t ∧ wrB (grpL k ts) t = true ∧ ChL ts t.a t.b l ∧ l.length < 64 ∧ e = .returned (.tuple #[.slice r (l.length + 1) c, .bool true, .int .i64 0]) ∧ w'.ownsRow w.heap.size 3 1 (.slice r (l.length + 1) c) (l.length + 1) (ivL ((l ++ [(j : Int)]).mergeSort fun x y => decide (x ≤ y)))) ∧ Below w.heap.size w w' := by
  have HP : Hid (∀ W, Below w.heap.size w W → Calls Tryz.prog 22 #[gV k a ts.length cap] W fun e w' => e = .returned (.int .i64 0) ∧ Below W.heap.size W w') := fun W hb => by
    have h := tCheck_any k a cap ts W (by omega) (hs.below hb); rw [h0] at h; exact h
  have HBE : Hid (∀ W, Below w.heap.size w W → Calls Tryz.prog 46 #[gV k a ts.length cap] W fun e w' => ∃ g, e = .returned (wkV k a ts.length cap g k) ∧ W.heap.size ≤ g ∧ NB w' g (grpL k ts) ∧ Below W.heap.size W w') := fun W hb => begin_any k a cap ts W hk hl hv (hs.below hb)
  have HWR : Hid (∀ W g, Below w.heap.size w W → NB W g (grpL k ts) → Calls Tryz.prog 47 #[wkV k a ts.length cap g k] W fun e w' => (∃ (j : Nat) (t : TieD), e = .returned (.int .i64 j) ∧ ts[j]? = some t ∧ wrB (grpL k ts) t = true) ∧ Below W.heap.size W w') := fun W g hb hg => (wrong_any a cap ts g k (grpL k ts) W (by omega) (hs.below hb) (grpL_len _ _) hk hv hg).mono fun e w' ⟨⟨r, h1, h2⟩, h3⟩ => by
    rcases h2 with ⟨rfl, h4⟩ | ⟨j, t, rfl, hj, ht, _⟩
    · rw [hn] at h4; cases h4
    · exact ⟨⟨j, t, h1, hj, ht⟩, h3⟩
  have HSH : Hid (∀ W gv t, t ∈ ts → Below w.heap.size w W → Calls Tryz.prog 48 #[.agg #[.int .i64 k, .slice a ts.length cap, gv], .int .i64 t.a, .int .i64 t.b, .int .i64 0] W fun e w' => ∃ u, e = .returned u ∧ Below W.heap.size W w' ∧ chT ts t.a t.b w.heap.size u w') := fun W gv t ht hb => (shortest_wp k a cap ts gv t.a t.b 0 W hl hk hv (by have h := hv t ht; unfold tieB at h; simp only [Bool.and_eq_true] at h ⊢; exact ⟨h.1.1.1.1.1, h.1.1.1.1.2⟩) (by omega) (hs.below hb)).mono fun e w' ⟨u, v, h1, h2, h3⟩ => ⟨_, h1, h3, u, v, rfl, (h2.mono hb.size).ch⟩
  have HS := Lib.hid hs
  obtain ⟨m, hm⟩ : ∃ m, m = ts.length := ⟨_, rfl⟩
  have HM := Lib.hid hm
  rw [← hm] at HP HBE HWR HSH ⊢
  have HK := Lib.hid (Blk.new w [.int .i64 k, .slice a m cap] 24)
  have HB0 : Hid (Below w.heap.size w (w.alloc (.cells #[.int .i64 k, .slice a m cap] 24))) := (Below.refl _ _).alloc (Nat.le_refl _) _
  clear hm hs h0 hl hv hk hn
  simp only [gV, wkV] at HP HBE HWR ⊢
  go_enter Tryz.func19, Tryz.ntmps19
  go_upto_region 8 with (first | (go_at_call 22; refine (HP.out _ HB0.out).mono ?_; rintro e w1 ⟨rfl, hb⟩; clear HP; have HK1 := Lib.hid (HK.out.below hb); have HB1 := Lib.hid (HB0.out.trans (hb.mono HB0.out.size)); clear hb; have c0 := HK1.out.cell (i := 0) rfl; have c1 := HK1.out.cell (i := 1) rfl) | (go_at_call 46; refine (HBE.out _ HB1.out).mono ?_; rintro e w2 ⟨g, rfl, _, hng, hb⟩; clear HBE c0 c1; have HNG := Lib.hid hng; have HB2 := Lib.hid (HB1.out.trans (hb.mono HB1.out.size)); clear hb hng) | (go_at_call 47; go_loud (have HW2 := Lib.hid (Blk.new w2 [.int .i64 k, .slice a m cap, .slice (some ⟨g, 0, none⟩) k k] 68); generalize hb6 : w2.heap.size = b6 at HW2 ⊢; refine (HWR.out _ g (HB2.out.alloc HB2.out.size _) (HNG.out.block (((Below.refl w2.heap.size w2).alloc (Nat.le_refl _) _).block _ HNG.out.lt))).mono ?_; rintro e w3 ⟨⟨j, t, rfl, hjt, hwt⟩, hb3⟩); clear HWR; have HJ : Hid (j < m) := (by rw [HM.out]; exact (List.getElem?_eq_some_iff.1 hjt).1); have HTJ : Hid (ts[j]? = some t ∧ wrB (grpL k ts) t = true) := ⟨hjt, hwt⟩; have HW := Lib.hid (HW2.out.below hb3); have HB3 := Lib.hid ((HB2.out.alloc HB2.out.size _).trans (hb3.mono (by have := HB2.out.size; simp; omega))); clear hb3 hjt hwt hb6 HW2))
  have hjl : j < ts.length := by rw [← HM.out]; exact HJ.out
  have ht : t = ts[j] := by have h := HTJ.out.1; rw [List.getElem?_eq_getElem hjl] at h; injection h with h; exact h.symm
  obtain ⟨lb, lo, rfl, hlb, c0, c1, c2, c3, c4⟩ := (HS.out.below HB3.out).at hjl
  rw [← ht] at c0 c1
  clear c2 c3 c4
  have HST : Hid (∀ W gv, Below w.heap.size w W → Calls Tryz.prog 48 #[.agg #[.int .i64 k, .slice (some ⟨lb, lo, none⟩) m cap, gv], .int .i64 t.a, .int .i64 t.b, .int .i64 0] W fun e w' => ∃ u, e = .returned u ∧ Below W.heap.size W w' ∧ chT ts t.a t.b w.heap.size u w') := fun W gv hb => HSH.out W gv t (List.mem_of_getElem? HTJ.out.1) hb
  have HLB := Lib.hid hlb
  have HC0 := Lib.hid c0
  have HC1 := Lib.hid c1
  obtain ⟨ta, tb, tk, tq, tr⟩ := t
  simp only at HST HC0 HC1
  clear hjl ht hlb c0 c1 HSH
  have HOWD : Hid (∀ w1, (clOld w3.drew).C w1 → Below w3.heap.size w3 w1) := fun w1 hC => old_end (Below.refl _ _) hC (Nat.le_refl _)
  refine wp_region_old 21 48 (by kernel_rfl) (by kernel_rfl) (by rfl) ?_
  simp only [List.take_succ_cons, List.take_zero, List.drop_succ_cons, List.drop_zero, List.drop_nil]
  refine chain_load (.agg #[.int .i64 k, .slice (some ⟨lb, lo, none⟩) m cap, .slice (some ⟨g, 0, none⟩) k k]) _ _ _ (fun _ _ => Below.refl _ _) rfl rfl (by kernel_rfl) (by kernel_rfl) rfl (fun w1 hC => load_wk' ((HW.out.below (HOWD.out w1 hC)).cell rfl) ((HW.out.below (HOWD.out w1 hC)).cell rfl) ((HW.out.below (HOWD.out w1 hC)).cell rfl)) ?_
  refine chain_val (.pointer (some ⟨b6, 0, none⟩)) (fun _ _ => Below.refl _ _) rfl (by intro cs b h; cases h) (by kernel_rfl) (by kernel_rfl) (fun w1 _ => by simp [execOp, evE, lk_cons, lk_nil, slotL, go_sem]) ?_
  refine chain_val (.pointer (some ⟨b6, 1, none⟩)) (fun _ _ => Below.refl _ _) rfl (by intro cs b h; cases h) (by kernel_rfl) (by kernel_rfl) (fun w1 _ => by simp [execOp, evE, lk_cons, lk_nil, slotL, go_sem]) ?_
  refine chain_load (.slice (some ⟨lb, lo, none⟩) m cap) _ _ _ (fun _ _ => Below.refl _ _) rfl rfl (by kernel_rfl) (by kernel_rfl) rfl (fun w1 hC => load_slq ((HW.out.below (HOWD.out w1 hC)).cell rfl)) ?_
  refine chain_move (.int .i64 j) _ (fun _ _ => Below.refl _ _) rfl rfl (by kernel_rfl) (by kernel_rfl) rfl ?_
  refine chain_idx (.pointer (some ⟨lb, lo + j * 5, none⟩)) _ _ _ (.slice (some ⟨lb, lo, none⟩) m cap) (.int .i64 j) (fun _ _ => Below.refl _ _) rfl rfl (by kernel_rfl) (by kernel_rfl) rfl rfl (fun w1 => idx_tie _ _ _ _ _ HJ.out w1) ?_
  refine chain_val (.pointer (some ⟨lb, lo + j * 5, none⟩)) (fun _ _ => Below.refl _ _) rfl (by intro cs b h; cases h) (by kernel_rfl) (by kernel_rfl) (fun w1 _ => by simp [execOp, evE, lk_cons, lk_nil, slotL, go_sem]) ?_
  refine chain_load (.int .i64 ta) _ _ _ (fun _ _ => Below.refl _ _) rfl rfl (by kernel_rfl) (by kernel_rfl) rfl (fun w1 hC => load_i64 (by rw [Below.cell (HOWD.out w1 hC) (by exact HLB.out)]; exact HC0.out)) ?_
  refine chain_val (.pointer (some ⟨b6, 0, none⟩)) (fun _ _ => Below.refl _ _) rfl (by intro cs b h; cases h) (by kernel_rfl) (by kernel_rfl) (fun w1 _ => by simp [execOp, evE, lk_cons, lk_nil, slotL, go_sem]) ?_
  refine chain_val (.pointer (some ⟨b6, 1, none⟩)) (fun _ _ => Below.refl _ _) rfl (by intro cs b h; cases h) (by kernel_rfl) (by kernel_rfl) (fun w1 _ => by simp [execOp, evE, lk_cons, lk_nil, slotL, go_sem]) ?_
  refine chain_load (.slice (some ⟨lb, lo, none⟩) m cap) _ _ _ (fun _ _ => Below.refl _ _) rfl rfl (by kernel_rfl) (by kernel_rfl) rfl (fun w1 hC => load_slq ((HW.out.below (HOWD.out w1 hC)).cell rfl)) ?_
  refine chain_move (.int .i64 j) _ (fun _ _ => Below.refl _ _) rfl rfl (by kernel_rfl) (by kernel_rfl) rfl ?_
  refine chain_idx (.pointer (some ⟨lb, lo + j * 5, none⟩)) _ _ _ (.slice (some ⟨lb, lo, none⟩) m cap) (.int .i64 j) (fun _ _ => Below.refl _ _) rfl rfl (by kernel_rfl) (by kernel_rfl) rfl rfl (fun w1 => idx_tie _ _ _ _ _ HJ.out w1) ?_
  refine chain_val (.pointer (some ⟨lb, lo + j * 5 + 1, none⟩)) (fun _ _ => Below.refl _ _) rfl (by intro cs b h; cases h) (by kernel_rfl) (by kernel_rfl) (fun w1 _ => by simp [execOp, evE, lk_cons, lk_nil, slotL, go_sem]) ?_
  refine chain_load (.int .i64 tb) _ _ _ (fun _ _ => Below.refl _ _) rfl rfl (by kernel_rfl) (by kernel_rfl) rfl (fun w1 hC => load_i64 (by rw [Below.cell (HOWD.out w1 hC) (by exact HLB.out)]; exact HC1.out)) ?_
  refine chain_call_re (chT ts ta tb w.heap.size) 48 [.agg #[.int .i64 k, .slice (some ⟨lb, lo, none⟩) m cap, .slice (some ⟨g, 0, none⟩) k k], .int .i64 ta, .int .i64 tb, .int .i64 0] _ _ (chT_lasts _ _ _ _) (enters_of Tryz.func48 (by kernel_rfl) rfl) rfl rfl rfl (by kernel_rfl) (by kernel_rfl) rfl rfl (fun w1 hC => HST.out w1 _ (HB3.out.trans ((HOWD.out w1 hC).mono HB3.out.size))) ?_
  refine chain_move_re 38 (chT ts ta tb w.heap.size) (chT_lasts _ _ _ _) (fun _ _ => Below.refl _ _) rfl rfl (by kernel_rfl) rfl (by kernel_rfl) (fun _ => rfl) ?_
  refine chain_ext_re (chW ts ta tb w.heap.size) 22 0 (chT ts ta tb w.heap.size) (chW_lasts _ _ _ _) (fun _ _ => Below.refl _ _) rfl rfl (by kernel_rfl) rfl (by kernel_rfl) (fun _ => rfl) (fun x w1 ⟨u, v, hx, h⟩ => ⟨_, u, hx, rfl, h⟩) ?_
  refine chain_ext_re (blW) 22 1 (chT ts ta tb w.heap.size) (blW_lasts) (fun _ _ => Below.refl _ _) rfl rfl (by kernel_rfl) rfl (by kernel_rfl) (fun _ => rfl) (fun x w1 ⟨u, v, hx, h⟩ => ⟨_, .bool v, hx, rfl, v, rfl⟩) ?_
  refine chain_assign_re 39 (chW ts ta tb w.heap.size) (chW_lasts _ _ _ _) (fun _ _ => Below.refl _ _) rfl rfl (by kernel_rfl) rfl (by kernel_rfl) (fun _ => rfl) ?_
  refine chain_assign_re 40 (blW) (blW_lasts) (fun _ _ => Below.refl _ _) rfl rfl (by kernel_rfl) rfl (by kernel_rfl) (fun _ => rfl) ?_
  refine chain_end (by rfl) ?_
  intro xs w5 hCw5 hrew5
  simp only [layE, List.foldr_cons, List.foldr_nil, List.set_cons_succ, List.set_cons_zero]
  have hx8 : chW ts ta tb w.heap.size (xs 8) w5 := hrew5 8 _ rfl
  obtain ⟨l, r, q, he8, hl64, hch, hown⟩ := hx8
  simp only [he8]
  have HB5 : Hid (Below w.heap.size w w5) := HB3.out.trans ((HOWD.out w5 hCw5).mono HB3.out.size)
  have HL : Hid (l.length < 64 ∧ ChL ts ta tb l) := ⟨hl64, hch⟩
  have HA : Hid (Below w5.heap.size w5 (w5.alloc (.cells #[.int .i64 j] 3))) := (Below.refl _ _).alloc (Nat.le_refl _) _
  have HOA : Hid ((w5.alloc (.cells #[.int .i64 j] 3)).ownsRow w.heap.size 3 1 (.slice r l.length q) l.length (ivL l)) := own_below hown HA.out
  have HNEW : Hid ((w5.alloc (.cells #[.int .i64 j] 3)).cell? ⟨w5.heap.size, 0, none⟩ = some (.int .i64 j)) := (Blk.new w5 [.int .i64 j] 3).cell rfl
  have HSZ : Hid (w.heap.size ≤ (w5.alloc (.cells #[.int .i64 j] 3)).heap.size) := Nat.le_trans HB5.out.size HA.out.size
  clear he8 hl64 hch hown hCw5 hrew5 HOWD HST HC0 HC1 HLB HW
  generalize hlen : l.length = L at *
  go_upto_region 10 with (first | (at_builtin; go_loud (obtain ⟨f2, c2, w9, hr, hown, hgrow⟩ := own_int (w5.alloc (.cells #[.int .i64 j] 3)) w.heap.size L 25 r q (ivL l) w5.heap.size j HOA.out HNEW.out (by have := HL.out.1; omega) HSZ.out; refine Lib.wpList_append_run _ rfl _ _ _ _ rfl _ _ rfl rfl _ _ hr ?_; clear hr; have K9O := Lib.hid hown; have K9B : Hid (Below w.heap.size w w9) := (HB5.out.trans (HA.out.mono HB5.out.size)).grown hgrow (Nat.le_trans HB5.out.size HA.out.size) (fun q' hq' => (World.ownsRow.lt HOA.out q' hq').1); clear hown hgrow)))
  have HK9 : Hid (∀ W, w9 = W → Calls Tryz.prog 49 #[.slice f2 (L + 1) c2] W fun e w' => (∃ u, e = .returned u) ∧ w'.ownsRow w.heap.size 3 1 (.slice f2 (L + 1) c2) (L + 1) (ivL ((l ++ [(j : Int)]).mergeSort fun x y => decide (x ≤ y))) ∧ Below w.heap.size W w') := fun W e => by
    subst e
    have e1 : (l ++ [(j : Int)]).length = L + 1 := by simp [hlen]
    have h := sort_ok w9 w.heap.size f2 c2 (l ++ [(j : Int)]) (by have := HL.out.1; omega) (by simp) K9B.out.size (by rw [e1, ivL_snoc]; exact K9O.out)
    rw [e1] at h
    exact h
  go_wp2_with (first | (go_at_call 49; go_loud (refine (HK9.out _ rfl).mono ?_; rintro e w10 ⟨⟨u, rfl⟩, ho, hb⟩); have HO10 := Lib.hid ho; have HB10 := Lib.hid (K9B.out.trans hb); clear ho hb))
  go_ret3
  exact ⟨⟨j, _, l, f2, c2, HTJ.out.1, HTJ.out.2, HL.out.2, by rw [hlen]; exact HL.out.1, by rw [hlen]; rfl, by rw [hlen]; exact HO10.out⟩, HB10.out⟩
end Go.Proofs.YtjcafjffmiknmaaGreat
/- Layer 4: agrees of the law TiesFollows. -/
namespace Go.Proofs.YtjcafjffmiknmaaGreat
set_option linter.unusedSimpArgs false
set_option linter.unusedVariables false
open Go Go.RowKit

/-- People and a tie agree. -/
def agB (P : List Int) (t : TieD) : Bool := decide (atI P t.a = atI P t.b) == decide (t.kind = 2)
theorem neq_bool (x y : Operand) (p q r : Bool) (hr : r = (p != q)) (w : World) : (do eqGuard .neq 4 x y (.bool p) (.bool q); binOp .neq 4 (.bool p) (.bool q) : Sem Value).run Tryz.prog w = .ok (.bool r) w := by
  subst hr
  cases p <;> cases q <;> simp [go_sem]
set_option maxRecDepth 100000 in
set_option maxHeartbeats 4000000 in
theorem agrees_any (n : Int) (a : Option Addr) (cap cq : Nat) (ts : List TieD) (r : Option Addr) (P : List Int) (w : World) (hl : ts.length ≤ 100000) (hv : ∀ t ∈ ts, tieB t P.length = true) (hs : TiesAt w a ts) (hr : IntsAt w r P) :
    Calls Tryz.prog 26 #[gV n a ts.length cap, .slice r P.length cq] w fun e w' => e = .returned (.bool (ts.all (agB P))) ∧ Below w.heap.size w w' := by
  have HS := Lib.hid hs
  have HR := Lib.hid hr
  have HV := Lib.hid hv
  obtain ⟨m, hm⟩ : ∃ m, m = ts.length := ⟨_, rfl⟩
  have HM := Lib.hid hm
  obtain ⟨q, hq⟩ : ∃ q, q = P.length := ⟨_, rfl⟩
  have HQ := Lib.hid hq
  rw [← hm] at hl ⊢
  rw [← hq]
  have HK0 := Lib.hid (Blk.new w [.int .i64 n, .slice a m cap] 24)
  have HB0 : Hid (Below w.heap.size w (w.alloc (.cells #[.int .i64 n, .slice a m cap] 24))) := (Below.refl _ _).alloc (Nat.le_refl _) _
  clear hm hq hs hr hv
  have HN0 : Hid ((ts.take 0).all (agB P) = true) := by simp [Hid]
  simp only [gV]
  go_enter Tryz.func26, Tryz.ntmps26
  go_wp2_with fail
  go_loopg [5] m (fun gk t5 wr => ∃ j : Nat, j + gk = m ∧ t5 = .int .i64 j ∧ Hid ((ts.take j).all (agB P) = true) ∧ Hid (Blk wr w.heap.size [.int .i64 n, .slice a m cap] 24) ∧ Hid (Below w.heap.size w wr))
  case atStart => exact ⟨0, by omega, rfl, HN0, HK0, HB0⟩
  case round =>
    clear HN0 HK0 HB0
    obtain ⟨j, hjg, rfl, HN, HK, HB⟩ := hrel
    have k1 := HK.out.cell (i := 1) rfl
    by_cases hlt : j < m
    · have hjl : j < ts.length := by rw [← HM.out]; exact hlt
      obtain ⟨t, ht⟩ : ∃ t, t = ts[j] := ⟨_, rfl⟩
      have htm : t ∈ ts := by rw [ht]; exact List.getElem_mem hjl
      obtain ⟨lb, lo, rfl, hlb, c0, c1, c2, c3, c4⟩ := (HS.out.below HB.out).at hjl
      rw [← ht] at c0 c1 c2 c3 c4
      obtain ⟨g0, _, g1, _, g2, g3⟩ := tieB_in (HV.out t htm)
      have HST : Hid ((ts.take (j + 1)).all (agB P) = agB P t) := by
        rw [Hid, ← List.take_append_getElem hjl, List.all_append, HN.out, ← ht]; simp
      have HNO : Hid (agB P t = false → ts.all (agB P) = false) := fun h => List.all_eq_false.2 ⟨t, htm, by rw [h]; simp⟩
      clear hjl ht htm
      obtain ⟨za, zb, zk, zs, zr⟩ := t
      simp only at c0 c1 c2 c3 c4 g0 g1 g2 g3
      obtain ⟨xa, rfl⟩ := Int.eq_ofNat_of_zero_le g0
      obtain ⟨xb, rfl⟩ := Int.eq_ofNat_of_zero_le g1
      have ga : xa < P.length := by omega
      have gb : xb < P.length := by omega
      have HXB : Hid (xa < q ∧ xb < q) := ⟨by rw [HQ.out]; exact ga, by rw [HQ.out]; exact gb⟩
      obtain ⟨pb, po, rfl, hpb, pa1⟩ := (HR.out.below HB.out).at ga
      obtain ⟨pb', po', e2, _, pb1⟩ := (HR.out.below HB.out).at gb
      obtain ⟨rfl, rfl⟩ : pb = pb' ∧ po = po' := by simpa using e2
      obtain ⟨u, hu⟩ : ∃ u, u = P[xa] := ⟨_, rfl⟩
      obtain ⟨v, hvv⟩ : ∃ v, v = P[xb] := ⟨_, rfl⟩
      rw [← hu] at pa1
      rw [← hvv] at pb1
      obtain ⟨d1, hd1⟩ : ∃ d, d = decide (u = v) := ⟨_, rfl⟩
      obtain ⟨d2, hd2⟩ : ∃ d, d = decide (zk = 2) := ⟨_, rfl⟩
      have hag : agB P ⟨xa, xb, zk, zs, zr⟩ = (d1 == d2) := by
        have e1 : atI P (xa : Int) = u := by unfold atI; rw [Int.toNat_natCast, List.getElem?_eq_getElem ga, hu]; rfl
        have e3 : atI P (xb : Int) = v := by unfold atI; rw [Int.toNat_natCast, List.getElem?_eq_getElem gb, hvv]; rfl
        unfold agB
        rw [hd1, hd2]
        simp only [e1, e3]
      rw [hag] at HST HNO
      have HPA := Lib.hid pa1
      have HPB := Lib.hid pb1
      have HPL := Lib.hid hpb
      have HD1 := Lib.hid hd1
      have HD2 := Lib.hid hd2
      clear g0 g1 g2 g3 ga gb e2 pa1 pb1 hpb hu hvv hd1 hd2 hag
      go_upto_region 5 with (fail)
      have HT6 := Lib.hid (Blk.new wr [.int .i64 xa, .int .i64 xb, .int .i64 zk, .int .i64 zs, .int .i64 zr] 43)
      have HWR : Hid (Below wr.heap.size wr (wr.alloc (.cells #[.int .i64 xa, .int .i64 xb, .int .i64 zk, .int .i64 zs, .int .i64 zr] 43))) := (Below.refl _ _).alloc (Nat.le_refl _) _
      refine named (fun V => Hid (Blk V wr.heap.size [.int .i64 xa, .int .i64 xb, .int .i64 zk, .int .i64 zs, .int .i64 zr] 43) ∧ Hid (Below wr.heap.size wr V)) ⟨HT6, HWR⟩ ?_
      clear HT6 HWR
      rintro V ⟨HT6, HWR⟩
      generalize hb6 : wr.heap.size = b6 at HT6 ⊢
      clear hb6 c0 c1 c2 c3 c4
      have HOWD : Hid (∀ w1, (clOld V.drew).C w1 → Below V.heap.size V w1) := fun w1 hC => old_end (Below.refl _ _) hC (Nat.le_refl _)
      have HPX : Hid (∀ w1 x z, (clOld V.drew).C w1 → wr.cell? ⟨pb, x, none⟩ = some z → w1.cell? ⟨pb, x, none⟩ = some z) := fun w1 x z hC h => by rw [Below.cell (HOWD.out w1 hC) (by exact Nat.lt_of_lt_of_le HPL.out HWR.out.size), Below.cell HWR.out (by exact HPL.out)]; exact h
      rcases Bool.eq_false_or_eq_true (d1 == d2) with hdd | hdd

      · have HDD := Lib.hid hdd
        rw [hdd] at HST HNO
        clear hdd
        refine wp_region_old 15 34 (by kernel_rfl) (by kernel_rfl) (by rfl) ?_
        simp only [List.take_succ_cons, List.take_zero, List.drop_succ_cons, List.drop_zero, List.drop_nil]
        refine chain_move (.slice (some ⟨pb, po, none⟩) q cq) _ (fun _ _ => Below.refl _ _) rfl rfl (by kernel_rfl) (by kernel_rfl) rfl ?_
        refine chain_val (.pointer (some ⟨b6, 0, none⟩)) (fun _ _ => Below.refl _ _) rfl (by intro cs b h; cases h) (by kernel_rfl) (by kernel_rfl) (fun w1 _ => by simp [execOp, evE, lk_cons, lk_nil, slotL, go_sem]) ?_
        refine chain_load (.int .i64 xa) _ _ _ (fun _ _ => Below.refl _ _) rfl rfl (by kernel_rfl) (by kernel_rfl) rfl (fun w1 hC => load_i64 ((HT6.out.below (HOWD.out w1 hC)).cell rfl)) ?_
        refine chain_idx (.pointer (some ⟨pb, po + xa, none⟩)) _ _ _ (.slice (some ⟨pb, po, none⟩) q cq) (.int .i64 xa) (fun _ _ => Below.refl _ _) rfl rfl (by kernel_rfl) (by kernel_rfl) rfl rfl (fun w1 => idx_i64 _ _ _ _ _ HXB.out.1 w1) ?_
        refine chain_load (.int .i64 u) _ _ _ (fun _ _ => Below.refl _ _) rfl rfl (by kernel_rfl) (by kernel_rfl) rfl (fun w1 hC => load_i64 (HPX.out w1 _ _ hC HPA.out)) ?_
        refine chain_move (.slice (some ⟨pb, po, none⟩) q cq) _ (fun _ _ => Below.refl _ _) rfl rfl (by kernel_rfl) (by kernel_rfl) rfl ?_
        refine chain_val (.pointer (some ⟨b6, 1, none⟩)) (fun _ _ => Below.refl _ _) rfl (by intro cs b h; cases h) (by kernel_rfl) (by kernel_rfl) (fun w1 _ => by simp [execOp, evE, lk_cons, lk_nil, slotL, go_sem]) ?_
        refine chain_load (.int .i64 xb) _ _ _ (fun _ _ => Below.refl _ _) rfl rfl (by kernel_rfl) (by kernel_rfl) rfl (fun w1 hC => load_i64 ((HT6.out.below (HOWD.out w1 hC)).cell rfl)) ?_
        refine chain_idx (.pointer (some ⟨pb, po + xb, none⟩)) _ _ _ (.slice (some ⟨pb, po, none⟩) q cq) (.int .i64 xb) (fun _ _ => Below.refl _ _) rfl rfl (by kernel_rfl) (by kernel_rfl) rfl rfl (fun w1 => idx_i64 _ _ _ _ _ HXB.out.2 w1) ?_
        refine chain_load (.int .i64 v) _ _ _ (fun _ _ => Below.refl _ _) rfl rfl (by kernel_rfl) (by kernel_rfl) rfl (fun w1 hC => load_i64 (HPX.out w1 _ _ hC HPB.out)) ?_
        refine chain_bin (.bool d1) _ _ _ _ _ (.int .i64 u) (.int .i64 v) (fun _ _ => Below.refl _ _) rfl rfl (by kernel_rfl) (by kernel_rfl) rfl rfl (fun w1 => eql_i64 _ _ _ _ _ _ HD1.out w1) ?_
        refine chain_val (.pointer (some ⟨b6, 2, none⟩)) (fun _ _ => Below.refl _ _) rfl (by intro cs b h; cases h) (by kernel_rfl) (by kernel_rfl) (fun w1 _ => by simp [execOp, evE, lk_cons, lk_nil, slotL, go_sem]) ?_
        refine chain_load (.int .i64 zk) _ _ _ (fun _ _ => Below.refl _ _) rfl rfl (by kernel_rfl) (by kernel_rfl) rfl (fun w1 hC => load_i64 ((HT6.out.below (HOWD.out w1 hC)).cell rfl)) ?_
        refine chain_bin (.bool d2) _ _ _ _ _ (.int .i64 zk) (.int .i64 2) (fun _ _ => Below.refl _ _) rfl rfl (by kernel_rfl) (by kernel_rfl) rfl rfl (fun w1 => eql_i64 _ _ _ _ _ _ HD2.out w1) ?_
        refine chain_bin (.bool false) _ _ _ _ _ (.bool d1) (.bool d2) (fun _ _ => Below.refl _ _) rfl rfl (by kernel_rfl) (by kernel_rfl) rfl rfl (fun w1 => neq_bool _ _ _ _ _ (by have h := HDD.out; revert h; cases d1 <;> cases d2 <;> simp) w1) ?_
        refine chain_end (by rfl) ?_
        intro xs w5 hCw5 hrew5
        simp only [layE, List.foldr_cons, List.foldr_nil, List.set_cons_succ, List.set_cons_zero]
        have HY := Lib.hid (HWR.out.trans ((HOWD.out w5 hCw5).mono HWR.out.size))
        clear hCw5 hrew5 HOWD HPX
        go_wp2_with fail
        go_roundg (gk - 1)
        case measure => omega
        case rel => exact ⟨j + 1, by omega, by simp, HST.out, HK.out.below HY.out, HB.out.trans (HY.out.mono HB.out.size)⟩
      · have HDD := Lib.hid hdd
        rw [hdd] at HST HNO
        clear hdd
        refine wp_region_old 15 34 (by kernel_rfl) (by kernel_rfl) (by rfl) ?_
        simp only [List.take_succ_cons, List.take_zero, List.drop_succ_cons, List.drop_zero, List.drop_nil]
        refine chain_move (.slice (some ⟨pb, po, none⟩) q cq) _ (fun _ _ => Below.refl _ _) rfl rfl (by kernel_rfl) (by kernel_rfl) rfl ?_
        refine chain_val (.pointer (some ⟨b6, 0, none⟩)) (fun _ _ => Below.refl _ _) rfl (by intro cs b h; cases h) (by kernel_rfl) (by kernel_rfl) (fun w1 _ => by simp [execOp, evE, lk_cons, lk_nil, slotL, go_sem]) ?_
        refine chain_load (.int .i64 xa) _ _ _ (fun _ _ => Below.refl _ _) rfl rfl (by kernel_rfl) (by kernel_rfl) rfl (fun w1 hC => load_i64 ((HT6.out.below (HOWD.out w1 hC)).cell rfl)) ?_
        refine chain_idx (.pointer (some ⟨pb, po + xa, none⟩)) _ _ _ (.slice (some ⟨pb, po, none⟩) q cq) (.int .i64 xa) (fun _ _ => Below.refl _ _) rfl rfl (by kernel_rfl) (by kernel_rfl) rfl rfl (fun w1 => idx_i64 _ _ _ _ _ HXB.out.1 w1) ?_
        refine chain_load (.int .i64 u) _ _ _ (fun _ _ => Below.refl _ _) rfl rfl (by kernel_rfl) (by kernel_rfl) rfl (fun w1 hC => load_i64 (HPX.out w1 _ _ hC HPA.out)) ?_
        refine chain_move (.slice (some ⟨pb, po, none⟩) q cq) _ (fun _ _ => Below.refl _ _) rfl rfl (by kernel_rfl) (by kernel_rfl) rfl ?_
        refine chain_val (.pointer (some ⟨b6, 1, none⟩)) (fun _ _ => Below.refl _ _) rfl (by intro cs b h; cases h) (by kernel_rfl) (by kernel_rfl) (fun w1 _ => by simp [execOp, evE, lk_cons, lk_nil, slotL, go_sem]) ?_
        refine chain_load (.int .i64 xb) _ _ _ (fun _ _ => Below.refl _ _) rfl rfl (by kernel_rfl) (by kernel_rfl) rfl (fun w1 hC => load_i64 ((HT6.out.below (HOWD.out w1 hC)).cell rfl)) ?_
        refine chain_idx (.pointer (some ⟨pb, po + xb, none⟩)) _ _ _ (.slice (some ⟨pb, po, none⟩) q cq) (.int .i64 xb) (fun _ _ => Below.refl _ _) rfl rfl (by kernel_rfl) (by kernel_rfl) rfl rfl (fun w1 => idx_i64 _ _ _ _ _ HXB.out.2 w1) ?_
        refine chain_load (.int .i64 v) _ _ _ (fun _ _ => Below.refl _ _) rfl rfl (by kernel_rfl) (by kernel_rfl) rfl (fun w1 hC => load_i64 (HPX.out w1 _ _ hC HPB.out)) ?_
        refine chain_bin (.bool d1) _ _ _ _ _ (.int .i64 u) (.int .i64 v) (fun _ _ => Below.refl _ _) rfl rfl (by kernel_rfl) (by kernel_rfl) rfl rfl (fun w1 => eql_i64 _ _ _ _ _ _ HD1.out w1) ?_
        refine chain_val (.pointer (some ⟨b6, 2, none⟩)) (fun _ _ => Below.refl _ _) rfl (by intro cs b h; cases h) (by kernel_rfl) (by kernel_rfl) (fun w1 _ => by simp [execOp, evE, lk_cons, lk_nil, slotL, go_sem]) ?_
        refine chain_load (.int .i64 zk) _ _ _ (fun _ _ => Below.refl _ _) rfl rfl (by kernel_rfl) (by kernel_rfl) rfl (fun w1 hC => load_i64 ((HT6.out.below (HOWD.out w1 hC)).cell rfl)) ?_
        refine chain_bin (.bool d2) _ _ _ _ _ (.int .i64 zk) (.int .i64 2) (fun _ _ => Below.refl _ _) rfl rfl (by kernel_rfl) (by kernel_rfl) rfl rfl (fun w1 => eql_i64 _ _ _ _ _ _ HD2.out w1) ?_
        refine chain_bin (.bool true) _ _ _ _ _ (.bool d1) (.bool d2) (fun _ _ => Below.refl _ _) rfl rfl (by kernel_rfl) (by kernel_rfl) rfl rfl (fun w1 => neq_bool _ _ _ _ _ (by have h := HDD.out; revert h; cases d1 <;> cases d2 <;> simp) w1) ?_
        refine chain_end (by rfl) ?_
        intro xs w5 hCw5 hrew5
        simp only [layE, List.foldr_cons, List.foldr_nil, List.set_cons_succ, List.set_cons_zero]
        have HY := Lib.hid (HWR.out.trans ((HOWD.out w5 hCw5).mono HWR.out.size))
        clear hCw5 hrew5 HOWD HPX
        go_wp2_with fail
        go_ret
        exact ⟨by rw [HNO.out (by trivial)]; rfl, HB.out.trans (HY.out.mono HB.out.size)⟩
    · have HE : Hid (ts.all (agB P) = true) := by
        have := HN.out
        rwa [List.take_of_length_le (by rw [← HM.out]; omega)] at this
      go_wp2_with fail
      go_ret
      exact ⟨by rw [HE.out]; rfl, HB.out⟩
end Go.Proofs.YtjcafjffmiknmaaGreat
/- Layer 4: agrees2 of the law TiesFollows, at what is a list of least ones. -/
namespace Go.Proofs.YtjcafjffmiknmaaGreat
set_option linter.unusedSimpArgs false
set_option linter.unusedVariables false
open Go Go.RowKit

theorem lss_no (t : TypeId) (x y : Operand) (a b : Int) (hp : ¬ a < b) (w : World) : (do eqGuard .lss t x y (.int .i64 a) (.int .i64 b); binOp .lss t (.int .i64 a) (.int .i64 b) : Sem Value).run Tryz.prog w = .ok (.bool false) w := by
  simp [go_sem]; omega
set_option maxRecDepth 100000 in
set_option maxHeartbeats 4000000 in
theorem agrees2_any (n : Int) (a : Option Addr) (cap cq : Nat) (ts : List TieD) (r : Option Addr) (P : List Int) (w : World) (hl : ts.length ≤ 100000) (hp : P.length ≤ 100000) (hv : ∀ t ∈ ts, tieB t P.length = true) (hg : ∀ i, i < P.length → ∃ y : Nat, atI P i = y ∧ y ≤ i ∧ atI P y = y) (hs : TiesAt w a ts) (hr : IntsAt w r P) :
    Calls Tryz.prog 27 #[gV n a ts.length cap, .slice r P.length cq] w fun e w' => e = .returned (.bool (ts.all (agB P))) ∧ Below w.heap.size w w' := by
  have HAG : Hid (∀ W, Below w.heap.size w W → Calls Tryz.prog 26 #[gV n a ts.length cap, .slice r P.length cq] W fun e w' => e = .returned (.bool (ts.all (agB P))) ∧ Below W.heap.size W w') := fun W hb => agrees_any n a cap cq ts r P W hl hv (hs.below hb) (hr.below hb)
  have HR := Lib.hid hr
  have HG := Lib.hid hg
  obtain ⟨E, hE⟩ : ∃ E, E = ts.all (agB P) := ⟨_, rfl⟩
  rw [← hE] at HAG ⊢
  obtain ⟨m, hm⟩ : ∃ m, m = ts.length := ⟨_, rfl⟩
  rw [← hm] at HAG ⊢
  obtain ⟨q, hq⟩ : ∃ q, q = P.length := ⟨_, rfl⟩
  have HQ := Lib.hid hq
  rw [← hq] at HAG hp ⊢
  have HK0 := Lib.hid (Blk.new w [.int .i64 n, .slice a m cap] 24)
  have HB0 : Hid (Below w.heap.size w (w.alloc (.cells #[.int .i64 n, .slice a m cap] 24))) := (Below.refl _ _).alloc (Nat.le_refl _) _
  clear hE hm hq hs hr hv hg hl
  simp only [gV] at HAG ⊢
  go_enter Tryz.func27, Tryz.ntmps27
  go_wp2_with fail
  go_loopg [5] q (fun gk t5 wr => ∃ j : Nat, j + gk = q ∧ t5 = .int .i64 j ∧ Hid (Blk wr w.heap.size [.int .i64 n, .slice a m cap] 24) ∧ Hid (Below w.heap.size w wr))
  case atStart => exact ⟨0, by omega, rfl, HK0, HB0⟩
  case round =>
    clear HK0 HB0
    obtain ⟨j, hjg, rfl, HK, HB⟩ := hrel
    by_cases hlt : j < q
    · have hjl : j < P.length := by rw [← HQ.out]; exact hlt
      obtain ⟨y, hy1, hy2, hy3⟩ := HG.out j hjl
      have hyl : y < P.length := by omega
      obtain ⟨pb, po, rfl, hpb, pa1⟩ := (HR.out.below HB.out).at hjl
      obtain ⟨pb', po', e2, _, pb1⟩ := (HR.out.below HB.out).at hyl
      obtain ⟨rfl, rfl⟩ : pb = pb' ∧ po = po' := by simpa using e2
      have e1 : P[j] = (y : Int) := by unfold atI at hy1; rw [Int.toNat_natCast, List.getElem?_eq_getElem hjl] at hy1; exact hy1
      have e3 : P[y] = (y : Int) := by unfold atI at hy3; rw [Int.toNat_natCast, List.getElem?_eq_getElem hyl] at hy3; exact hy3
      rw [e1] at pa1
      rw [e3] at pb1
      have HPA := Lib.hid pa1
      have HPB := Lib.hid pb1
      have HPL := Lib.hid hpb
      have HXB : Hid (j < q ∧ y < q) := ⟨hlt, by rw [HQ.out]; exact hyl⟩
      have HYJ := Lib.hid hy2
      have HOWD : Hid (∀ w1, (clOld wr.drew).C w1 → Below wr.heap.size wr w1) := fun w1 hC => old_end (Below.refl _ _) hC (Nat.le_refl _)
      have HPX : Hid (∀ w1 x z, (clOld wr.drew).C w1 → wr.cell? ⟨pb, x, none⟩ = some z → w1.cell? ⟨pb, x, none⟩ = some z) := fun w1 x z hC h => by rw [Below.cell (HOWD.out w1 hC) (by exact HPL.out)]; exact h
      clear hjl hyl hy1 hy2 hy3 e1 e2 e3 pa1 pb1 hpb
      go_upto_region 4 with (fail)
      refine wp_region_old 27 42 (by kernel_rfl) (by kernel_rfl) (by rfl) ?_
      simp only [List.take_succ_cons, List.take_zero, List.drop_succ_cons, List.drop_zero, List.drop_nil]
      refine chain_move (.slice (some ⟨pb, po, none⟩) q cq) _ (fun _ _ => Below.refl _ _) rfl rfl (by kernel_rfl) (by kernel_rfl) rfl ?_
      refine chain_move (.int .i64 j) _ (fun _ _ => Below.refl _ _) rfl rfl (by kernel_rfl) (by kernel_rfl) rfl ?_
      refine chain_idx (.pointer (some ⟨pb, po + j, none⟩)) _ _ _ (.slice (some ⟨pb, po, none⟩) q cq) (.int .i64 j) (fun _ _ => Below.refl _ _) rfl rfl (by kernel_rfl) (by kernel_rfl) rfl rfl (fun w1 => idx_i64 _ _ _ _ _ HXB.out.1 w1) ?_
      refine chain_load (.int .i64 y) _ _ _ (fun _ _ => Below.refl _ _) rfl rfl (by kernel_rfl) (by kernel_rfl) rfl (fun w1 hC => load_i64 (HPX.out w1 _ _ hC HPA.out)) ?_
      refine chain_bin (.bool false) _ _ _ _ _ (.int .i64 y) (.int .i64 0) (fun _ _ => Below.refl _ _) rfl rfl (by kernel_rfl) (by kernel_rfl) rfl rfl (fun w1 => lss_no _ _ _ _ _ (by omega) w1) ?_
      refine chain_move (.bool false) _ (fun _ _ => Below.refl _ _) rfl rfl (by kernel_rfl) (by kernel_rfl) rfl ?_
      refine chain_move (.slice (some ⟨pb, po, none⟩) q cq) _ (fun _ _ => Below.refl _ _) rfl rfl (by kernel_rfl) (by kernel_rfl) rfl ?_
      refine chain_move (.int .i64 j) _ (fun _ _ => Below.refl _ _) rfl rfl (by kernel_rfl) (by kernel_rfl) rfl ?_
      refine chain_idx (.pointer (some ⟨pb, po + j, none⟩)) _ _ _ (.slice (some ⟨pb, po, none⟩) q cq) (.int .i64 j) (fun _ _ => Below.refl _ _) rfl rfl (by kernel_rfl) (by kernel_rfl) rfl rfl (fun w1 => idx_i64 _ _ _ _ _ HXB.out.1 w1) ?_
      refine chain_load (.int .i64 y) _ _ _ (fun _ _ => Below.refl _ _) rfl rfl (by kernel_rfl) (by kernel_rfl) rfl (fun w1 hC => load_i64 (HPX.out w1 _ _ hC HPA.out)) ?_
      refine chain_move (.int .i64 j) _ (fun _ _ => Below.refl _ _) rfl rfl (by kernel_rfl) (by kernel_rfl) rfl ?_
      refine chain_bin (.bool false) _ _ _ _ _ (.int .i64 y) (.int .i64 j) (fun _ _ => Below.refl _ _) rfl rfl (by kernel_rfl) (by kernel_rfl) rfl rfl (fun w1 => gtr_i _ _ _ _ _ _ (decide_eq_false (by have := HYJ.out; omega)) w1) ?_
      refine chain_pick (.bool false) _ _ _ false (fun _ _ => Below.refl _ _) rfl rfl (by kernel_rfl) (by kernel_rfl) rfl rfl ?_
      refine chain_move (.bool false) _ (fun _ _ => Below.refl _ _) rfl rfl (by kernel_rfl) (by kernel_rfl) rfl ?_
      refine chain_move (.slice (some ⟨pb, po, none⟩) q cq) _ (fun _ _ => Below.refl _ _) rfl rfl (by kernel_rfl) (by kernel_rfl) rfl ?_
      refine chain_move (.slice (some ⟨pb, po, none⟩) q cq) _ (fun _ _ => Below.refl _ _) rfl rfl (by kernel_rfl) (by kernel_rfl) rfl ?_
      refine chain_move (.int .i64 j) _ (fun _ _ => Below.refl _ _) rfl rfl (by kernel_rfl) (by kernel_rfl) rfl ?_
      refine chain_idx (.pointer (some ⟨pb, po + j, none⟩)) _ _ _ (.slice (some ⟨pb, po, none⟩) q cq) (.int .i64 j) (fun _ _ => Below.refl _ _) rfl rfl (by kernel_rfl) (by kernel_rfl) rfl rfl (fun w1 => idx_i64 _ _ _ _ _ HXB.out.1 w1) ?_
      refine chain_load (.int .i64 y) _ _ _ (fun _ _ => Below.refl _ _) rfl rfl (by kernel_rfl) (by kernel_rfl) rfl (fun w1 hC => load_i64 (HPX.out w1 _ _ hC HPA.out)) ?_
      refine chain_idx (.pointer (some ⟨pb, po + y, none⟩)) _ _ _ (.slice (some ⟨pb, po, none⟩) q cq) (.int .i64 y) (fun _ _ => Below.refl _ _) rfl rfl (by kernel_rfl) (by kernel_rfl) rfl rfl (fun w1 => idx_i64 _ _ _ _ _ HXB.out.2 w1) ?_
      refine chain_load (.int .i64 y) _ _ _ (fun _ _ => Below.refl _ _) rfl rfl (by kernel_rfl) (by kernel_rfl) rfl (fun w1 hC => load_i64 (HPX.out w1 _ _ hC HPB.out)) ?_
      refine chain_move (.slice (some ⟨pb, po, none⟩) q cq) _ (fun _ _ => Below.refl _ _) rfl rfl (by kernel_rfl) (by kernel_rfl) rfl ?_
      refine chain_move (.int .i64 j) _ (fun _ _ => Below.refl _ _) rfl rfl (by kernel_rfl) (by kernel_rfl) rfl ?_
      refine chain_idx (.pointer (some ⟨pb, po + j, none⟩)) _ _ _ (.slice (some ⟨pb, po, none⟩) q cq) (.int .i64 j) (fun _ _ => Below.refl _ _) rfl rfl (by kernel_rfl) (by kernel_rfl) rfl rfl (fun w1 => idx_i64 _ _ _ _ _ HXB.out.1 w1) ?_
      refine chain_load (.int .i64 y) _ _ _ (fun _ _ => Below.refl _ _) rfl rfl (by kernel_rfl) (by kernel_rfl) rfl (fun w1 hC => load_i64 (HPX.out w1 _ _ hC HPA.out)) ?_
      refine chain_bin (.bool false) _ _ _ _ _ (.int .i64 y) (.int .i64 y) (fun _ _ => Below.refl _ _) rfl rfl (by kernel_rfl) (by kernel_rfl) rfl rfl (fun w1 => neq_i64 _ _ _ _ _ _ (by simp) w1) ?_
      refine chain_pick (.bool false) _ _ _ false (fun _ _ => Below.refl _ _) rfl rfl (by kernel_rfl) (by kernel_rfl) rfl rfl ?_
      refine chain_end (by rfl) ?_
      intro xs w5 hCw5 hrew5
      simp only [layE, List.foldr_cons, List.foldr_nil, List.set_cons_succ, List.set_cons_zero]
      have HY := Lib.hid (HOWD.out w5 hCw5)
      clear hCw5 hrew5 HOWD HPX
      go_wp2_with fail
      go_roundg (gk - 1)
      case measure => omega
      case rel => exact ⟨j + 1, by omega, by simp, HK.out.below HY.out, HB.out.trans (HY.out.mono HB.out.size)⟩
    · have c0 := HK.out.cell (i := 0) rfl
      have c1 := HK.out.cell (i := 1) rfl
      go_wp2_with (first | (go_at_call 26; go_loud (refine (HAG.out _ HB.out).mono ?_; rintro e w3 ⟨rfl, hb⟩); have HB3 := Lib.hid (HB.out.trans (hb.mono HB.out.size)); clear hb))
      go_ret
      exact ⟨rfl, HB3.out⟩
end Go.Proofs.YtjcafjffmiknmaaGreat
/- Layer 4: the mathematics of TiesFollows. -/
namespace Go.Proofs.YtjcafjffmiknmaaGreat
set_option linter.unusedSimpArgs false
set_option linter.unusedVariables false
open Go Go.RowKit

theorem agB_in {P : List Int} {ts : List TieD} (ha : ts.all (agB P) = true) {t : TieD} (ht : t ∈ ts) : (atI P t.a = atI P t.b ↔ t.kind = 2) := by
  have h := List.all_eq_true.1 ha t ht
  unfold agB at h
  rw [beq_iff_eq] at h
  exact decide_eq_decide.1 h
theorem agr_const {n : Nat} {ts : List TieD} {P : List Int} (hv : ∀ t ∈ ts, tieB t n = true) (hP : P.length = n) (ha : ts.all (agB P) = true) {i k : Int} (hi : i.toNat < n) (hk : k.toNat < n) (e : atI (grpL n ts) i = atI (grpL n ts) k) : atI P i = atI P k := by
  have e1 := (grp_eqv hv hi hk).1 ((atI_iff (by rw [grpL_len]; exact hi) (by rw [grpL_len]; exact hk)).1 e)
  refine (atI_iff (by rw [hP]; exact hi) (by rw [hP]; exact hk)).2 ?_
  have gen : ∀ {i k : Nat}, Eqv (TieR (joinsT ts)) i k → P[i]? = P[k]? := by
    intro i k e
    induction e with
    | base hr =>
      unfold TieR joinsT at hr
      obtain ⟨t, ht, he⟩ := List.mem_map.1 hr
      obtain ⟨ht, hk⟩ := List.mem_filter.1 ht
      injection he with h1 h2
      subst h1; subst h2
      obtain ⟨_, _, _, _, ga, gb⟩ := tieB_in (hv t ht)
      exact (atI_iff (by rw [hP]; exact ga) (by rw [hP]; exact gb)).1 ((agB_in ha ht).2 (by simpa using hk))
    | refl i => rfl
    | symm _ ih => exact ih.symm
    | trans _ _ ih1 ih2 => exact ih1.trans ih2
  exact gen e1
/-- No people agree with a graph that contradicts itself. -/
theorem agr_wrong {n : Nat} {ts : List TieD} {P : List Int} (hv : ∀ t ∈ ts, tieB t n = true) (hP : P.length = n) (ha : ts.all (agB P) = true) : ts.any (wrB (grpL n ts)) = false := by
  rw [List.any_eq_false]
  intro t ht hw
  obtain ⟨_, _, _, _, ga, gb⟩ := tieB_in (hv t ht)
  unfold wrB at hw
  simp only [Bool.and_eq_true, beq_iff_eq] at hw
  have h1 := agr_const hv hP ha ga gb hw.2
  have h2 := (agB_in ha ht).1 h1
  omega
/-- What is kept apart is of two people. -/
theorem agr_apart {n : Nat} {ts : List TieD} {P : List Int} (hv : ∀ t ∈ ts, tieB t n = true) (hP : P.length = n) (ha : ts.all (agB P) = true) {i k : Int} (hi : i.toNat < n) (hk : k.toNat < n) (h : apB (grpL n ts) ts i k = true) : atI P i ≠ atI P k := by
  unfold apB at h
  obtain ⟨t, ht, hc⟩ := List.any_eq_true.1 h
  obtain ⟨_, _, _, _, ga, gb⟩ := tieB_in (hv t ht)
  unfold cutB at hc
  simp only [Bool.and_eq_true, Bool.or_eq_true, beq_iff_eq] at hc
  have hne : atI P t.a ≠ atI P t.b := fun e => by have := (agB_in ha ht).1 e; omega
  rcases hc.2 with ⟨h1, h2⟩ | ⟨h1, h2⟩
  · rw [← agr_const hv hP ha ga hi h1, ← agr_const hv hP ha gb hk h2]; exact hne
  · rw [← agr_const hv hP ha ga hk h1, ← agr_const hv hP ha gb hi h2]; exact fun e => hne e.symm
/-- The groups agree with a graph that does not contradict itself. -/
theorem grp_agr {n : Nat} {ts : List TieD} (hv : ∀ t ∈ ts, tieB t n = true) (hw : ts.any (wrB (grpL n ts)) = false) : ts.all (agB (grpL n ts)) = true := by
  refine List.all_eq_true.2 fun t ht => ?_
  obtain ⟨_, _, _, _, ga, gb⟩ := tieB_in (hv t ht)
  have hnw := List.any_eq_false.1 hw t ht
  unfold agB
  rw [beq_iff_eq]
  refine decide_eq_decide.2 ⟨fun e => ?_, fun e => ?_⟩
  · have hk : t.kind = 2 ∨ t.kind = 1 := by
      have h := hv t ht
      unfold tieB at h
      simp only [Bool.and_eq_true, Bool.or_eq_true, beq_iff_eq] at h
      exact h.1.1.2
    rcases hk with hk | hk
    · exact hk
    · exact absurd (by unfold wrB; simp [hk, e]) hnw
  · refine (atI_iff (by rw [grpL_len]; exact ga) (by rw [grpL_len]; exact gb)).2 ((grp_eqv hv ga gb).2 (.base ?_))
    unfold TieR joinsT
    exact List.mem_map.2 ⟨t, List.mem_filter.2 ⟨ht, by simp [e]⟩, rfl⟩
/-- What is both joined and kept apart contradicts itself. -/
theorem both_wrong {n : Nat} {ts : List TieD} {i k : Int} (e : atI (grpL n ts) i = atI (grpL n ts) k) (h : apB (grpL n ts) ts i k = true) : ts.any (wrB (grpL n ts)) = true := by
  unfold apB at h
  obtain ⟨t, ht, hc⟩ := List.any_eq_true.1 h
  refine List.any_eq_true.2 ⟨t, ht, ?_⟩
  unfold cutB at hc
  unfold wrB
  simp only [Bool.and_eq_true, Bool.or_eq_true, beq_iff_eq] at hc ⊢
  refine ⟨hc.1, ?_⟩
  rcases hc.2 with ⟨h1, h2⟩ | ⟨h1, h2⟩
  · rw [h1, h2, e]
  · rw [h1, h2, e]
/-- The list of the groups is one of least ones. -/
theorem grp_fix {n : Nat} {ts : List TieD} (hv : ∀ t ∈ ts, tieB t n = true) : ∀ i, i < (grpL n ts).length → ∃ y : Nat, atI (grpL n ts) i = y ∧ y ≤ i ∧ atI (grpL n ts) y = y := by
  intro i hi
  have h := grp_least n ts hv
  have hx := atI_some (l := grpL n ts) (i := (i : Int)) (by simpa using hi)
  rw [Int.toNat_natCast] at hx
  obtain ⟨h1, h2, h3⟩ := h.cls i _ hx
  obtain ⟨y, hy⟩ := Int.eq_ofNat_of_zero_le h1
  refine ⟨y, hy, by omega, ?_⟩
  have e := h.same _ _ h3
  rw [hy, Int.toNat_natCast] at e
  unfold atI
  rw [Int.toNat_natCast, ← e, hx, hy]; rfl
/-- Both groups of one person, all others of another one each. -/
def oneL (l : List Int) (i k : Int) : List Int := l.map fun x => if x = atI l k then atI l i else x
theorem one_at {l : List Int} {i k j : Int} (hj : j.toNat < l.length) : atI (oneL l i k) j = if atI l j = atI l k then atI l i else atI l j := by
  unfold oneL
  have h := atI_some (l := l) hj
  unfold atI at h ⊢
  rw [List.getElem?_map, h]; rfl
theorem one_agr {n : Nat} {ts : List TieD} (hv : ∀ t ∈ ts, tieB t n = true) (hw : ts.any (wrB (grpL n ts)) = false) {i k : Int} (hap : apB (grpL n ts) ts i k = false) : ts.all (agB (oneL (grpL n ts) i k)) = true := by
  have hag := grp_agr hv hw
  refine List.all_eq_true.2 fun t ht => ?_
  obtain ⟨_, _, _, _, ga, gb⟩ := tieB_in (hv t ht)
  have h := agB_in hag ht
  have hna := List.any_eq_false.1 hap t ht
  unfold agB
  rw [beq_iff_eq, one_at (by rw [grpL_len]; exact ga), one_at (by rw [grpL_len]; exact gb)]
  refine decide_eq_decide.2 ⟨fun e => ?_, fun e => by rw [h.2 e]⟩
  by_cases hk2 : t.kind = 2
  · exact hk2
  · have hk : t.kind = 1 := by
      have h := hv t ht
      unfold tieB at h
      simp only [Bool.and_eq_true, Bool.or_eq_true, beq_iff_eq] at h
      omega
    have hne : atI (grpL n ts) t.a ≠ atI (grpL n ts) t.b := fun e => hk2 (h.1 e)
    unfold cutB at hna
    simp only [Bool.and_eq_true, Bool.or_eq_true, beq_iff_eq, not_and, not_or] at hna
    have hna := hna hk
    split at e
    · rename_i h1
      split at e
      · rename_i h2; exact absurd (h1.trans h2.symm) hne
      · exact absurd e.symm (hna.2 h1)
    · split at e
      · rename_i h1 h2; exact absurd h2 (hna.1 e)
      · exact absurd e hne
end Go.Proofs.YtjcafjffmiknmaaGreat
/- Layer 4: Clash by its truth value alone. -/
namespace Go.Proofs.YtjcafjffmiknmaaGreat
set_option linter.unusedSimpArgs false
set_option linter.unusedVariables false
open Go Go.RowKit

/-- What the answer of Clash tells: whether some cut is within a group. -/
theorem clash_bool (k : Nat) (a : Option Addr) (cap : Nat) (ts : List TieD) (w : World) (hok : okG k ts = true) (hs : TiesAt w a ts) :
    Calls Tryz.prog 19 #[gV k a ts.length cap] w fun e w' => (∃ u, e = .returned (.tuple #[u, .bool (ts.any (wrB (grpL k ts))), .int .i64 0])) ∧ Below w.heap.size w w' := by
  obtain ⟨k', hk', hk1, hk2, hl, hv⟩ := okG_parts hok
  have hkk : k' = k := by omega
  subst hkk
  have h0 : errG k' ts = 0 := by unfold errG; rw [hok]; rfl
  cases hn : ts.any (wrB (grpL k' ts)) with
  | false => exact (clash_none k' a cap ts w hk2 hl hv h0 hn hs).mono fun e w' ⟨h1, h2⟩ => ⟨⟨_, h1⟩, h2⟩
  | true => exact (clash_some k' a cap ts w hk2 hl hv h0 hn hs).mono fun e w' ⟨⟨j, t, l, r, c, _, _, _, _, h1, _⟩, h2⟩ => ⟨⟨_, h1⟩, h2⟩
end Go.Proofs.YtjcafjffmiknmaaGreat
