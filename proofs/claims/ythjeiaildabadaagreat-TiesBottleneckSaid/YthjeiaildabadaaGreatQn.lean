/- Layer 4: Clash, where the graph contradicts itself. -/
import Derived.Test.YthjeiaildabadaaGreatQk
namespace Go.Proofs.YthjeiaildabadaaGreat
set_option linter.unusedSimpArgs false
set_option linter.unusedVariables false
open Go Go.RowKit

/-- The chain that Clash takes. -/
def ChL (ts : List TieD) (x y : Int) (l : List Int) : Prop := (WayL ts 0 x y l ∧ leadF ts l (x, 0) = some (y, ((0 : Nat) : Int))) ∨ (l = [] ∧ ∀ l' : List Int, leadF ts l' (x, 0) ≠ some (y, ((0 : Nat) : Int)))
def chW (ts : List TieD) (x y : Int) (B : Nat) : Word := fun u w => ∃ (l : List Int) (r : Option Addr) (k : Nat), u = .slice r l.length k ∧ l.length < 64 ∧ ChL ts x y l ∧ w.ownsRow B 3 1 (.slice r l.length k) l.length (ivL l)
def chT (ts : List TieD) (x y : Int) (B : Nat) : Word := fun u w => ∃ u' v, u = .tuple #[u', .bool v] ∧ chW ts x y B u' w
def blW : Word := fun u w => ∃ v, u = .bool v
theorem chW_lasts {w0 : World} (ts : List TieD) (x y : Int) (B : Nat) : lasts (clOld w0) (chW ts x y B) := fun v w w' _ hR ⟨l, r, k, h1, h2, h3, h4⟩ => ⟨l, r, k, h1, h2, h3, own_below h4 hR⟩
theorem chT_lasts {w0 : World} (ts : List TieD) (x y : Int) (B : Nat) : lasts (clOld w0) (chT ts x y B) := fun v w w' _ hR ⟨u', b, h1, l, r, k, h2, h3, h4, h5⟩ => ⟨u', b, h1, l, r, k, h2, h3, h4, own_below h5 hR⟩
theorem blW_lasts {w0 : World} : lasts (clOld w0) blW := fun v w w' _ _ h => h
theorem WP.ch {ts : List TieD} {x y : Int} {B : Nat} {u : Value} {v : Bool} {w : World} (h : WP ts 0 x y B u v w) : chW ts x y B u w := by
  rcases h with ⟨_, h2, h3⟩ | ⟨_, l, r, k, h2, h3, h4, h5, h6⟩
  · exact ⟨[], none, 0, h2, by simp, .inr ⟨rfl, h3⟩, World.ownsRow_nil _ _ _ _⟩
  · exact ⟨l, r, k, h5, h4, .inl ⟨h2, h3⟩, h6⟩
set_option maxRecDepth 100000 in
set_option maxHeartbeats 8000000 in
theorem clash_some (k : Nat) (a : Option Addr) (cap : Nat) (ts : List TieD) (w : World) (hk : k ≤ 32) (hl : ts.length ≤ 512) (hv : ∀ t ∈ ts, tieB t k = true) (h0 : errG k ts = 0) (hn : ts.any (wrB (grpL k ts)) = true) (hs : TiesAt w a ts) :
    Calls Tryz.prog 30 #[gV k a ts.length cap] w fun e w' => (∃ (j : Nat) (t : TieD) (l : List Int) (r : Option Addr) (c : Nat), ts[j]? = some t ∧ wrB (grpL k ts) t = true ∧ ChL ts t.a t.b l ∧ l.length < 64 ∧ e = .returned (.tuple #[.slice r (l.length + 1) c, .bool true, .int .i64 0]) ∧ w'.ownsRow w.heap.size 3 1 (.slice r (l.length + 1) c) (l.length + 1) (ivL ((l ++ [(j : Int)]).mergeSort fun x y => decide (x ≤ y)))) ∧ Below w.heap.size w w' := by
  have HP : Hid (∀ W, Below w.heap.size w W → Calls Tryz.prog 24 #[gV k a ts.length cap] W fun e w' => e = .returned (.int .i64 0) ∧ Below W.heap.size W w') := fun W hb => by
    have h := tCheck_any k a cap ts W (by omega) (hs.below hb); rw [h0] at h; exact h
  have HBE : Hid (∀ W, Below w.heap.size w W → Calls Tryz.prog 43 #[gV k a ts.length cap] W fun e w' => ∃ g, e = .returned (wkV k a ts.length cap g k) ∧ W.heap.size ≤ g ∧ NB w' g (grpL k ts) ∧ Below W.heap.size W w') := fun W hb => begin_any k a cap ts W hk hl hv (hs.below hb)
  have HWR : Hid (∀ W g, Below w.heap.size w W → NB W g (grpL k ts) → Calls Tryz.prog 62 #[wkV k a ts.length cap g k] W fun e w' => (∃ (j : Nat) (t : TieD), e = .returned (.int .i64 j) ∧ ts[j]? = some t ∧ wrB (grpL k ts) t = true) ∧ Below W.heap.size W w') := fun W g hb hg => (wrong_any a cap ts g k (grpL k ts) W (by omega) (hs.below hb) (grpL_len _ _) hk hv hg).mono fun e w' ⟨⟨r, h1, h2⟩, h3⟩ => by
    rcases h2 with ⟨rfl, h4⟩ | ⟨j, t, rfl, hj, ht, _⟩
    · rw [hn] at h4; cases h4
    · exact ⟨⟨j, t, h1, hj, ht⟩, h3⟩
  have HSH : Hid (∀ W gv t, t ∈ ts → Below w.heap.size w W → Calls Tryz.prog 65 #[.agg #[.int .i64 k, .slice a ts.length cap, gv], .int .i64 t.a, .int .i64 t.b, .int .i64 0] W fun e w' => ∃ u, e = .returned u ∧ Below W.heap.size W w' ∧ chT ts t.a t.b w.heap.size u w') := fun W gv t ht hb => (shortest_wp k a cap ts gv t.a t.b 0 W hl hk hv (by have h := hv t ht; unfold tieB at h; simp only [Bool.and_eq_true] at h ⊢; exact ⟨h.1.1.1.1.1, h.1.1.1.1.2⟩) (by omega) (hs.below hb)).mono fun e w' ⟨u, v, h1, h2, h3⟩ => ⟨_, h1, h3, u, v, rfl, (h2.mono hb.size).ch⟩
  have HS := Lib.hid hs
  obtain ⟨m, hm⟩ : ∃ m, m = ts.length := ⟨_, rfl⟩
  have HM := Lib.hid hm
  rw [← hm] at HP HBE HWR HSH ⊢
  have HK := Lib.hid (Blk.new w [.int .i64 k, .slice a m cap] 24)
  have HB0 : Hid (Below w.heap.size w (w.alloc (.cells #[.int .i64 k, .slice a m cap] 24))) := (Below.refl _ _).alloc (Nat.le_refl _) _
  clear hm hs h0 hl hv hk hn
  simp only [gV, wkV] at HP HBE HWR ⊢
  go_enter Tryz.func30, Tryz.ntmps30
  go_upto_region 8 with (first | (go_at_call 24; refine (HP.out _ HB0.out).mono ?_; rintro e w1 ⟨rfl, hb⟩; clear HP; have HK1 := Lib.hid (HK.out.below hb); have HB1 := Lib.hid (HB0.out.trans (hb.mono HB0.out.size)); clear hb; have c0 := HK1.out.cell (i := 0) rfl; have c1 := HK1.out.cell (i := 1) rfl) | (go_at_call 43; refine (HBE.out _ HB1.out).mono ?_; rintro e w2 ⟨g, rfl, _, hng, hb⟩; clear HBE c0 c1; have HNG := Lib.hid hng; have HB2 := Lib.hid (HB1.out.trans (hb.mono HB1.out.size)); clear hb hng) | (go_at_call 62; go_loud (have HW2 := Lib.hid (Blk.new w2 [.int .i64 k, .slice a m cap, .slice (some ⟨g, 0, none⟩) k k] 65); generalize hb6 : w2.heap.size = b6 at HW2 ⊢; refine (HWR.out _ g (HB2.out.alloc HB2.out.size _) (HNG.out.block (((Below.refl w2.heap.size w2).alloc (Nat.le_refl _) _).block _ HNG.out.lt))).mono ?_; rintro e w3 ⟨⟨j, t, rfl, hjt, hwt⟩, hb3⟩); clear HWR; have HJ : Hid (j < m) := (by rw [HM.out]; exact (List.getElem?_eq_some_iff.1 hjt).1); have HTJ : Hid (ts[j]? = some t ∧ wrB (grpL k ts) t = true) := ⟨hjt, hwt⟩; have HW := Lib.hid (HW2.out.below hb3); have HB3 := Lib.hid ((HB2.out.alloc HB2.out.size _).trans (hb3.mono (by have := HB2.out.size; simp; omega))); clear hb3 hjt hwt hb6 HW2))
  have hjl : j < ts.length := by rw [← HM.out]; exact HJ.out
  have ht : t = ts[j] := by have h := HTJ.out.1; rw [List.getElem?_eq_getElem hjl] at h; injection h with h; exact h.symm
  obtain ⟨lb, lo, rfl, hlb, c0, c1, c2, c3, c4⟩ := (HS.out.below HB3.out).at hjl
  rw [← ht] at c0 c1
  clear c2 c3 c4
  have HST : Hid (∀ W gv, Below w.heap.size w W → Calls Tryz.prog 65 #[.agg #[.int .i64 k, .slice (some ⟨lb, lo, none⟩) m cap, gv], .int .i64 t.a, .int .i64 t.b, .int .i64 0] W fun e w' => ∃ u, e = .returned u ∧ Below W.heap.size W w' ∧ chT ts t.a t.b w.heap.size u w') := fun W gv hb => HSH.out W gv t (List.mem_of_getElem? HTJ.out.1) hb
  have HLB := Lib.hid hlb
  have HC0 := Lib.hid c0
  have HC1 := Lib.hid c1
  obtain ⟨ta, tb, tk, tq, tr⟩ := t
  simp only at HST HC0 HC1
  clear hjl ht hlb c0 c1 HSH
  have HOWD : Hid (∀ w1, (clOld w3.drew).C w1 → Below w3.heap.size w3 w1) := fun w1 hC => old_end (Below.refl _ _) hC (Nat.le_refl _)
  refine wp_region_old 21 48 (by kernel_rfl) (by kernel_rfl) (by rfl) ?_
  simp only [List.take_succ_cons, List.take_zero, List.drop_succ_cons, List.drop_zero, List.drop_nil]
  refine chain_load (.agg #[.int .i64 k, .slice (some ⟨lb, lo, none⟩) m cap, .slice (some ⟨g, 0, none⟩) k k]) _ _ _ (fun _ _ => Below.refl _ _) rfl rfl (by kernel_rfl) (by kernel_rfl) rfl (fun w1 hC => load_wk' ((HW.out.below (HOWD.out w1 hC)).cell rfl) ((HW.out.below (HOWD.out w1 hC)).cell rfl) ((HW.out.below (HOWD.out w1 hC)).cell rfl)) ?_
  refine chain_val (.pointer (some ⟨b6, 0, none⟩)) (fun _ _ => Below.refl _ _) rfl (by intro cs b h; cases h) (by kernel_rfl) (by kernel_rfl) (fun w1 _ => by simp [execOp, evE, lk_cons, lk_nil, slotL, go_sem]) ?_
  refine chain_val (.pointer (some ⟨b6, 1, none⟩)) (fun _ _ => Below.refl _ _) rfl (by intro cs b h; cases h) (by kernel_rfl) (by kernel_rfl) (fun w1 _ => by simp [execOp, evE, lk_cons, lk_nil, slotL, go_sem]) ?_
  refine chain_load (.slice (some ⟨lb, lo, none⟩) m cap) _ _ _ (fun _ _ => Below.refl _ _) rfl rfl (by kernel_rfl) (by kernel_rfl) rfl (fun w1 hC => load_slq ((HW.out.below (HOWD.out w1 hC)).cell rfl)) ?_
  refine chain_move (.int .i64 j) _ (fun _ _ => Below.refl _ _) rfl rfl (by kernel_rfl) (by kernel_rfl) rfl ?_
  refine chain_idx (.pointer (some ⟨lb, lo + j * 5, none⟩)) _ _ _ (.slice (some ⟨lb, lo, none⟩) m cap) (.int .i64 j) (fun _ _ => Below.refl _ _) rfl rfl (by kernel_rfl) (by kernel_rfl) rfl rfl (fun w1 => idx_tie _ _ _ _ _ HJ.out w1) ?_
  refine chain_val (.pointer (some ⟨lb, lo + j * 5, none⟩)) (fun _ _ => Below.refl _ _) rfl (by intro cs b h; cases h) (by kernel_rfl) (by kernel_rfl) (fun w1 _ => by simp [execOp, evE, lk_cons, lk_nil, slotL, go_sem]) ?_
  refine chain_load (.int .i64 ta) _ _ _ (fun _ _ => Below.refl _ _) rfl rfl (by kernel_rfl) (by kernel_rfl) rfl (fun w1 hC => load_i64 (by rw [Below.cell (HOWD.out w1 hC) (by exact HLB.out)]; exact HC0.out)) ?_
  refine chain_val (.pointer (some ⟨b6, 0, none⟩)) (fun _ _ => Below.refl _ _) rfl (by intro cs b h; cases h) (by kernel_rfl) (by kernel_rfl) (fun w1 _ => by simp [execOp, evE, lk_cons, lk_nil, slotL, go_sem]) ?_
  refine chain_val (.pointer (some ⟨b6, 1, none⟩)) (fun _ _ => Below.refl _ _) rfl (by intro cs b h; cases h) (by kernel_rfl) (by kernel_rfl) (fun w1 _ => by simp [execOp, evE, lk_cons, lk_nil, slotL, go_sem]) ?_
  refine chain_load (.slice (some ⟨lb, lo, none⟩) m cap) _ _ _ (fun _ _ => Below.refl _ _) rfl rfl (by kernel_rfl) (by kernel_rfl) rfl (fun w1 hC => load_slq ((HW.out.below (HOWD.out w1 hC)).cell rfl)) ?_
  refine chain_move (.int .i64 j) _ (fun _ _ => Below.refl _ _) rfl rfl (by kernel_rfl) (by kernel_rfl) rfl ?_
  refine chain_idx (.pointer (some ⟨lb, lo + j * 5, none⟩)) _ _ _ (.slice (some ⟨lb, lo, none⟩) m cap) (.int .i64 j) (fun _ _ => Below.refl _ _) rfl rfl (by kernel_rfl) (by kernel_rfl) rfl rfl (fun w1 => idx_tie _ _ _ _ _ HJ.out w1) ?_
  refine chain_val (.pointer (some ⟨lb, lo + j * 5 + 1, none⟩)) (fun _ _ => Below.refl _ _) rfl (by intro cs b h; cases h) (by kernel_rfl) (by kernel_rfl) (fun w1 _ => by simp [execOp, evE, lk_cons, lk_nil, slotL, go_sem]) ?_
  refine chain_load (.int .i64 tb) _ _ _ (fun _ _ => Below.refl _ _) rfl rfl (by kernel_rfl) (by kernel_rfl) rfl (fun w1 hC => load_i64 (by rw [Below.cell (HOWD.out w1 hC) (by exact HLB.out)]; exact HC1.out)) ?_
  refine chain_call_re (chT ts ta tb w.heap.size) 65 [.agg #[.int .i64 k, .slice (some ⟨lb, lo, none⟩) m cap, .slice (some ⟨g, 0, none⟩) k k], .int .i64 ta, .int .i64 tb, .int .i64 0] _ _ (chT_lasts _ _ _ _) (enters_of Tryz.func65 (by kernel_rfl) rfl) rfl rfl rfl (by kernel_rfl) (by kernel_rfl) rfl rfl (fun w1 hC => HST.out w1 _ (HB3.out.trans ((HOWD.out w1 hC).mono HB3.out.size))) ?_
  refine chain_move_re 38 (chT ts ta tb w.heap.size) (chT_lasts _ _ _ _) (fun _ _ => Below.refl _ _) rfl rfl (by kernel_rfl) rfl (by kernel_rfl) (fun _ => rfl) ?_
  refine chain_ext_re (chW ts ta tb w.heap.size) 22 0 (chT ts ta tb w.heap.size) (chW_lasts _ _ _ _) (fun _ _ => Below.refl _ _) rfl rfl (by kernel_rfl) rfl (by kernel_rfl) (fun _ => rfl) (fun x w1 ⟨u, v, hx, h⟩ => ⟨_, u, hx, rfl, h⟩) ?_
  refine chain_ext_re (blW) 22 1 (chT ts ta tb w.heap.size) (blW_lasts) (fun _ _ => Below.refl _ _) rfl rfl (by kernel_rfl) rfl (by kernel_rfl) (fun _ => rfl) (fun x w1 ⟨u, v, hx, h⟩ => ⟨_, .bool v, hx, rfl, v, rfl⟩) ?_
  refine chain_assign_re 39 (chW ts ta tb w.heap.size) (chW_lasts _ _ _ _) (fun _ _ => Below.refl _ _) rfl rfl (by kernel_rfl) rfl (by kernel_rfl) (fun _ => rfl) ?_
  refine chain_assign_re 40 (blW) (blW_lasts) (fun _ _ => Below.refl _ _) rfl rfl (by kernel_rfl) rfl (by kernel_rfl) (fun _ => rfl) ?_
  refine chain_end (by rfl) ?_
  intro xs w5 hCw5 hrew5
  simp only [layE, List.foldr_cons, List.foldr_nil, List.set_cons_succ, List.set_cons_zero]
  have hx8 : chW ts ta tb w.heap.size (xs 8) w5 := hrew5 8 _ rfl
  obtain ⟨l, r, q, he8, hl64, hch, hown⟩ := hx8
  simp only [he8]
  have HB5 : Hid (Below w.heap.size w w5) := HB3.out.trans ((HOWD.out w5 hCw5).mono HB3.out.size)
  have HL : Hid (l.length < 64 ∧ ChL ts ta tb l) := ⟨hl64, hch⟩
  have HA : Hid (Below w5.heap.size w5 (w5.alloc (.cells #[.int .i64 j] 3))) := (Below.refl _ _).alloc (Nat.le_refl _) _
  have HOA : Hid ((w5.alloc (.cells #[.int .i64 j] 3)).ownsRow w.heap.size 3 1 (.slice r l.length q) l.length (ivL l)) := own_below hown HA.out
  have HNEW : Hid ((w5.alloc (.cells #[.int .i64 j] 3)).cell? ⟨w5.heap.size, 0, none⟩ = some (.int .i64 j)) := (Blk.new w5 [.int .i64 j] 3).cell rfl
  have HSZ : Hid (w.heap.size ≤ (w5.alloc (.cells #[.int .i64 j] 3)).heap.size) := Nat.le_trans HB5.out.size HA.out.size
  clear he8 hl64 hch hown hCw5 hrew5 HOWD HST HC0 HC1 HLB HW
  generalize hlen : l.length = L at *
  go_upto_region 10 with (first | (at_builtin; go_loud (obtain ⟨f2, c2, w9, hr, hown, hgrow⟩ := own_int (w5.alloc (.cells #[.int .i64 j] 3)) w.heap.size L 27 r q (ivL l) w5.heap.size j HOA.out HNEW.out (by have := HL.out.1; omega) HSZ.out; refine Lib.wpList_append_run _ rfl _ _ _ _ rfl _ _ rfl rfl _ _ hr ?_; clear hr; have K9O := Lib.hid hown; have K9B : Hid (Below w.heap.size w w9) := (HB5.out.trans (HA.out.mono HB5.out.size)).grown hgrow (Nat.le_trans HB5.out.size HA.out.size) (fun q' hq' => (World.ownsRow.lt HOA.out q' hq').1); clear hown hgrow)))
  have HK9 : Hid (∀ W, w9 = W → Calls Tryz.prog 68 #[.slice f2 (L + 1) c2] W fun e w' => (∃ u, e = .returned u) ∧ w'.ownsRow w.heap.size 3 1 (.slice f2 (L + 1) c2) (L + 1) (ivL ((l ++ [(j : Int)]).mergeSort fun x y => decide (x ≤ y))) ∧ Below w.heap.size W w') := fun W e => by
    subst e
    have e1 : (l ++ [(j : Int)]).length = L + 1 := by simp [hlen]
    have h := sort_ok w9 w.heap.size f2 c2 (l ++ [(j : Int)]) (by have := HL.out.1; omega) (by simp) K9B.out.size (by rw [e1, ivL_snoc]; exact K9O.out)
    rw [e1] at h
    exact h
  go_wp2_with (first | (go_at_call 68; go_loud (refine (HK9.out _ rfl).mono ?_; rintro e w10 ⟨⟨u, rfl⟩, ho, hb⟩); have HO10 := Lib.hid ho; have HB10 := Lib.hid (K9B.out.trans hb); clear ho hb))
  go_ret3
  exact ⟨⟨j, _, l, f2, c2, HTJ.out.1, HTJ.out.2, HL.out.2, by rw [hlen]; exact HL.out.1, by rw [hlen]; rfl, by rw [hlen]; exact HO10.out⟩, HB10.out⟩
end Go.Proofs.YthjeiaildabadaaGreat
