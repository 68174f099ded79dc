/- Layer 4: the specification's Groups, Same and Apart. -/
import Derived.Test.YteojbichibdhjabGreatUi
namespace Go.Proofs.YteojbichibdhjabGreat
set_option linter.unusedSimpArgs false
set_option linter.unusedVariables false
open Go Go.RowKit

set_option maxRecDepth 100000 in
set_option maxHeartbeats 2000000 in
theorem rGrps_any (n : Int) (a : Option Addr) (cap : Nat) (ts : List TieD) (w : World) (hl : ts.length ≤ 9223372036854775807) (hs : TiesAt w a ts) :
    Calls Tryz.prog 7 #[gV n a ts.length cap] w fun e w' => ∃ r c, e = .returned (.tuple #[.slice r (if okG n ts then grpL n.toNat ts else []).length c, .int .i64 (errG n ts)]) ∧ IntsAt w' r (if okG n ts then grpL n.toNat ts else []) ∧ Below w.heap.size w w' := by
  have HC : Hid (∀ W, Below w.heap.size w W → Calls Tryz.prog 29 #[gV n a ts.length cap] W fun e w' => e = .returned (.int .i64 (errG n ts)) ∧ Below W.heap.size W w') := fun W hb => rCheck_any n a cap ts W hl (hs.below hb)
  have HBE : Hid (okG n ts = true → ∃ x : Nat, n = x ∧ x ≤ 32 ∧ ∀ W, Below w.heap.size w W → Calls Tryz.prog 30 #[gV x a ts.length cap] W fun e w' => ∃ g, e = .returned (.slice (some ⟨g, 0, none⟩) x x) ∧ W.heap.size ≤ g ∧ NB w' g (grpL x ts) ∧ Below W.heap.size W w') := fun h => by
    unfold okG ftB at h
    simp only [Bool.and_eq_true, decide_eq_true_eq] at h
    obtain ⟨x, rfl⟩ := Int.eq_ofNat_of_zero_le (by omega : 0 ≤ n)
    exact ⟨x, rfl, by omega, fun W hb => rGroups_any x a cap ts W (by omega) h.1.2 (fun t ht => List.all_eq_true.1 h.2 t ht) (hs.below hb)⟩
  obtain ⟨m, hm⟩ : ∃ m, m = ts.length := ⟨_, rfl⟩
  unfold errG at HC ⊢
  rw [← hm] at hl HC HBE ⊢
  clear hm hs
  cases hok : okG n ts with
  | false =>
    rw [hok] at HC
    clear HBE hok
    go_enter Tryz.func7, Tryz.ntmps7
    simp only [gV] at HC ⊢
    go_wp2_with (first | (go_at_call 29; refine (HC.out _ ((Below.refl _ _).alloc (Nat.le_refl _) _)).mono ?_; rintro e w1 ⟨rfl, hb⟩; clear HC; have HB1 := Lib.hid hb; clear hb; simp only [Bool.false_eq_true, if_false]))
    go_ret2
    exact ⟨none, ⟨0, rfl⟩, .inl rfl, ((Below.refl _ _).alloc (Nat.le_refl _) _).trans (HB1.out.mono (by simp))⟩
  | true =>
    obtain ⟨x, rfl, hx, hbe⟩ := HBE.out hok
    rw [hok] at HC
    have HL : Hid ((grpL x ts).length = x) := grpL_len x ts
    have HB := Lib.hid hbe
    clear HBE hbe hok
    simp only [Int.toNat_natCast, if_true, HL.out]
    go_enter Tryz.func7, Tryz.ntmps7
    simp only [gV] at HC HB ⊢
    go_wp2_with (first | (go_at_call 29; refine (HC.out _ ((Below.refl _ _).alloc (Nat.le_refl _) _)).mono ?_; rintro e w1 ⟨rfl, hb⟩; clear HC; have c0 := ((Blk.new w [.int .i64 x, .slice a m cap] 24).below hb).cell (i := 0) rfl; have c1 := ((Blk.new w [.int .i64 x, .slice a m cap] 24).below hb).cell (i := 1) rfl; have HB1 : Hid (Below w.heap.size w w1) := ((Below.refl _ _).alloc (Nat.le_refl _) _).trans (hb.mono (by simp)); clear hb; simp only [if_true]) | (go_at_call 30; refine (HB.out _ HB1.out).mono ?_; rintro e w2 ⟨g, rfl, hg1, hg2, hb⟩; clear HB; have HG2 := Lib.hid hg2; have HB2 := Lib.hid (HB1.out.trans (hb.mono HB1.out.size)); clear hb hg1 hg2))
    go_ret2
    first | exact ⟨_, ⟨_, rfl⟩, HG2.out.ints, HB2.out⟩ | exact ⟨_, _, rfl, HG2.out.ints, HB2.out⟩
set_option maxRecDepth 100000 in
set_option maxHeartbeats 2000000 in
theorem rSame_any (n : Int) (a : Option Addr) (cap : Nat) (ts : List TieD) (x y : Int) (w : World) (hl : ts.length ≤ 9223372036854775807) (hs : TiesAt w a ts) :
    Calls Tryz.prog 9 #[gV n a ts.length cap, .int .i64 x, .int .i64 y] w fun e w' => e = .returned (.tuple #[.bool (sameR n ts x y), .int .i64 (errA n ts x y)]) ∧ Below w.heap.size w w' := by
  have HC : Hid (∀ W, Below w.heap.size w W → Calls Tryz.prog 33 #[gV n a ts.length cap, .int .i64 x, .int .i64 y] W fun e w' => e = .returned (.int .i64 (errA n ts x y)) ∧ Below W.heap.size W w') := fun W hb => rAsked_any n a cap ts x y W hl (hs.below hb)
  unfold sameR
  rcases errA_split n ts x y with ⟨he, hok, k, p, q, rfl, hk, rfl, rfl, hp, hq⟩ | he
  · have HBE : Hid (∀ W, Below w.heap.size w W → Calls Tryz.prog 30 #[gV k a ts.length cap] W fun e w' => ∃ g, e = .returned (.slice (some ⟨g, 0, none⟩) k k) ∧ W.heap.size ≤ g ∧ NB w' g (grpL k ts) ∧ Below W.heap.size W w') := fun W hb => by
      unfold okG at hok
      simp only [Bool.and_eq_true, decide_eq_true_eq] at hok
      exact rGroups_any k a cap ts W hk hok.1.2 (fun t ht => List.all_eq_true.1 hok.2 t ht) (hs.below hb)
    have hpp := atI_some (l := grpL k ts) (i := (p : Int)) (by rw [grpL_len]; exact hp)
    have hqq := atI_some (l := grpL k ts) (i := (q : Int)) (by rw [grpL_len]; exact hq)
    rw [Int.toNat_natCast] at hpp hqq
    have HLT : Hid (p < k ∧ q < k) := ⟨hp, hq⟩
    rw [he] at HC ⊢
    simp only [if_true, Int.toNat_natCast]
    generalize atI (grpL k ts) p = P at *
    generalize atI (grpL k ts) q = Q at *
    have HP := Lib.hid hpp
    have HQ := Lib.hid hqq
    obtain ⟨r, hr⟩ : ∃ r, r = (P == Q) := ⟨_, rfl⟩
    rw [← hr]
    have HR : Hid (r = decide (P = Q)) := dec_of hr.symm
    obtain ⟨m, hm⟩ : ∃ m, m = ts.length := ⟨_, rfl⟩
    rw [← hm] at hl HC HBE ⊢
    clear hm hs he hok hr hp hq hpp hqq
    go_enter Tryz.func9, Tryz.ntmps9
    simp only [gV] at HC HBE ⊢
    go_upto_region 5 with (first | (go_at_call 33; refine (HC.out _ ((Below.refl _ _).alloc (Nat.le_refl _) _)).mono ?_; rintro e w1 ⟨rfl, hb⟩; clear HC; have c0 := ((Blk.new w [.int .i64 k, .slice a m cap] 24).below hb).cell (i := 0) rfl; have c1 := ((Blk.new w [.int .i64 k, .slice a m cap] 24).below hb).cell (i := 1) rfl; have HB1 : Hid (Below w.heap.size w w1) := ((Below.refl _ _).alloc (Nat.le_refl _) _).trans (hb.mono (by simp)); clear hb) | (go_at_call 30; refine (HBE.out _ HB1.out).mono ?_; rintro e w2 ⟨g, rfl, hg1, hg2, hb⟩; clear HBE; have HG2 := Lib.hid hg2; have HB2 := Lib.hid (HB1.out.trans (hb.mono HB1.out.size)); clear hb hg1 hg2))
    have HX : Hid (∀ W, (clOld w2.drew).C W → NB W g (grpL k ts)) := fun W hC => HG2.out.block (Below.block (show Below w2.heap.size w2 W from old_end (Below.refl _ _) hC (Nat.le_refl _)) _ HG2.out.lt)
    refine wp_region_old 11 28 (by kernel_rfl) (by kernel_rfl) (by rfl) ?_
    simp only [List.take_succ_cons, List.take_zero, List.drop_succ_cons, List.drop_zero, List.drop_nil]
    refine chain_move (.slice (some ⟨g, 0, none⟩) k k) _ (fun _ _ => Below.refl _ _) rfl rfl (by kernel_rfl) (by kernel_rfl) rfl ?_
    refine chain_move (.int .i64 p) _ (fun _ _ => Below.refl _ _) rfl rfl (by kernel_rfl) (by kernel_rfl) rfl ?_
    refine chain_idx (.pointer (some ⟨g, 0 + p, none⟩)) _ _ _ (.slice (some ⟨g, 0, none⟩) k k) (.int .i64 p) (fun _ _ => Below.refl _ _) rfl rfl (by kernel_rfl) (by kernel_rfl) rfl rfl (fun w1 => idx_i64 _ _ _ _ _ HLT.out.1 w1) ?_
    refine chain_load (.int .i64 P) _ _ _ (fun _ _ => Below.refl _ _) rfl rfl (by kernel_rfl) (by kernel_rfl) rfl (fun w1 hC => load_i64 (by rw [Nat.zero_add]; exact (HX.out w1 hC).cell HP.out)) ?_
    refine chain_move (.slice (some ⟨g, 0, none⟩) k k) _ (fun _ _ => Below.refl _ _) rfl rfl (by kernel_rfl) (by kernel_rfl) rfl ?_
    refine chain_move (.int .i64 q) _ (fun _ _ => Below.refl _ _) rfl rfl (by kernel_rfl) (by kernel_rfl) rfl ?_
    refine chain_idx (.pointer (some ⟨g, 0 + q, none⟩)) _ _ _ (.slice (some ⟨g, 0, none⟩) k k) (.int .i64 q) (fun _ _ => Below.refl _ _) rfl rfl (by kernel_rfl) (by kernel_rfl) rfl rfl (fun w1 => idx_i64 _ _ _ _ _ HLT.out.2 w1) ?_
    refine chain_load (.int .i64 Q) _ _ _ (fun _ _ => Below.refl _ _) rfl rfl (by kernel_rfl) (by kernel_rfl) rfl (fun w1 hC => load_i64 (by rw [Nat.zero_add]; exact (HX.out w1 hC).cell HQ.out)) ?_
    refine chain_bin (.bool r) _ _ _ _ _ (.int .i64 P) (.int .i64 Q) (fun _ _ => Below.refl _ _) rfl rfl (by kernel_rfl) (by kernel_rfl) rfl rfl (fun w1 => eql_i64 _ _ _ _ _ _ HR.out w1) ?_
    refine chain_assign (.bool r) _ (fun _ _ => Below.refl _ _) rfl rfl (by kernel_rfl) (by kernel_rfl) rfl ?_
    refine chain_assign (.int .i64 0) _ (fun _ _ => Below.refl _ _) rfl rfl (by kernel_rfl) (by kernel_rfl) rfl ?_
    refine chain_end (by rfl) ?_
    intro xs w6 hCw6 hrew6
    simp only [layE, List.foldr_cons, List.foldr_nil, List.set_cons_succ, List.set_cons_zero]
    have HB6 := Lib.hid (old_end HB2.out hCw6 HB2.out.size)
    clear hCw6 hrew6 HX
    go_wp2_with fail
    go_ret2
    exact ⟨rfl, HB6.out⟩
  · have hne : errA n ts x y ≠ 0 := by rcases he with he | he <;> rw [he] <;> decide
    rw [if_neg hne]
    obtain ⟨m, hm⟩ : ∃ m, m = ts.length := ⟨_, rfl⟩
    rw [← hm] at hl HC ⊢
    clear hm hs hne
    rcases he with he | he
    all_goals (
      rw [he] at HC ⊢
      clear he
      go_enter Tryz.func9, Tryz.ntmps9
      simp only [gV] at HC ⊢
      go_wp2_with (first | (go_at_call 33; refine (HC.out _ ((Below.refl _ _).alloc (Nat.le_refl _) _)).mono ?_; rintro e w1 ⟨rfl, hb⟩; clear HC; have HB1 : Hid (Below w.heap.size w w1) := ((Below.refl _ _).alloc (Nat.le_refl _) _).trans (hb.mono (by simp)); clear hb))
      go_ret2
      exact ⟨rfl, HB1.out⟩)
/-- A new list of groups, by its numbers. -/
def gsW (k : Nat) (L : List Int) : Word := fun v w => ∃ b, v = .slice (some ⟨b, 0, none⟩) k k ∧ NB w b L
theorem gsW_lasts {w0 : World} (k : Nat) (L : List Int) : lasts (clOld w0) (gsW k L) := fun v w w' _ hb ⟨b, h1, h2⟩ => ⟨b, h1, h2.block (Below.block hb b h2.lt)⟩
set_option maxRecDepth 100000 in
set_option maxHeartbeats 2000000 in
theorem rApt_any (n : Int) (a : Option Addr) (cap : Nat) (ts : List TieD) (x y : Int) (w : World) (hl : ts.length ≤ 9223372036854775807) (hs : TiesAt w a ts) :
    Calls Tryz.prog 11 #[gV n a ts.length cap, .int .i64 x, .int .i64 y] w fun e w' => e = .returned (.tuple #[.bool (apartR n ts x y), .int .i64 (errA n ts x y)]) ∧ Below w.heap.size w w' := by
  have HC : Hid (∀ W, Below w.heap.size w W → Calls Tryz.prog 33 #[gV n a ts.length cap, .int .i64 x, .int .i64 y] W fun e w' => e = .returned (.int .i64 (errA n ts x y)) ∧ Below W.heap.size W w') := fun W hb => rAsked_any n a cap ts x y W hl (hs.below hb)
  unfold apartR
  rcases errA_split n ts x y with ⟨he, hok, k, p, q, rfl, hk, rfl, rfl, hp, hq⟩ | he
  · unfold okG at hok
    simp only [Bool.and_eq_true, decide_eq_true_eq] at hok
    have hv : ∀ t ∈ ts, tieB t k = true := fun t ht => List.all_eq_true.1 hok.2 t ht
    have HBE : Hid (∀ W, Below w.heap.size w W → Calls Tryz.prog 30 #[.agg #[.int .i64 k, .slice a ts.length cap]] W fun e w' => ∃ u, e = .returned u ∧ Below W.heap.size W w' ∧ gsW k (grpL k ts) u w') := fun W hb => (rGroups_any k a cap ts W hk hok.1.2 hv (hs.below hb)).mono fun e w' ⟨g, h1, _, h3, h4⟩ => ⟨_, h1, h4, g, rfl, h3⟩
    have HJO : Hid (∀ W u, Below w.heap.size w W → gsW k (grpL k ts) u W → Calls Tryz.prog 35 #[.agg #[.int .i64 k, .slice a ts.length cap], u, .int .i64 p, .int .i64 q] W fun e w' => e = .returned (.bool (apB (grpL k ts) ts p q)) ∧ Below W.heap.size W w') := fun W u hb ⟨g, hu, hW⟩ => by subst hu; exact rApart_any a cap ts g k p q (grpL k ts) W (by omega) (hs.below hb) (grpL_len _ _) hk hp hq hv hW
    rw [he] at HC ⊢
    simp only [if_true, Int.toNat_natCast]
    obtain ⟨r, hr⟩ : ∃ r, r = apB (grpL k ts) ts p q := ⟨_, rfl⟩
    rw [← hr] at HJO ⊢
    obtain ⟨m, hm⟩ : ∃ m, m = ts.length := ⟨_, rfl⟩
    rw [← hm] at hl HC HBE HJO ⊢
    clear hm hs he hok hr hp hq hv
    go_enter Tryz.func11, Tryz.ntmps11
    simp only [gV] at HC ⊢
    go_upto_region 4 with (first | (go_at_call 33; refine (HC.out _ ((Below.refl _ _).alloc (Nat.le_refl _) _)).mono ?_; rintro e w1 ⟨rfl, hb⟩; clear HC; have HK := Lib.hid ((Blk.new w [.int .i64 k, .slice a m cap] 24).below hb); have HB1 : Hid (Below w.heap.size w w1) := ((Below.refl _ _).alloc (Nat.le_refl _) _).trans (hb.mono (by simp)); clear hb))
    have HX : Hid (∀ W, (clOld w1.drew).C W → Blk W w.heap.size [.int .i64 k, .slice a m cap] 24 ∧ Below w.heap.size w W) := fun W hC => by
      have hb : Below w1.heap.size w1 W := old_end (Below.refl _ _) hC (Nat.le_refl _)
      exact ⟨HK.out.below hb, HB1.out.trans (hb.mono HB1.out.size)⟩
    refine wp_region_old 8 22 (by kernel_rfl) (by kernel_rfl) (by rfl) ?_
    simp only [List.take_succ_cons, List.take_zero, List.drop_succ_cons, List.drop_zero, List.drop_nil]
    refine chain_load (.agg #[.int .i64 k, .slice a m cap]) _ _ _ (fun _ _ => Below.refl _ _) rfl rfl (by kernel_rfl) (by kernel_rfl) rfl (fun w1 hC => load_g ((HX.out w1 hC).1.cell rfl) ((HX.out w1 hC).1.cell rfl)) ?_
    refine chain_load (.agg #[.int .i64 k, .slice a m cap]) _ _ _ (fun _ _ => Below.refl _ _) rfl rfl (by kernel_rfl) (by kernel_rfl) rfl (fun w1 hC => load_g ((HX.out w1 hC).1.cell rfl) ((HX.out w1 hC).1.cell rfl)) ?_
    refine chain_call_re (gsW k (grpL k ts)) 30 [.agg #[.int .i64 k, .slice a m cap]] _ _ (gsW_lasts _ _) (enters_of Tryz.func30 (by kernel_rfl) rfl) rfl rfl rfl (by kernel_rfl) (by kernel_rfl) rfl rfl (fun w1 hC => HBE.out w1 (HX.out w1 hC).2) ?_
    refine chain_move (.int .i64 p) _ (fun _ _ => Below.refl _ _) rfl rfl (by kernel_rfl) (by kernel_rfl) rfl ?_
    refine chain_move (.int .i64 q) _ (fun _ _ => Below.refl _ _) rfl rfl (by kernel_rfl) (by kernel_rfl) rfl ?_
    refine chain_call_use (.bool r) 18 _ 35 (fun x => [.agg #[.int .i64 k, .slice a m cap], x, .int .i64 p, .int .i64 q]) _ _ (enters_of Tryz.func35 (by kernel_rfl) rfl) rfl rfl rfl (by kernel_rfl) rfl rfl (fun _ => rfl) rfl (fun _ => rfl) (fun u w1 hC hu => HJO.out w1 u (HX.out w1 hC).2 hu) ?_
    refine chain_assign (.bool r) _ (fun _ _ => Below.refl _ _) rfl rfl (by kernel_rfl) (by kernel_rfl) rfl ?_
    refine chain_assign (.int .i64 0) _ (fun _ _ => Below.refl _ _) rfl rfl (by kernel_rfl) (by kernel_rfl) rfl ?_
    refine chain_end (by rfl) ?_
    intro xs w6 hCw6 hrew6
    simp only [layE, List.foldr_cons, List.foldr_nil, List.set_cons_succ, List.set_cons_zero]
    have HB6 := Lib.hid (HX.out w6 hCw6).2
    clear hCw6 hrew6 HX HBE HJO
    go_wp2_with fail
    go_ret2
    exact ⟨rfl, HB6.out⟩
  · have hne : errA n ts x y ≠ 0 := by rcases he with he | he <;> rw [he] <;> decide
    rw [if_neg hne]
    obtain ⟨m, hm⟩ : ∃ m, m = ts.length := ⟨_, rfl⟩
    rw [← hm] at hl HC ⊢
    clear hm hs hne
    rcases he with he | he
    all_goals (
      rw [he] at HC ⊢
      clear he
      go_enter Tryz.func11, Tryz.ntmps11
      simp only [gV] at HC ⊢
      go_wp2_with (first | (go_at_call 33; refine (HC.out _ ((Below.refl _ _).alloc (Nat.le_refl _) _)).mono ?_; rintro e w1 ⟨rfl, hb⟩; clear HC; have HB1 : Hid (Below w.heap.size w w1) := ((Below.refl _ _).alloc (Nat.le_refl _) _).trans (hb.mono (by simp)); clear hb))
      go_ret2
      exact ⟨rfl, HB1.out⟩)
end Go.Proofs.YteojbichibdhjabGreat
