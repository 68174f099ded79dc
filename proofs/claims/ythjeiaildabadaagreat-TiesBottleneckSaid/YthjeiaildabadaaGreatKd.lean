/- Layer 4: the specification's asked. / Layer 4: the specification's groups. / Layer 4: the specification's Groups, Same and Apart. / Layer 4: the law TiesGroups. -/
import Derived.Test.YthjeiaildabadaaGreatK4
import Derived.Test.YthjeiaildabadaaGreatK7
/- Layer 4: the specification's asked. -/
namespace Go.Proofs.YthjeiaildabadaaGreat
set_option linter.unusedSimpArgs false
set_option linter.unusedVariables false
open Go Go.RowKit

set_option maxRecDepth 100000 in
set_option maxHeartbeats 2000000 in
theorem rAsked_any (n : Int) (a : Option Addr) (cap : Nat) (ts : List TieD) (x y : Int) (w : World) (hl : ts.length ≤ 9223372036854775807) (hs : TiesAt w a ts) :
    Calls Tryz.prog 55 #[gV n a ts.length cap, .int .i64 x, .int .i64 y] w fun e w' => e = .returned (.int .i64 (errA n ts x y)) ∧ Below w.heap.size w w' := by
  have HC : Hid (∀ W, Below w.heap.size w W → Calls Tryz.prog 46 #[gV n a ts.length cap] W fun e w' => e = .returned (.int .i64 (errG n ts)) ∧ Below W.heap.size W w') := fun W hb => rCheck_any n a cap ts W hl (hs.below hb)
  have HBE : Hid (okG n ts = true → ∃ k : Nat, n = ((k + 1 : Nat) : Int) ∧ k < 32) := fun h => by
    unfold okG ftB at h
    simp only [Bool.and_eq_true, decide_eq_true_eq] at h
    exact ⟨(n - 1).toNat, by omega, by omega⟩
  obtain ⟨m, hm⟩ : ∃ m, m = ts.length := ⟨_, rfl⟩
  unfold errG at HC
  unfold errA
  rw [← hm] at hl HC ⊢
  clear hm hs
  cases hok : okG n ts with
  | false =>
    rw [hok] at HC
    clear HBE hok
    go_enter Tryz.func55, Tryz.ntmps55
    simp only [gV] at HC ⊢
    go_wp2_with (first | (go_at_call 46; refine (HC.out _ ((Below.refl _ _).alloc (Nat.le_refl _) _)).mono ?_; rintro e w1 ⟨rfl, hb⟩; clear HC; have HB1 := Lib.hid hb; clear hb; simp only [Bool.false_eq_true, if_false]))
    go_ret
    exact ⟨rfl, ((Below.refl _ _).alloc (Nat.le_refl _) _).trans (HB1.out.mono (by simp))⟩
  | true =>
    obtain ⟨k, rfl, hk⟩ := HBE.out hok
    rw [hok] at HC
    have em : ((k + 1 : Nat) : Int) - 1 = (k : Int) := by omega
    rw [em]
    clear HBE hok em
    simp only [if_true]
    have hc : (ftB x 0 k = false ∧ (if (ftB x 0 k && ftB y 0 k) = true then (0 : Int) else 1) = 1) ∨ (ftB x 0 k = true ∧ ftB y 0 k = false ∧ (if (ftB x 0 k && ftB y 0 k) = true then (0 : Int) else 1) = 1) ∨ (ftB x 0 k = true ∧ ftB y 0 k = true ∧ (if (ftB x 0 k && ftB y 0 k) = true then (0 : Int) else 1) = 0) := by
      cases ftB x 0 k <;> cases ftB y 0 k <;> simp
    rcases hc with ⟨q1, hr⟩ | ⟨q1, q2, hr⟩ | ⟨q1, q2, hr⟩
    all_goals (
      rw [hr]
      clear hr
      go_enter Tryz.func55, Tryz.ntmps55
      simp only [gV] at HC ⊢
      go_wp2_with (first | (go_at_call 46; refine (HC.out _ ((Below.refl _ _).alloc (Nat.le_refl _) _)).mono ?_; rintro e w1 ⟨rfl, hb⟩; clear HC; have c0 := ((Blk.new w [.int .i64 ((k + 1 : Nat) : Int), .slice a m cap] 24).below hb).cell (i := 0) rfl; have HB1 := Lib.hid hb; clear hb; simp only [if_true]) | (go_at_call 79; refine (rBet_any _ _ _ _).mono ?_; rintro e w' ⟨rfl, rfl⟩; (try simp only [q1]); (try simp only [q2])))
      go_ret
      exact ⟨rfl, ((Below.refl _ _).alloc (Nat.le_refl _) _).trans (HB1.out.mono (by simp))⟩)
end Go.Proofs.YthjeiaildabadaaGreat
/- Layer 4: the specification's groups. -/
namespace Go.Proofs.YthjeiaildabadaaGreat
set_option linter.unusedSimpArgs false
set_option linter.unusedVariables false
open Go Go.RowKit

theorem TieAt.only {W W' : World} {b g : Nat} {t : TieD} (h : TieAt W b t) (ho : Only g W W') (hne : b ≠ g) : TieAt W' b t := by
  have e : ∀ o, W'.cell? ⟨b, o, none⟩ = W.cell? ⟨b, o, none⟩ := fun o => by simp only [World.cell?, ho.1 b h.lt hne]
  exact ⟨Nat.lt_of_lt_of_le h.lt ho.2, by rw [e]; exact h.c0, by rw [e]; exact h.c1, by rw [e]; exact h.c2, by rw [e]; exact h.c3, by rw [e]; exact h.c4⟩
set_option maxRecDepth 100000 in
set_option maxHeartbeats 4000000 in
theorem rGroups_any (n : Nat) (a : Option Addr) (cap : Nat) (ts : List TieD) (w : World) (hn : n ≤ 32) (hl : ts.length ≤ 512) (hv : ∀ t ∈ ts, tieB t n = true) (hs : TiesAt w a ts) :
    Calls Tryz.prog 47 #[gV n a ts.length cap] w fun e w' => ∃ g, e = .returned (.slice (some ⟨g, 0, none⟩) n n) ∧ w.heap.size ≤ g ∧ NB w' g (grpL n ts) ∧ Below w.heap.size w w' := by
  have HS := Lib.hid hs
  have HV := Lib.hid hv
  obtain ⟨m, hm⟩ : ∃ m, m = ts.length := ⟨_, rfl⟩
  rw [← hm] at hl ⊢
  have HM := Lib.hid hm
  clear hs hm hv
  have hmk := run_make_row' (P := Tryz.prog) 27 3 (.int .i64 0) 8 Tryz.underlying27 infoInt rfl .i64 .i64 n (by omega) (by omega)
  go_enter Tryz.func47, Tryz.ntmps47
  simp only [gV]
  go_upto_region 2 with (fail)
  refine named (fun V => Hid (Below w.heap.size w V) ∧ Hid (Blk V w.heap.size [.int .i64 n, .slice a m cap] 24) ∧ Hid (NB V (w.heap.size + 1) (idL n 0))) ?_ ?_
  · have b1 := Blk.new w [.int .i64 n, .slice a m cap] 24
    refine ⟨((Below.refl _ _).alloc (Nat.le_refl _) _).alloc (by simp) _, b1.block (Below.heap_alloc _ _ _ b1.lt), ?_⟩
    have := NB.made (w.alloc (.cells #[.int .i64 n, .slice a m cap] 24)) n
    unfold idL
    simpa [Hid, intN] using this
  rintro W0 ⟨FB, K1, N0⟩
  generalize hb1 : w.heap.size = b1 at K1 N0 ⊢
  generalize hb3 : b1 + 1 = b3 at N0 ⊢
  have HBB : Hid (w.heap.size ≤ b3 ∧ b1 ≠ b3 ∧ w.heap.size ≤ b1) := ⟨by omega, by omega, by omega⟩
  clear hb1 hb3 hmk
  go_wp2_with fail
  go_loopg [4] n (fun gk t4 wr => ∃ k : Nat, k + gk = n ∧ t4 = .int .i64 k ∧ Hid (NB wr b3 (idL n k)) ∧ Hid (Blk wr b1 [.int .i64 n, .slice a m cap] 24) ∧ Hid (Below w.heap.size w wr))
  case atStart => exact ⟨0, by omega, rfl, N0, K1, FB⟩
  case round =>
    obtain ⟨k, hkg, rfl, HN, HK, HB⟩ := hrel
    have d0 := HK.out.cell (i := 0) rfl
    by_cases hlt : k < n
    · have hn0 := HN.out.cell (idL_at hlt)
      have hf0 := HN.out.frozen k
      go_wp2_with fail
      go_roundg (gk - 1)
      case measure => omega
      case rel =>
        refine ⟨k + 1, by omega, by simp, ?_, ?_, ?_⟩
        · have := HN.out.set_ k (k : Int)
          rw [idL_set hlt] at this
          exact this
        · exact HK.out.only ((Only.refl b3 wr).set_ k _) HBB.out.2.1
        · exact HB.out.setCell HBB.out.1 _
    · have e : k = n := by omega
      subst e
      clear FB K1 N0
      replace HN : Hid (NB wr b3 (intN (List.range k))) := by have := HN.out; rw [idL_end] at this; exact this
      have HW : Hid (Way k (Eqv (TieR (joinsT ts))) (intN (List.range k))) := Way.start
      generalize intN (List.range k) = l0 at HN HW
      go_wp2_with fail
      clear d0
      go_loopg [5] (sumT l0 + 1) (fun gk t5 wr => ∃ (l : List Int) (fl : Bool), t5 = .bool fl ∧ Hid (NB wr b3 l ∧ Blk wr b1 [.int .i64 k, .slice a m cap] 24 ∧ Below w.heap.size w wr) ∧ Hid (Way k (Eqv (TieR (joinsT ts))) l) ∧ Hid (fl = false → ∀ t ∈ ts, t.kind = 2 → l[t.a.toNat]? = l[t.b.toNat]?) ∧ Hid (sumT l + (if fl then 1 else 0) ≤ gk))
      case atStart => exact ⟨l0, true, rfl, ⟨HN.out, HK.out, HB.out⟩, HW, (fun h => by cases h), (by simp [Hid])⟩
      case round =>
        obtain ⟨l, fl, rfl, HM1, HW1, HST, HGK⟩ := hrel
        clear HN HK HB HW
        cases fl with
        | false =>
          have HR : Hid (NB wr b3 (grpL k ts)) := by
            have := HM1.out.1
            rwa [ref_done HV.out HW1.out (HST.out (by trivial))] at this
          go_wp2_with fail
          go_ret
          exact ⟨b3, rfl, HBB.out.1, HR.out, HM1.out.2.2⟩
        | true =>
          obtain ⟨G, hG⟩ : ∃ G, G = gk - 1 := ⟨_, rfl⟩
          have HG : Hid (G = gk - 1 ∧ sumT l ≤ G ∧ G < gk) := by have := HGK.out; simp at this; exact ⟨hG, by omega, by omega⟩
          have HPI : Hid (PassI k (joinsT ts) l ts (refP l ts)) := refP_inv HW1.out ts HV.out (fun x h => h)
          have HLL : Hid (l.length = k) := HW1.out.len
          clear hG HST HGK HW1
          have d1 := HM1.out.2.1.cell (i := 1) rfl
          go_wp2_with fail
          clear d1
          go_loopg [5, 6] m (fun gk t5 t6 wx => ∃ j : Nat, j + gk = m ∧ t6 = .int .i64 j ∧ t5 = .bool (refP l (ts.take j)).2 ∧ Hid (NB wx b3 (refP l (ts.take j)).1 ∧ Blk wx b1 [.int .i64 k, .slice a m cap] 24 ∧ Below w.heap.size w wx))
          case atStart => exact ⟨0, by omega, rfl, rfl, HM1.out⟩
          case round =>
          obtain ⟨j, hjg, rfl, rfl, H⟩ := hrel
          clear HM1
          have d1 := H.out.2.1.cell (i := 1) rfl
          by_cases hlt : j < m
          · have hkl : j < ts.length := by rw [← HM.out]; exact hlt
            obtain ⟨lb, lo, rfl, hlb, c0, c1, c2, c3, c4⟩ := (HS.out.below H.out.2.2).at hkl
            have HST := Lib.hid (refP_step l ts j hkl)
            have hvk := HV.out ts[j] (List.getElem_mem hkl)
            have hL := refP_len l (ts.take j)
            rw [HLL.out] at hL
            obtain ⟨y, hy⟩ : ∃ y, y = ts[j] := ⟨_, rfl⟩
            rw [← hy] at hvk HST c0 c1 c2 c3 c4
            obtain ⟨ha0, ha1, hb0, hb1, ha2, hb2⟩ := tieB_in hvk
            have hab : y.a ≠ y.b := by
              unfold tieB at hvk
              simp only [Bool.and_eq_true, Bool.not_eq_true', beq_eq_false_iff_ne] at hvk
              exact hvk.1.1.1.2
            obtain ⟨⟨L, F⟩, hLF⟩ : ∃ L, L = refP l (ts.take j) := ⟨_, rfl⟩
            rw [← hLF] at HST H hL ⊢
            clear hy hkl hLF hvk
            obtain ⟨ya, yb, yk, ys, yr⟩ := y
            simp only at c0 c1 c2 c3 c4 ha0 ha1 hb0 hb1 ha2 hb2 hab hL H ⊢
            obtain ⟨xa, rfl⟩ := Int.eq_ofNat_of_zero_le ha0
            obtain ⟨xb, rfl⟩ := Int.eq_ofNat_of_zero_le hb0
            have hP := atI_some (l := L) (i := (xa : Int)) (by rw [hL]; exact ha2)
            have hQ := atI_some (l := L) (i := (xb : Int)) (by rw [hL]; exact hb2)
            have HST2 : Hid (refP l (ts.take (j + 1)) = if yk == 2 && !(atI L xa == atI L xb) then ((L.set xa (min (atI L xa) (atI L xb))).set xb (min (atI L xa) (atI L xb)), true) else (L, F)) := by rw [Hid, HST.out]; unfold refS; simp only [Int.toNat_natCast]
            obtain ⟨p, hp⟩ : ∃ p, p = atI L xa := ⟨_, rfl⟩
            obtain ⟨q, hq⟩ : ∃ q, q = atI L xb := ⟨_, rfl⟩
            rw [← hp, Int.toNat_natCast] at hP
            rw [← hq, Int.toNat_natCast] at hQ
            rw [← hp, ← hq] at HST2
            have HP := Lib.hid hP
            have HQ := Lib.hid hQ
            have HLT : Hid (xa < k ∧ xb < k) := ⟨by omega, by omega⟩
            have HAB : Hid (xa ≠ xb) := fun e => hab (by rw [e])
            clear HST hp hq hP hQ hab ha0 ha1 hb0 hb1 ha2 hb2
            go_upto_region 13 with (fail)
            refine named (fun V => Below wr.heap.size wr V ∧ TieAt V wr.heap.size ⟨xa, xb, yk, ys, yr⟩) ⟨(Below.refl _ _).alloc (Nat.le_refl _) _, TieAt.new wr ⟨xa, xb, yk, ys, yr⟩ _⟩ ?_
            rintro W5 ⟨F5, T5⟩
            have HX : Hid (∀ W, (clOld W5.drew).C W → NB W b3 L ∧ TieAt W wr.heap.size ⟨xa, xb, yk, ys, yr⟩ ∧ Blk W b1 [.int .i64 k, .slice (some ⟨lb, lo, none⟩) m cap] 24 ∧ Below w.heap.size w W ∧ wr.heap.size < W.heap.size) := fun W hC => by
              have hb : Below W5.heap.size W5 W := old_end (Below.refl _ _) hC (Nat.le_refl _)
              have h5 := F5.trans (hb.mono F5.size)
              exact ⟨H.out.1.block (h5.block _ H.out.1.lt), T5.below hb, H.out.2.1.below h5, H.out.2.2.trans (h5.mono H.out.2.2.size), Nat.lt_of_lt_of_le T5.lt hb.size⟩
            obtain ⟨b7, hb7⟩ : ∃ b7, b7 = wr.heap.size := ⟨_, rfl⟩
            rw [← hb7] at HX ⊢
            have H73 : Hid (b3 < b7 ∧ b1 < b7) := by rw [hb7]; exact ⟨H.out.1.lt, H.out.2.1.lt⟩
            clear T5 F5 H d1 c0 c1 c2 c3 c4 hlb hb7
            have t3 : decide (j < m) = true := decide_eq_true hlt
            cases hkd : (yk == 2) with
            | false =>
            have HKD : Hid (false = decide (yk = 2)) := by rw [Hid, ← hkd]; rfl
            have HDD : Hid (true = true) := rfl
            have HE : Hid (refP l (ts.take (j + 1)) = (L, F)) := by rw [Hid, HST2.out, hkd]; rfl
            clear hkd HST2
            refine wp_region_old 16 73 (by kernel_rfl) (by kernel_rfl) (by rfl) ?_
            simp only [List.take_succ_cons, List.take_zero, List.drop_succ_cons, List.drop_zero, List.drop_nil]
            refine chain_val (.pointer (some ⟨b7, 2, none⟩)) (fun _ _ => Below.refl _ _) rfl (by intro cs b h; cases h) (by kernel_rfl) (by kernel_rfl) (fun w1 _ => by simp [execOp, evE, lk_cons, lk_nil, slotL, go_sem]) ?_
            refine chain_load (.int .i64 yk) _ _ _ (fun _ _ => Below.refl _ _) rfl rfl (by kernel_rfl) (by kernel_rfl) rfl (fun w1 hC => load_i64 (HX.out w1 hC).2.1.c2) ?_
            refine chain_bin (.bool false) _ _ _ _ _ (.int .i64 yk) (.int .i64 2) (fun _ _ => Below.refl _ _) rfl rfl (by kernel_rfl) (by kernel_rfl) rfl rfl (fun w1 => eql_i64 _ _ _ _ _ _ HKD.out w1) ?_
            refine chain_move (.bool false) _ (fun _ _ => Below.refl _ _) rfl rfl (by kernel_rfl) (by kernel_rfl) rfl ?_
            refine chain_skip rfl (by kernel_rfl) ?_
            refine chain_skip rfl (by kernel_rfl) ?_
            refine chain_skip rfl (by kernel_rfl) ?_
            refine chain_skip rfl (by kernel_rfl) ?_
            refine chain_skip rfl (by kernel_rfl) ?_
            refine chain_skip rfl (by kernel_rfl) ?_
            refine chain_skip rfl (by kernel_rfl) ?_
            refine chain_skip rfl (by kernel_rfl) ?_
            refine chain_skip rfl (by kernel_rfl) ?_
            refine chain_skip rfl (by kernel_rfl) ?_
            refine chain_skip rfl (by kernel_rfl) ?_
            refine chain_pick (.bool false) _ _ _ false (fun _ _ => Below.refl _ _) rfl rfl (by kernel_rfl) (by kernel_rfl) rfl rfl ?_
            refine chain_end (by rfl) ?_
            intro xs w6 hCw6 hrew6
            simp only [layE, List.foldr_cons, List.foldr_nil, List.set_cons_succ, List.set_cons_zero]
            have H6 := Lib.hid (HX.out w6 hCw6)
            clear hCw6 hrew6
            go_wp2_with fail
            go_roundg (gk - 1)
            case measure => omega
            case rel =>
              exact ⟨j + 1, by omega, by simp, by rw [HE.out], by rw [HE.out]; exact ⟨H6.out.1, H6.out.2.2.1, H6.out.2.2.2.1⟩⟩
            | true =>
            have HKD : Hid (true = decide (yk = 2)) := by rw [Hid, ← hkd]; rfl
            by_cases hpq : p = q
            · have HDD : Hid (false = !decide (p = q)) := by rw [Hid, decide_eq_true hpq]; rfl
              have HE : Hid (refP l (ts.take (j + 1)) = (L, F)) := by rw [Hid, HST2.out, hkd, hpq]; simp
              clear hkd HST2 hpq
              refine wp_region_old 16 73 (by kernel_rfl) (by kernel_rfl) (by rfl) ?_
              simp only [List.take_succ_cons, List.take_zero, List.drop_succ_cons, List.drop_zero, List.drop_nil]
              refine chain_val (.pointer (some ⟨b7, 2, none⟩)) (fun _ _ => Below.refl _ _) rfl (by intro cs b h; cases h) (by kernel_rfl) (by kernel_rfl) (fun w1 _ => by simp [execOp, evE, lk_cons, lk_nil, slotL, go_sem]) ?_
              refine chain_load (.int .i64 yk) _ _ _ (fun _ _ => Below.refl _ _) rfl rfl (by kernel_rfl) (by kernel_rfl) rfl (fun w1 hC => load_i64 (HX.out w1 hC).2.1.c2) ?_
              refine chain_bin (.bool true) _ _ _ _ _ (.int .i64 yk) (.int .i64 2) (fun _ _ => Below.refl _ _) rfl rfl (by kernel_rfl) (by kernel_rfl) rfl rfl (fun w1 => eql_i64 _ _ _ _ _ _ HKD.out w1) ?_
              refine chain_move (.bool true) _ (fun _ _ => Below.refl _ _) rfl rfl (by kernel_rfl) (by kernel_rfl) rfl ?_
              refine chain_move (.slice (some ⟨b3, 0, none⟩) k k) _ (fun _ _ => Below.refl _ _) rfl rfl (by kernel_rfl) (by kernel_rfl) rfl ?_
              refine chain_val (.pointer (some ⟨b7, 0, none⟩)) (fun _ _ => Below.refl _ _) rfl (by intro cs b h; cases h) (by kernel_rfl) (by kernel_rfl) (fun w1 _ => by simp [execOp, evE, lk_cons, lk_nil, slotL, go_sem]) ?_
              refine chain_load (.int .i64 xa) _ _ _ (fun _ _ => Below.refl _ _) rfl rfl (by kernel_rfl) (by kernel_rfl) rfl (fun w1 hC => load_i64 (HX.out w1 hC).2.1.c0) ?_
              refine chain_idx (.pointer (some ⟨b3, 0 + xa, none⟩)) _ _ _ (.slice (some ⟨b3, 0, none⟩) k k) (.int .i64 xa) (fun _ _ => Below.refl _ _) rfl rfl (by kernel_rfl) (by kernel_rfl) rfl rfl (fun w1 => idx_i64 _ _ _ _ _ HLT.out.1 w1) ?_
              refine chain_load (.int .i64 p) _ _ _ (fun _ _ => Below.refl _ _) rfl rfl (by kernel_rfl) (by kernel_rfl) rfl (fun w1 hC => load_i64 (by rw [Nat.zero_add]; exact (HX.out w1 hC).1.cell HP.out)) ?_
              refine chain_move (.slice (some ⟨b3, 0, none⟩) k k) _ (fun _ _ => Below.refl _ _) rfl rfl (by kernel_rfl) (by kernel_rfl) rfl ?_
              refine chain_val (.pointer (some ⟨b7, 1, none⟩)) (fun _ _ => Below.refl _ _) rfl (by intro cs b h; cases h) (by kernel_rfl) (by kernel_rfl) (fun w1 _ => by simp [execOp, evE, lk_cons, lk_nil, slotL, go_sem]) ?_
              refine chain_load (.int .i64 xb) _ _ _ (fun _ _ => Below.refl _ _) rfl rfl (by kernel_rfl) (by kernel_rfl) rfl (fun w1 hC => load_i64 (HX.out w1 hC).2.1.c1) ?_
              refine chain_idx (.pointer (some ⟨b3, 0 + xb, none⟩)) _ _ _ (.slice (some ⟨b3, 0, none⟩) k k) (.int .i64 xb) (fun _ _ => Below.refl _ _) rfl rfl (by kernel_rfl) (by kernel_rfl) rfl rfl (fun w1 => idx_i64 _ _ _ _ _ HLT.out.2 w1) ?_
              refine chain_load (.int .i64 q) _ _ _ (fun _ _ => Below.refl _ _) rfl rfl (by kernel_rfl) (by kernel_rfl) rfl (fun w1 hC => load_i64 (by rw [Nat.zero_add]; exact (HX.out w1 hC).1.cell HQ.out)) ?_
              refine chain_bin (.bool false) _ _ _ _ _ (.int .i64 p) (.int .i64 q) (fun _ _ => Below.refl _ _) rfl rfl (by kernel_rfl) (by kernel_rfl) rfl rfl (fun w1 => neq_i64 _ _ _ _ _ _ HDD.out w1) ?_
              refine chain_pick (.bool false) _ _ _ true (fun _ _ => Below.refl _ _) rfl rfl (by kernel_rfl) (by kernel_rfl) rfl rfl ?_
              refine chain_end (by rfl) ?_
              intro xs w6 hCw6 hrew6
              simp only [layE, List.foldr_cons, List.foldr_nil, List.set_cons_succ, List.set_cons_zero]
              have H6 := Lib.hid (HX.out w6 hCw6)
              clear hCw6 hrew6
              go_wp2_with fail
              go_roundg (gk - 1)
              case measure => omega
              case rel =>
                exact ⟨j + 1, by omega, by simp, by rw [HE.out], by rw [HE.out]; exact ⟨H6.out.1, H6.out.2.2.1, H6.out.2.2.2.1⟩⟩
            · have HDD : Hid (true = !decide (p = q)) := by rw [Hid, decide_eq_false hpq]; rfl
              obtain ⟨mn, hmn⟩ : ∃ mn, mn = min p q := ⟨_, rfl⟩
              have HMN := Lib.hid hmn
              have HE : Hid (refP l (ts.take (j + 1)) = ((L.set xa mn).set xb mn, true)) := by
                rw [Hid, HST2.out, hkd, hmn]
                simp [hpq]
              clear hkd HST2 hpq hmn
              refine wp_region_old 16 73 (by kernel_rfl) (by kernel_rfl) (by rfl) ?_
              simp only [List.take_succ_cons, List.take_zero, List.drop_succ_cons, List.drop_zero, List.drop_nil]
              refine chain_val (.pointer (some ⟨b7, 2, none⟩)) (fun _ _ => Below.refl _ _) rfl (by intro cs b h; cases h) (by kernel_rfl) (by kernel_rfl) (fun w1 _ => by simp [execOp, evE, lk_cons, lk_nil, slotL, go_sem]) ?_
              refine chain_load (.int .i64 yk) _ _ _ (fun _ _ => Below.refl _ _) rfl rfl (by kernel_rfl) (by kernel_rfl) rfl (fun w1 hC => load_i64 (HX.out w1 hC).2.1.c2) ?_
              refine chain_bin (.bool true) _ _ _ _ _ (.int .i64 yk) (.int .i64 2) (fun _ _ => Below.refl _ _) rfl rfl (by kernel_rfl) (by kernel_rfl) rfl rfl (fun w1 => eql_i64 _ _ _ _ _ _ HKD.out w1) ?_
              refine chain_move (.bool true) _ (fun _ _ => Below.refl _ _) rfl rfl (by kernel_rfl) (by kernel_rfl) rfl ?_
              refine chain_move (.slice (some ⟨b3, 0, none⟩) k k) _ (fun _ _ => Below.refl _ _) rfl rfl (by kernel_rfl) (by kernel_rfl) rfl ?_
              refine chain_val (.pointer (some ⟨b7, 0, none⟩)) (fun _ _ => Below.refl _ _) rfl (by intro cs b h; cases h) (by kernel_rfl) (by kernel_rfl) (fun w1 _ => by simp [execOp, evE, lk_cons, lk_nil, slotL, go_sem]) ?_
              refine chain_load (.int .i64 xa) _ _ _ (fun _ _ => Below.refl _ _) rfl rfl (by kernel_rfl) (by kernel_rfl) rfl (fun w1 hC => load_i64 (HX.out w1 hC).2.1.c0) ?_
              refine chain_idx (.pointer (some ⟨b3, 0 + xa, none⟩)) _ _ _ (.slice (some ⟨b3, 0, none⟩) k k) (.int .i64 xa) (fun _ _ => Below.refl _ _) rfl rfl (by kernel_rfl) (by kernel_rfl) rfl rfl (fun w1 => idx_i64 _ _ _ _ _ HLT.out.1 w1) ?_
              refine chain_load (.int .i64 p) _ _ _ (fun _ _ => Below.refl _ _) rfl rfl (by kernel_rfl) (by kernel_rfl) rfl (fun w1 hC => load_i64 (by rw [Nat.zero_add]; exact (HX.out w1 hC).1.cell HP.out)) ?_
              refine chain_move (.slice (some ⟨b3, 0, none⟩) k k) _ (fun _ _ => Below.refl _ _) rfl rfl (by kernel_rfl) (by kernel_rfl) rfl ?_
              refine chain_val (.pointer (some ⟨b7, 1, none⟩)) (fun _ _ => Below.refl _ _) rfl (by intro cs b h; cases h) (by kernel_rfl) (by kernel_rfl) (fun w1 _ => by simp [execOp, evE, lk_cons, lk_nil, slotL, go_sem]) ?_
              refine chain_load (.int .i64 xb) _ _ _ (fun _ _ => Below.refl _ _) rfl rfl (by kernel_rfl) (by kernel_rfl) rfl (fun w1 hC => load_i64 (HX.out w1 hC).2.1.c1) ?_
              refine chain_idx (.pointer (some ⟨b3, 0 + xb, none⟩)) _ _ _ (.slice (some ⟨b3, 0, none⟩) k k) (.int .i64 xb) (fun _ _ => Below.refl _ _) rfl rfl (by kernel_rfl) (by kernel_rfl) rfl rfl (fun w1 => idx_i64 _ _ _ _ _ HLT.out.2 w1) ?_
              refine chain_load (.int .i64 q) _ _ _ (fun _ _ => Below.refl _ _) rfl rfl (by kernel_rfl) (by kernel_rfl) rfl (fun w1 hC => load_i64 (by rw [Nat.zero_add]; exact (HX.out w1 hC).1.cell HQ.out)) ?_
              refine chain_bin (.bool true) _ _ _ _ _ (.int .i64 p) (.int .i64 q) (fun _ _ => Below.refl _ _) rfl rfl (by kernel_rfl) (by kernel_rfl) rfl rfl (fun w1 => neq_i64 _ _ _ _ _ _ HDD.out w1) ?_
              refine chain_pick (.bool true) _ _ _ true (fun _ _ => Below.refl _ _) rfl rfl (by kernel_rfl) (by kernel_rfl) rfl rfl ?_
              refine chain_end (by rfl) ?_
              intro xs w6 hCw6 hrew6
              simp only [layE, List.foldr_cons, List.foldr_nil, List.set_cons_succ, List.set_cons_zero]
              have H6 := Lib.hid (HX.out w6 hCw6)
              clear hCw6 hrew6
              go_upto_region 14 with (fail)
              have HX2 : Hid (∀ W, (clOld w6.drew).C W → NB W b3 L ∧ TieAt W b7 ⟨xa, xb, yk, ys, yr⟩ ∧ Blk W b1 [.int .i64 k, .slice (some ⟨lb, lo, none⟩) m cap] 24 ∧ Below w.heap.size w W) := fun W hC => by
                have hb : Below w6.heap.size w6 W := old_end (Below.refl _ _) hC (Nat.le_refl _)
                obtain ⟨g1, g2, g3, g4, g5⟩ := H6.out
                exact ⟨g1.block (hb.block _ g1.lt), g2.below hb, g3.below hb, g4.trans (hb.mono g4.size)⟩
              refine wp_region_old 12 73 (by kernel_rfl) (by kernel_rfl) (by rfl) ?_
              simp only [List.take_succ_cons, List.take_zero, List.drop_succ_cons, List.drop_zero, List.drop_nil]
              refine chain_move (.slice (some ⟨b3, 0, none⟩) k k) _ (fun _ _ => Below.refl _ _) rfl rfl (by kernel_rfl) (by kernel_rfl) rfl ?_
              refine chain_val (.pointer (some ⟨b7, 0, none⟩)) (fun _ _ => Below.refl _ _) rfl (by intro cs b h; cases h) (by kernel_rfl) (by kernel_rfl) (fun w1 _ => by simp [execOp, evE, lk_cons, lk_nil, slotL, go_sem]) ?_
              refine chain_load (.int .i64 xa) _ _ _ (fun _ _ => Below.refl _ _) rfl rfl (by kernel_rfl) (by kernel_rfl) rfl (fun w1 hC => load_i64 (HX2.out w1 hC).2.1.c0) ?_
              refine chain_idx (.pointer (some ⟨b3, 0 + xa, none⟩)) _ _ _ (.slice (some ⟨b3, 0, none⟩) k k) (.int .i64 xa) (fun _ _ => Below.refl _ _) rfl rfl (by kernel_rfl) (by kernel_rfl) rfl rfl (fun w1 => idx_i64 _ _ _ _ _ HLT.out.1 w1) ?_
              refine chain_load (.int .i64 p) _ _ _ (fun _ _ => Below.refl _ _) rfl rfl (by kernel_rfl) (by kernel_rfl) rfl (fun w1 hC => load_i64 (by rw [Nat.zero_add]; exact (HX2.out w1 hC).1.cell HP.out)) ?_
              refine chain_move (.slice (some ⟨b3, 0, none⟩) k k) _ (fun _ _ => Below.refl _ _) rfl rfl (by kernel_rfl) (by kernel_rfl) rfl ?_
              refine chain_val (.pointer (some ⟨b7, 1, none⟩)) (fun _ _ => Below.refl _ _) rfl (by intro cs b h; cases h) (by kernel_rfl) (by kernel_rfl) (fun w1 _ => by simp [execOp, evE, lk_cons, lk_nil, slotL, go_sem]) ?_
              refine chain_load (.int .i64 xb) _ _ _ (fun _ _ => Below.refl _ _) rfl rfl (by kernel_rfl) (by kernel_rfl) rfl (fun w1 hC => load_i64 (HX2.out w1 hC).2.1.c1) ?_
              refine chain_idx (.pointer (some ⟨b3, 0 + xb, none⟩)) _ _ _ (.slice (some ⟨b3, 0, none⟩) k k) (.int .i64 xb) (fun _ _ => Below.refl _ _) rfl rfl (by kernel_rfl) (by kernel_rfl) rfl rfl (fun w1 => idx_i64 _ _ _ _ _ HLT.out.2 w1) ?_
              refine chain_load (.int .i64 q) _ _ _ (fun _ _ => Below.refl _ _) rfl rfl (by kernel_rfl) (by kernel_rfl) rfl (fun w1 hC => load_i64 (by rw [Nat.zero_add]; exact (HX2.out w1 hC).1.cell HQ.out)) ?_
              refine chain_val (.int .i64 mn) (fun _ _ => Below.refl _ _) rfl (by intro cs b h; cases h) (by kernel_rfl) (by kernel_rfl) (fun w1 _ => by simp [execOp, evE, lk_cons, lk_nil, slotL, go_sem, HMN.out, min_if]) ?_
              refine chain_assign (.int .i64 mn) _ (fun _ _ => Below.refl _ _) rfl rfl (by kernel_rfl) (by kernel_rfl) rfl ?_
              refine chain_end (by rfl) ?_
              intro xs w7 hCw7 hrew7
              simp only [layE, List.foldr_cons, List.foldr_nil, List.set_cons_succ, List.set_cons_zero]
              have H7 := Lib.hid (HX2.out w7 hCw7)
              clear hCw7 hrew7 HX HX2 H6
              have c0 := H7.out.2.1.c0
              have n0 := H7.out.1.cell HP.out
              have f0 := H7.out.1.frozen xa
              have q1 : xa < k := HLT.out.1
              go_upto_region 16 with (fail)
              refine named (fun V => NB V b3 (L.set xa mn) ∧ TieAt V b7 ⟨xa, xb, yk, ys, yr⟩ ∧ Blk V b1 [.int .i64 k, .slice (some ⟨lb, lo, none⟩) m cap] 24 ∧ Below w.heap.size w V) ⟨H7.out.1.set_ xa mn, H7.out.2.1.only ((Only.refl b3 w7).set_ xa _) (by have := H73.out.1; omega), H7.out.2.2.1.only ((Only.refl b3 w7).set_ xa _) HBB.out.2.1, H7.out.2.2.2.setCell HBB.out.1 _⟩ ?_
              rintro W8 ⟨g1, g2, g3, g4⟩
              have H8 := Lib.hid (And.intro g1 (And.intro g2 (And.intro g3 g4)))
              have c1 := g2.c1
              have n1 := g1.cell (i := xb) (x := q) (by rw [List.getElem?_set, if_neg HAB.out]; exact HQ.out)
              have f1 := g1.frozen xb
              have q2 : xb < k := HLT.out.2
              clear g1 g2 g3 g4 c0 n0 f0 q1 H7
              go_upto_region 17 with (fail)
              refine named (fun V => NB V b3 ((L.set xa mn).set xb mn) ∧ Blk V b1 [.int .i64 k, .slice (some ⟨lb, lo, none⟩) m cap] 24 ∧ Below w.heap.size w V) ⟨H8.out.1.set_ xb mn, H8.out.2.2.1.only ((Only.refl b3 W8).set_ xb _) HBB.out.2.1, H8.out.2.2.2.setCell HBB.out.1 _⟩ ?_
              intro W9 h9
              replace h9 := Lib.hid h9
              clear c1 n1 f1 q2 H8
              go_wp2_with fail
              go_roundg (gk - 1)
              case measure => omega
              case rel =>
                exact ⟨j + 1, by omega, by simp, by rw [HE.out], by rw [HE.out]; exact h9.out⟩
          · have e : j = m := by omega
            subst e
            have ht : ts.take j = ts := List.take_of_length_le (by rw [← HM.out]; omega)
            rw [ht] at H ⊢
            clear ht
            have t3 : decide (j < j) = false := decide_eq_false hlt
            obtain ⟨P, hP⟩ : ∃ P, P = refP l ts := ⟨_, rfl⟩
            rw [← hP] at H HPI ⊢
            clear hP
            obtain ⟨L, F⟩ := P
            simp only at H ⊢
            go_wp2_with fail
            go_roundg G
            case measure => exact HG.out.2.2
            case rel =>
              refine ⟨L, F, rfl, H.out, HPI.out.way, ?_, ?_⟩
              · intro hF t ht hk
                obtain ⟨e1, e2⟩ := HPI.out.no hF
                simp only at e1
                rw [e1]
                exact e2 t ht hk
              · cases F with
                | false =>
                  have := (HPI.out.no rfl).1
                  simp only at this
                  rw [this]
                  simpa [Hid] using HG.out.2.1
                | true =>
                  have := HPI.out.yes rfl
                  simp only at this
                  have h2 := HG.out.2.1
                  simp only [Hid, if_true]
                  omega
end Go.Proofs.YthjeiaildabadaaGreat
/- Layer 4: the specification's Groups, Same and Apart. -/
namespace Go.Proofs.YthjeiaildabadaaGreat
set_option linter.unusedSimpArgs false
set_option linter.unusedVariables false
open Go Go.RowKit

theorem dec_of {a b : Int} {v : Bool} (h : (a == b) = v) : v = decide (a = b) := by rw [← h]; rfl
theorem any_no' {l : List Int} {ts : List TieD} {x y : Int} {k : Nat} (hk : k < ts.length) (h : (ts.take k).any (cutB l x y) = false) (h2 : cutB l x y ts[k] = false) : (ts.take (k + 1)).any (cutB l x y) = false := by
  rw [← List.take_append_getElem hk, List.any_append, h]; simp [h2]
theorem any_yes' {l : List Int} {ts : List TieD} {x y : Int} {k : Nat} (hk : k < ts.length) (h2 : cutB l x y ts[k] = true) : apB l ts x y = true := by
  unfold apB
  rw [List.any_eq_true]
  exact ⟨_, List.getElem_mem hk, h2⟩
set_option maxRecDepth 100000 in
set_option maxHeartbeats 4000000 in
theorem rApart_any (a : Option Addr) (cap : Nat) (ts : List TieD) (g k x y : Nat) (l : List Int) (w : World) (hl : ts.length ≤ 100000) (hs : TiesAt w a ts) (hlk : l.length = k) (hk : k ≤ 32) (hx : x < k) (hy : y < k) (ht : ∀ t ∈ ts, tieB t k = true) (h : NB w g l) :
    Calls Tryz.prog 100 #[gV k a ts.length cap, .slice (some ⟨g, 0, none⟩) k k, .int .i64 x, .int .i64 y] w fun e w' => e = .returned (.bool (apB l ts x y)) ∧ Below w.heap.size w w' := by
  have HS := Lib.hid hs
  have HV := Lib.hid ht
  have HG := Lib.hid h
  have hpx := atI_some (l := l) (i := (x : Int)) (by rw [Int.toNat_natCast]; omega)
  have hpy := atI_some (l := l) (i := (y : Int)) (by rw [Int.toNat_natCast]; omega)
  rw [Int.toNat_natCast] at hpx hpy
  have HPx := Lib.hid hpx
  have HPy := Lib.hid hpy
  have HXY : Hid (x < k ∧ y < k ∧ l.length = k) := ⟨hx, hy, hlk⟩
  obtain ⟨m, hm⟩ : ∃ m, m = ts.length := ⟨_, rfl⟩
  rw [← hm] at hl ⊢
  have HM := Lib.hid hm
  clear hs hm h hlk hx hy ht hpx hpy
  obtain ⟨r, hr0⟩ : ∃ r, r = apB l ts x y := ⟨_, rfl⟩
  have HR := Lib.hid hr0
  rw [← hr0]
  clear hr0
  go_enter Tryz.func100, Tryz.ntmps100
  simp only [gV]
  go_wp2_with fail
  go_loopw [9] (fun ti wr => ∃ j : Nat, j ≤ m ∧ ti = .int .i64 j ∧ Hid ((ts.take j).any (cutB l x y) = false) ∧ Hid (Blk wr w.heap.size [.int .i64 k, .slice a m cap] 24) ∧ Hid (Below w.heap.size w wr)) (fun ti _ => m - (intOf ti).toNat)
  case atStart => exact ⟨0, by omega, rfl, by simp [Hid], Blk.new w _ _, (Below.refl _ _).alloc (Nat.le_refl _) _⟩
  case round =>
    obtain ⟨j, hj, rfl, HN, HK, HB⟩ := hrel
    have d1 := HK.out.cell (i := 1) rfl
    by_cases hlt : j < m
    · have hkl : j < ts.length := by rw [← HM.out]; exact hlt
      obtain ⟨lb, lo, rfl, hlb, c0, c1, c2, c3, c4⟩ := (HS.out.below HB.out).at hkl
      have HNO := Lib.hid (any_no' hkl HN.out)
      have HYES := Lib.hid (any_yes' (l := l) (x := x) (y := y) hkl)
      have hvk := HV.out ts[j] (List.getElem_mem hkl)
      obtain ⟨z, hz⟩ : ∃ z, z = ts[j] := ⟨_, rfl⟩
      rw [← hz] at hvk HNO HYES c0 c1 c2 c3 c4
      obtain ⟨ha0, ha1, hb0, hb1, ha2, hb2⟩ := tieB_in hvk
      have hc := cut_cases l x y z
      clear hkl hz HN hvk
      obtain ⟨ya, yb, yk, ys, yr⟩ := z
      simp only at c0 c1 c2 c3 c4 ha0 ha1 hb0 hb1 ha2 hb2 hc HNO HYES
      obtain ⟨xa, rfl⟩ := Int.eq_ofNat_of_zero_le ha0
      obtain ⟨xb, rfl⟩ := Int.eq_ofNat_of_zero_le hb0
      have hpa := atI_some (l := l) (i := (xa : Int)) (by rw [HXY.out.2.2]; exact ha2)
      have hpb := atI_some (l := l) (i := (xb : Int)) (by rw [HXY.out.2.2]; exact hb2)
      rw [Int.toNat_natCast] at hpa hpb
      have HPa := Lib.hid hpa
      have HPb := Lib.hid hpb
      have HLT : Hid (xa < k ∧ xb < k ∧ x < k ∧ y < k) := ⟨by omega, by omega, HXY.out.1, HXY.out.2.1⟩
      clear hpa hpb ha0 ha1 hb0 hb1 ha2 hb2
      obtain ⟨b4, hb4⟩ : ∃ b4, b4 = w.heap.size := ⟨_, rfl⟩
      have HB4 := Lib.hid hb4
      rw [← hb4] at HK d1 ⊢
      clear hb4
      go_upto_region 5 with (fail)
      refine named (fun V => Below wr.heap.size wr V ∧ TieAt V wr.heap.size ⟨xa, xb, yk, ys, yr⟩) ⟨(Below.refl _ _).alloc (Nat.le_refl _) _, TieAt.new wr ⟨xa, xb, yk, ys, yr⟩ _⟩ ?_
      rintro W5 ⟨F5, T5⟩
      have HX : Hid (∀ W, (clOld W5.drew).C W → NB W g l ∧ TieAt W wr.heap.size ⟨xa, xb, yk, ys, yr⟩ ∧ Blk W b4 [.int .i64 k, .slice (some ⟨lb, lo, none⟩) m cap] 24 ∧ Below b4 w W) := fun W hC => by
        have hb : Below W5.heap.size W5 W := old_end (Below.refl _ _) hC (Nat.le_refl _)
        have h5 := F5.trans (hb.mono F5.size)
        have h6 := HB.out.trans (h5.mono HB.out.size)
        exact ⟨HG.out.block (h6.block _ HG.out.lt), T5.below hb, HK.out.below h5, by rw [HB4.out]; exact h6⟩
      obtain ⟨b7, hb7⟩ : ∃ b7, b7 = wr.heap.size := ⟨_, rfl⟩
      rw [← hb7] at HX ⊢
      clear T5 F5 d1 c0 c1 c2 c3 c4 hlb hb7
      have t3 : decide (j < m) = true := decide_eq_true hlt
      generalize atI l x = px at *
      generalize atI l y = py at *
      generalize atI l xa = pa at *
      generalize atI l xb = pb at *
      rcases hc with ⟨q0, hr⟩ | ⟨q0, ⟨q1, q2, hr⟩ | ⟨q1, q2, q3, q4, hr⟩ | ⟨q1, q2, q3, q4, hr⟩ | ⟨q1, q2, q3, hr⟩ | ⟨q1, q3, q4, hr⟩ | ⟨q1, q3, q4, hr⟩ | ⟨q1, q3, hr⟩⟩
      · rw [hr] at HNO HYES
        have HKD := Lib.hid (dec_of q0)
        clear hr q0
        refine wp_region_old 51 74 (by kernel_rfl) (by kernel_rfl) (by rfl) ?_
        simp only [List.take_succ_cons, List.take_zero, List.drop_succ_cons, List.drop_zero, List.drop_nil]
        refine chain_val (.pointer (some ⟨b7, 2, none⟩)) (fun _ _ => Below.refl _ _) rfl (by intro cs b h; cases h) (by kernel_rfl) (by kernel_rfl) (fun w1 _ => by simp [execOp, evE, lk_cons, lk_nil, slotL, go_sem]) ?_
        refine chain_load (.int .i64 yk) _ _ _ (fun _ _ => Below.refl _ _) rfl rfl (by kernel_rfl) (by kernel_rfl) rfl (fun w1 hC => load_i64 (HX.out w1 hC).2.1.c2) ?_
        refine chain_bin (.bool false) _ _ _ _ _ (.int .i64 yk) (.int .i64 1) (fun _ _ => Below.refl _ _) rfl rfl (by kernel_rfl) (by kernel_rfl) rfl rfl (fun w1 => eql_i64 _ _ _ _ _ _ HKD.out w1) ?_
        refine chain_move (.bool false) _ (fun _ _ => Below.refl _ _) rfl rfl (by kernel_rfl) (by kernel_rfl) rfl ?_
        refine chain_skip rfl (by kernel_rfl) ?_
        refine chain_skip rfl (by kernel_rfl) ?_
        refine chain_skip rfl (by kernel_rfl) ?_
        refine chain_skip rfl (by kernel_rfl) ?_
        refine chain_skip rfl (by kernel_rfl) ?_
        refine chain_skip rfl (by kernel_rfl) ?_
        refine chain_skip rfl (by kernel_rfl) ?_
        refine chain_skip rfl (by kernel_rfl) ?_
        refine chain_skip rfl (by kernel_rfl) ?_
        refine chain_skip rfl (by kernel_rfl) ?_
        refine chain_skip rfl (by kernel_rfl) ?_
        refine chain_skipU rfl (by kernel_rfl) ?_
        refine chain_skipU rfl (by kernel_rfl) ?_
        refine chain_skipU rfl (by kernel_rfl) ?_
        refine chain_skipU rfl (by kernel_rfl) ?_
        refine chain_skipU rfl (by kernel_rfl) ?_
        refine chain_skipU rfl (by kernel_rfl) ?_
        refine chain_skipU rfl (by kernel_rfl) ?_
        refine chain_skipU rfl (by kernel_rfl) ?_
        refine chain_skipU rfl (by kernel_rfl) ?_
        refine chain_skipU rfl (by kernel_rfl) ?_
        refine chain_skip rfl (by kernel_rfl) ?_
        refine chain_skip rfl (by kernel_rfl) ?_
        refine chain_skipU rfl (by kernel_rfl) ?_
        refine chain_skipU rfl (by kernel_rfl) ?_
        refine chain_skipU rfl (by kernel_rfl) ?_
        refine chain_skipU rfl (by kernel_rfl) ?_
        refine chain_skipU rfl (by kernel_rfl) ?_
        refine chain_skipU rfl (by kernel_rfl) ?_
        refine chain_skipU rfl (by kernel_rfl) ?_
        refine chain_skipU rfl (by kernel_rfl) ?_
        refine chain_skipU rfl (by kernel_rfl) ?_
        refine chain_skipU rfl (by kernel_rfl) ?_
        refine chain_skipU rfl (by kernel_rfl) ?_
        refine chain_skipU rfl (by kernel_rfl) ?_
        refine chain_skipU rfl (by kernel_rfl) ?_
        refine chain_skipU rfl (by kernel_rfl) ?_
        refine chain_skipU rfl (by kernel_rfl) ?_
        refine chain_skipU rfl (by kernel_rfl) ?_
        refine chain_skipU rfl (by kernel_rfl) ?_
        refine chain_skipU rfl (by kernel_rfl) ?_
        refine chain_skipU rfl (by kernel_rfl) ?_
        refine chain_skipU rfl (by kernel_rfl) ?_
        refine chain_skipU rfl (by kernel_rfl) ?_
        refine chain_skipU rfl (by kernel_rfl) ?_
        refine chain_skip rfl (by kernel_rfl) ?_
        refine chain_pick (.bool false) _ _ _ false (fun _ _ => Below.refl _ _) rfl rfl (by kernel_rfl) (by kernel_rfl) rfl rfl ?_
        refine chain_end (by rfl) ?_
        intro xs w6 hCw6 hrew6
        simp only [layE, List.foldr_cons, List.foldr_nil, List.set_cons_succ, List.set_cons_zero]
        have H6 := Lib.hid (HX.out w6 hCw6)
        clear hCw6 hrew6 HX
        go_wp2_with fail
        exact ⟨⟨j + 1, by omega, by simp, HNO.out (by trivial), H6.out.2.2.1, H6.out.2.2.2⟩, by simp [intOf]; omega⟩
      · rw [hr] at HNO HYES
        have HKD := Lib.hid (dec_of q0)
        have HQ1 := Lib.hid (dec_of q1)
        have HQ2 := Lib.hid (dec_of q2)
        clear hr q0 q1 q2
        refine wp_region_old 51 74 (by kernel_rfl) (by kernel_rfl) (by rfl) ?_
        simp only [List.take_succ_cons, List.take_zero, List.drop_succ_cons, List.drop_zero, List.drop_nil]
        refine chain_val (.pointer (some ⟨b7, 2, none⟩)) (fun _ _ => Below.refl _ _) rfl (by intro cs b h; cases h) (by kernel_rfl) (by kernel_rfl) (fun w1 _ => by simp [execOp, evE, lk_cons, lk_nil, slotL, go_sem]) ?_
        refine chain_load (.int .i64 yk) _ _ _ (fun _ _ => Below.refl _ _) rfl rfl (by kernel_rfl) (by kernel_rfl) rfl (fun w1 hC => load_i64 (HX.out w1 hC).2.1.c2) ?_
        refine chain_bin (.bool true) _ _ _ _ _ (.int .i64 yk) (.int .i64 1) (fun _ _ => Below.refl _ _) rfl rfl (by kernel_rfl) (by kernel_rfl) rfl rfl (fun w1 => eql_i64 _ _ _ _ _ _ HKD.out w1) ?_
        refine chain_move (.bool true) _ (fun _ _ => Below.refl _ _) rfl rfl (by kernel_rfl) (by kernel_rfl) rfl ?_
        refine chain_move (.slice (some ⟨g, 0, none⟩) k k) _ (fun _ _ => Below.refl _ _) rfl rfl (by kernel_rfl) (by kernel_rfl) rfl ?_
        refine chain_val (.pointer (some ⟨b7, 0, none⟩)) (fun _ _ => Below.refl _ _) rfl (by intro cs b h; cases h) (by kernel_rfl) (by kernel_rfl) (fun w1 _ => by simp [execOp, evE, lk_cons, lk_nil, slotL, go_sem]) ?_
        refine chain_load (.int .i64 xa) _ _ _ (fun _ _ => Below.refl _ _) rfl rfl (by kernel_rfl) (by kernel_rfl) rfl (fun w1 hC => load_i64 (HX.out w1 hC).2.1.c0) ?_
        refine chain_idx (.pointer (some ⟨g, 0 + xa, none⟩)) _ _ _ (.slice (some ⟨g, 0, none⟩) k k) (.int .i64 xa) (fun _ _ => Below.refl _ _) rfl rfl (by kernel_rfl) (by kernel_rfl) rfl rfl (fun w1 => idx_i64 _ _ _ _ _ HLT.out.1 w1) ?_
        refine chain_load (.int .i64 pa) _ _ _ (fun _ _ => Below.refl _ _) rfl rfl (by kernel_rfl) (by kernel_rfl) rfl (fun w1 hC => load_i64 (by rw [Nat.zero_add]; exact (HX.out w1 hC).1.cell HPa.out)) ?_
        refine chain_move (.slice (some ⟨g, 0, none⟩) k k) _ (fun _ _ => Below.refl _ _) rfl rfl (by kernel_rfl) (by kernel_rfl) rfl ?_
        refine chain_move (.int .i64 x) _ (fun _ _ => Below.refl _ _) rfl rfl (by kernel_rfl) (by kernel_rfl) rfl ?_
        refine chain_idx (.pointer (some ⟨g, 0 + x, none⟩)) _ _ _ (.slice (some ⟨g, 0, none⟩) k k) (.int .i64 x) (fun _ _ => Below.refl _ _) rfl rfl (by kernel_rfl) (by kernel_rfl) rfl rfl (fun w1 => idx_i64 _ _ _ _ _ HLT.out.2.2.1 w1) ?_
        refine chain_load (.int .i64 px) _ _ _ (fun _ _ => Below.refl _ _) rfl rfl (by kernel_rfl) (by kernel_rfl) rfl (fun w1 hC => load_i64 (by rw [Nat.zero_add]; exact (HX.out w1 hC).1.cell HPx.out)) ?_
        refine chain_bin (.bool true) _ _ _ _ _ (.int .i64 pa) (.int .i64 px) (fun _ _ => Below.refl _ _) rfl rfl (by kernel_rfl) (by kernel_rfl) rfl rfl (fun w1 => eql_i64 _ _ _ _ _ _ HQ1.out w1) ?_
        refine chain_move (.bool true) _ (fun _ _ => Below.refl _ _) rfl rfl (by kernel_rfl) (by kernel_rfl) rfl ?_
        refine chain_move (.slice (some ⟨g, 0, none⟩) k k) _ (fun _ _ => Below.refl _ _) rfl rfl (by kernel_rfl) (by kernel_rfl) rfl ?_
        refine chain_val (.pointer (some ⟨b7, 1, none⟩)) (fun _ _ => Below.refl _ _) rfl (by intro cs b h; cases h) (by kernel_rfl) (by kernel_rfl) (fun w1 _ => by simp [execOp, evE, lk_cons, lk_nil, slotL, go_sem]) ?_
        refine chain_load (.int .i64 xb) _ _ _ (fun _ _ => Below.refl _ _) rfl rfl (by kernel_rfl) (by kernel_rfl) rfl (fun w1 hC => load_i64 (HX.out w1 hC).2.1.c1) ?_
        refine chain_idx (.pointer (some ⟨g, 0 + xb, none⟩)) _ _ _ (.slice (some ⟨g, 0, none⟩) k k) (.int .i64 xb) (fun _ _ => Below.refl _ _) rfl rfl (by kernel_rfl) (by kernel_rfl) rfl rfl (fun w1 => idx_i64 _ _ _ _ _ HLT.out.2.1 w1) ?_
        refine chain_load (.int .i64 pb) _ _ _ (fun _ _ => Below.refl _ _) rfl rfl (by kernel_rfl) (by kernel_rfl) rfl (fun w1 hC => load_i64 (by rw [Nat.zero_add]; exact (HX.out w1 hC).1.cell HPb.out)) ?_
        refine chain_move (.slice (some ⟨g, 0, none⟩) k k) _ (fun _ _ => Below.refl _ _) rfl rfl (by kernel_rfl) (by kernel_rfl) rfl ?_
        refine chain_move (.int .i64 y) _ (fun _ _ => Below.refl _ _) rfl rfl (by kernel_rfl) (by kernel_rfl) rfl ?_
        refine chain_idx (.pointer (some ⟨g, 0 + y, none⟩)) _ _ _ (.slice (some ⟨g, 0, none⟩) k k) (.int .i64 y) (fun _ _ => Below.refl _ _) rfl rfl (by kernel_rfl) (by kernel_rfl) rfl rfl (fun w1 => idx_i64 _ _ _ _ _ HLT.out.2.2.2 w1) ?_
        refine chain_load (.int .i64 py) _ _ _ (fun _ _ => Below.refl _ _) rfl rfl (by kernel_rfl) (by kernel_rfl) rfl (fun w1 hC => load_i64 (by rw [Nat.zero_add]; exact (HX.out w1 hC).1.cell HPy.out)) ?_
        refine chain_bin (.bool true) _ _ _ _ _ (.int .i64 pb) (.int .i64 py) (fun _ _ => Below.refl _ _) rfl rfl (by kernel_rfl) (by kernel_rfl) rfl rfl (fun w1 => eql_i64 _ _ _ _ _ _ HQ2.out w1) ?_
        refine chain_pick (.bool true) _ _ _ true (fun _ _ => Below.refl _ _) rfl rfl (by kernel_rfl) (by kernel_rfl) rfl rfl ?_
        refine chain_move (.bool true) _ (fun _ _ => Below.refl _ _) rfl rfl (by kernel_rfl) (by kernel_rfl) rfl ?_
        refine chain_skip rfl (by kernel_rfl) ?_
        refine chain_skip rfl (by kernel_rfl) ?_
        refine chain_skip rfl (by kernel_rfl) ?_
        refine chain_skip rfl (by kernel_rfl) ?_
        refine chain_skip rfl (by kernel_rfl) ?_
        refine chain_skip rfl (by kernel_rfl) ?_
        refine chain_skip rfl (by kernel_rfl) ?_
        refine chain_skip rfl (by kernel_rfl) ?_
        refine chain_skip rfl (by kernel_rfl) ?_
        refine chain_skip rfl (by kernel_rfl) ?_
        refine chain_skip rfl (by kernel_rfl) ?_
        refine chain_skipU rfl (by kernel_rfl) ?_
        refine chain_skipU rfl (by kernel_rfl) ?_
        refine chain_skipU rfl (by kernel_rfl) ?_
        refine chain_skipU rfl (by kernel_rfl) ?_
        refine chain_skipU rfl (by kernel_rfl) ?_
        refine chain_skipU rfl (by kernel_rfl) ?_
        refine chain_skipU rfl (by kernel_rfl) ?_
        refine chain_skipU rfl (by kernel_rfl) ?_
        refine chain_skipU rfl (by kernel_rfl) ?_
        refine chain_skipU rfl (by kernel_rfl) ?_
        refine chain_skip rfl (by kernel_rfl) ?_
        refine chain_pick (.bool true) _ _ _ true (fun _ _ => Below.refl _ _) rfl rfl (by kernel_rfl) (by kernel_rfl) rfl rfl ?_
        refine chain_pick (.bool true) _ _ _ true (fun _ _ => Below.refl _ _) rfl rfl (by kernel_rfl) (by kernel_rfl) rfl rfl ?_
        refine chain_end (by rfl) ?_
        intro xs w6 hCw6 hrew6
        simp only [layE, List.foldr_cons, List.foldr_nil, List.set_cons_succ, List.set_cons_zero]
        have H6 := Lib.hid (HX.out w6 hCw6)
        clear hCw6 hrew6 HX
        go_wp2_with fail
        go_ret
        exact ⟨by rw [HR.out, HYES.out (by trivial)]; rfl, by have := H6.out.2.2.2; rw [HB4.out] at this; exact this⟩
      · rw [hr] at HNO HYES
        have HKD := Lib.hid (dec_of q0)
        have HQ1 := Lib.hid (dec_of q1)
        have HQ2 := Lib.hid (dec_of q2)
        have HQ3 := Lib.hid (dec_of q3)
        have HQ4 := Lib.hid (dec_of q4)
        clear hr q0 q1 q2 q3 q4
        refine wp_region_old 51 74 (by kernel_rfl) (by kernel_rfl) (by rfl) ?_
        simp only [List.take_succ_cons, List.take_zero, List.drop_succ_cons, List.drop_zero, List.drop_nil]
        refine chain_val (.pointer (some ⟨b7, 2, none⟩)) (fun _ _ => Below.refl _ _) rfl (by intro cs b h; cases h) (by kernel_rfl) (by kernel_rfl) (fun w1 _ => by simp [execOp, evE, lk_cons, lk_nil, slotL, go_sem]) ?_
        refine chain_load (.int .i64 yk) _ _ _ (fun _ _ => Below.refl _ _) rfl rfl (by kernel_rfl) (by kernel_rfl) rfl (fun w1 hC => load_i64 (HX.out w1 hC).2.1.c2) ?_
        refine chain_bin (.bool true) _ _ _ _ _ (.int .i64 yk) (.int .i64 1) (fun _ _ => Below.refl _ _) rfl rfl (by kernel_rfl) (by kernel_rfl) rfl rfl (fun w1 => eql_i64 _ _ _ _ _ _ HKD.out w1) ?_
        refine chain_move (.bool true) _ (fun _ _ => Below.refl _ _) rfl rfl (by kernel_rfl) (by kernel_rfl) rfl ?_
        refine chain_move (.slice (some ⟨g, 0, none⟩) k k) _ (fun _ _ => Below.refl _ _) rfl rfl (by kernel_rfl) (by kernel_rfl) rfl ?_
        refine chain_val (.pointer (some ⟨b7, 0, none⟩)) (fun _ _ => Below.refl _ _) rfl (by intro cs b h; cases h) (by kernel_rfl) (by kernel_rfl) (fun w1 _ => by simp [execOp, evE, lk_cons, lk_nil, slotL, go_sem]) ?_
        refine chain_load (.int .i64 xa) _ _ _ (fun _ _ => Below.refl _ _) rfl rfl (by kernel_rfl) (by kernel_rfl) rfl (fun w1 hC => load_i64 (HX.out w1 hC).2.1.c0) ?_
        refine chain_idx (.pointer (some ⟨g, 0 + xa, none⟩)) _ _ _ (.slice (some ⟨g, 0, none⟩) k k) (.int .i64 xa) (fun _ _ => Below.refl _ _) rfl rfl (by kernel_rfl) (by kernel_rfl) rfl rfl (fun w1 => idx_i64 _ _ _ _ _ HLT.out.1 w1) ?_
        refine chain_load (.int .i64 pa) _ _ _ (fun _ _ => Below.refl _ _) rfl rfl (by kernel_rfl) (by kernel_rfl) rfl (fun w1 hC => load_i64 (by rw [Nat.zero_add]; exact (HX.out w1 hC).1.cell HPa.out)) ?_
        refine chain_move (.slice (some ⟨g, 0, none⟩) k k) _ (fun _ _ => Below.refl _ _) rfl rfl (by kernel_rfl) (by kernel_rfl) rfl ?_
        refine chain_move (.int .i64 x) _ (fun _ _ => Below.refl _ _) rfl rfl (by kernel_rfl) (by kernel_rfl) rfl ?_
        refine chain_idx (.pointer (some ⟨g, 0 + x, none⟩)) _ _ _ (.slice (some ⟨g, 0, none⟩) k k) (.int .i64 x) (fun _ _ => Below.refl _ _) rfl rfl (by kernel_rfl) (by kernel_rfl) rfl rfl (fun w1 => idx_i64 _ _ _ _ _ HLT.out.2.2.1 w1) ?_
        refine chain_load (.int .i64 px) _ _ _ (fun _ _ => Below.refl _ _) rfl rfl (by kernel_rfl) (by kernel_rfl) rfl (fun w1 hC => load_i64 (by rw [Nat.zero_add]; exact (HX.out w1 hC).1.cell HPx.out)) ?_
        refine chain_bin (.bool true) _ _ _ _ _ (.int .i64 pa) (.int .i64 px) (fun _ _ => Below.refl _ _) rfl rfl (by kernel_rfl) (by kernel_rfl) rfl rfl (fun w1 => eql_i64 _ _ _ _ _ _ HQ1.out w1) ?_
        refine chain_move (.bool true) _ (fun _ _ => Below.refl _ _) rfl rfl (by kernel_rfl) (by kernel_rfl) rfl ?_
        refine chain_move (.slice (some ⟨g, 0, none⟩) k k) _ (fun _ _ => Below.refl _ _) rfl rfl (by kernel_rfl) (by kernel_rfl) rfl ?_
        refine chain_val (.pointer (some ⟨b7, 1, none⟩)) (fun _ _ => Below.refl _ _) rfl (by intro cs b h; cases h) (by kernel_rfl) (by kernel_rfl) (fun w1 _ => by simp [execOp, evE, lk_cons, lk_nil, slotL, go_sem]) ?_
        refine chain_load (.int .i64 xb) _ _ _ (fun _ _ => Below.refl _ _) rfl rfl (by kernel_rfl) (by kernel_rfl) rfl (fun w1 hC => load_i64 (HX.out w1 hC).2.1.c1) ?_
        refine chain_idx (.pointer (some ⟨g, 0 + xb, none⟩)) _ _ _ (.slice (some ⟨g, 0, none⟩) k k) (.int .i64 xb) (fun _ _ => Below.refl _ _) rfl rfl (by kernel_rfl) (by kernel_rfl) rfl rfl (fun w1 => idx_i64 _ _ _ _ _ HLT.out.2.1 w1) ?_
        refine chain_load (.int .i64 pb) _ _ _ (fun _ _ => Below.refl _ _) rfl rfl (by kernel_rfl) (by kernel_rfl) rfl (fun w1 hC => load_i64 (by rw [Nat.zero_add]; exact (HX.out w1 hC).1.cell HPb.out)) ?_
        refine chain_move (.slice (some ⟨g, 0, none⟩) k k) _ (fun _ _ => Below.refl _ _) rfl rfl (by kernel_rfl) (by kernel_rfl) rfl ?_
        refine chain_move (.int .i64 y) _ (fun _ _ => Below.refl _ _) rfl rfl (by kernel_rfl) (by kernel_rfl) rfl ?_
        refine chain_idx (.pointer (some ⟨g, 0 + y, none⟩)) _ _ _ (.slice (some ⟨g, 0, none⟩) k k) (.int .i64 y) (fun _ _ => Below.refl _ _) rfl rfl (by kernel_rfl) (by kernel_rfl) rfl rfl (fun w1 => idx_i64 _ _ _ _ _ HLT.out.2.2.2 w1) ?_
        refine chain_load (.int .i64 py) _ _ _ (fun _ _ => Below.refl _ _) rfl rfl (by kernel_rfl) (by kernel_rfl) rfl (fun w1 hC => load_i64 (by rw [Nat.zero_add]; exact (HX.out w1 hC).1.cell HPy.out)) ?_
        refine chain_bin (.bool false) _ _ _ _ _ (.int .i64 pb) (.int .i64 py) (fun _ _ => Below.refl _ _) rfl rfl (by kernel_rfl) (by kernel_rfl) rfl rfl (fun w1 => eql_i64 _ _ _ _ _ _ HQ2.out w1) ?_
        refine chain_pick (.bool false) _ _ _ true (fun _ _ => Below.refl _ _) rfl rfl (by kernel_rfl) (by kernel_rfl) rfl rfl ?_
        refine chain_move (.bool false) _ (fun _ _ => Below.refl _ _) rfl rfl (by kernel_rfl) (by kernel_rfl) rfl ?_
        refine chain_move (.slice (some ⟨g, 0, none⟩) k k) _ (fun _ _ => Below.refl _ _) rfl rfl (by kernel_rfl) (by kernel_rfl) rfl ?_
        refine chain_val (.pointer (some ⟨b7, 0, none⟩)) (fun _ _ => Below.refl _ _) rfl (by intro cs b h; cases h) (by kernel_rfl) (by kernel_rfl) (fun w1 _ => by simp [execOp, evE, lk_cons, lk_nil, slotL, go_sem]) ?_
        refine chain_load (.int .i64 xa) _ _ _ (fun _ _ => Below.refl _ _) rfl rfl (by kernel_rfl) (by kernel_rfl) rfl (fun w1 hC => load_i64 (HX.out w1 hC).2.1.c0) ?_
        refine chain_idx (.pointer (some ⟨g, 0 + xa, none⟩)) _ _ _ (.slice (some ⟨g, 0, none⟩) k k) (.int .i64 xa) (fun _ _ => Below.refl _ _) rfl rfl (by kernel_rfl) (by kernel_rfl) rfl rfl (fun w1 => idx_i64 _ _ _ _ _ HLT.out.1 w1) ?_
        refine chain_load (.int .i64 pa) _ _ _ (fun _ _ => Below.refl _ _) rfl rfl (by kernel_rfl) (by kernel_rfl) rfl (fun w1 hC => load_i64 (by rw [Nat.zero_add]; exact (HX.out w1 hC).1.cell HPa.out)) ?_
        refine chain_move (.slice (some ⟨g, 0, none⟩) k k) _ (fun _ _ => Below.refl _ _) rfl rfl (by kernel_rfl) (by kernel_rfl) rfl ?_
        refine chain_move (.int .i64 y) _ (fun _ _ => Below.refl _ _) rfl rfl (by kernel_rfl) (by kernel_rfl) rfl ?_
        refine chain_idx (.pointer (some ⟨g, 0 + y, none⟩)) _ _ _ (.slice (some ⟨g, 0, none⟩) k k) (.int .i64 y) (fun _ _ => Below.refl _ _) rfl rfl (by kernel_rfl) (by kernel_rfl) rfl rfl (fun w1 => idx_i64 _ _ _ _ _ HLT.out.2.2.2 w1) ?_
        refine chain_load (.int .i64 py) _ _ _ (fun _ _ => Below.refl _ _) rfl rfl (by kernel_rfl) (by kernel_rfl) rfl (fun w1 hC => load_i64 (by rw [Nat.zero_add]; exact (HX.out w1 hC).1.cell HPy.out)) ?_
        refine chain_bin (.bool true) _ _ _ _ _ (.int .i64 pa) (.int .i64 py) (fun _ _ => Below.refl _ _) rfl rfl (by kernel_rfl) (by kernel_rfl) rfl rfl (fun w1 => eql_i64 _ _ _ _ _ _ HQ3.out w1) ?_
        refine chain_move (.bool true) _ (fun _ _ => Below.refl _ _) rfl rfl (by kernel_rfl) (by kernel_rfl) rfl ?_
        refine chain_move (.slice (some ⟨g, 0, none⟩) k k) _ (fun _ _ => Below.refl _ _) rfl rfl (by kernel_rfl) (by kernel_rfl) rfl ?_
        refine chain_val (.pointer (some ⟨b7, 1, none⟩)) (fun _ _ => Below.refl _ _) rfl (by intro cs b h; cases h) (by kernel_rfl) (by kernel_rfl) (fun w1 _ => by simp [execOp, evE, lk_cons, lk_nil, slotL, go_sem]) ?_
        refine chain_load (.int .i64 xb) _ _ _ (fun _ _ => Below.refl _ _) rfl rfl (by kernel_rfl) (by kernel_rfl) rfl (fun w1 hC => load_i64 (HX.out w1 hC).2.1.c1) ?_
        refine chain_idx (.pointer (some ⟨g, 0 + xb, none⟩)) _ _ _ (.slice (some ⟨g, 0, none⟩) k k) (.int .i64 xb) (fun _ _ => Below.refl _ _) rfl rfl (by kernel_rfl) (by kernel_rfl) rfl rfl (fun w1 => idx_i64 _ _ _ _ _ HLT.out.2.1 w1) ?_
        refine chain_load (.int .i64 pb) _ _ _ (fun _ _ => Below.refl _ _) rfl rfl (by kernel_rfl) (by kernel_rfl) rfl (fun w1 hC => load_i64 (by rw [Nat.zero_add]; exact (HX.out w1 hC).1.cell HPb.out)) ?_
        refine chain_move (.slice (some ⟨g, 0, none⟩) k k) _ (fun _ _ => Below.refl _ _) rfl rfl (by kernel_rfl) (by kernel_rfl) rfl ?_
        refine chain_move (.int .i64 x) _ (fun _ _ => Below.refl _ _) rfl rfl (by kernel_rfl) (by kernel_rfl) rfl ?_
        refine chain_idx (.pointer (some ⟨g, 0 + x, none⟩)) _ _ _ (.slice (some ⟨g, 0, none⟩) k k) (.int .i64 x) (fun _ _ => Below.refl _ _) rfl rfl (by kernel_rfl) (by kernel_rfl) rfl rfl (fun w1 => idx_i64 _ _ _ _ _ HLT.out.2.2.1 w1) ?_
        refine chain_load (.int .i64 px) _ _ _ (fun _ _ => Below.refl _ _) rfl rfl (by kernel_rfl) (by kernel_rfl) rfl (fun w1 hC => load_i64 (by rw [Nat.zero_add]; exact (HX.out w1 hC).1.cell HPx.out)) ?_
        refine chain_bin (.bool true) _ _ _ _ _ (.int .i64 pb) (.int .i64 px) (fun _ _ => Below.refl _ _) rfl rfl (by kernel_rfl) (by kernel_rfl) rfl rfl (fun w1 => eql_i64 _ _ _ _ _ _ HQ4.out w1) ?_
        refine chain_pick (.bool true) _ _ _ true (fun _ _ => Below.refl _ _) rfl rfl (by kernel_rfl) (by kernel_rfl) rfl rfl ?_
        refine chain_pick (.bool true) _ _ _ false (fun _ _ => Below.refl _ _) rfl rfl (by kernel_rfl) (by kernel_rfl) rfl rfl ?_
        refine chain_pick (.bool true) _ _ _ true (fun _ _ => Below.refl _ _) rfl rfl (by kernel_rfl) (by kernel_rfl) rfl rfl ?_
        refine chain_end (by rfl) ?_
        intro xs w6 hCw6 hrew6
        simp only [layE, List.foldr_cons, List.foldr_nil, List.set_cons_succ, List.set_cons_zero]
        have H6 := Lib.hid (HX.out w6 hCw6)
        clear hCw6 hrew6 HX
        go_wp2_with fail
        go_ret
        exact ⟨by rw [HR.out, HYES.out (by trivial)]; rfl, by have := H6.out.2.2.2; rw [HB4.out] at this; exact this⟩
      · rw [hr] at HNO HYES
        have HKD := Lib.hid (dec_of q0)
        have HQ1 := Lib.hid (dec_of q1)
        have HQ2 := Lib.hid (dec_of q2)
        have HQ3 := Lib.hid (dec_of q3)
        have HQ4 := Lib.hid (dec_of q4)
        clear hr q0 q1 q2 q3 q4
        refine wp_region_old 51 74 (by kernel_rfl) (by kernel_rfl) (by rfl) ?_
        simp only [List.take_succ_cons, List.take_zero, List.drop_succ_cons, List.drop_zero, List.drop_nil]
        refine chain_val (.pointer (some ⟨b7, 2, none⟩)) (fun _ _ => Below.refl _ _) rfl (by intro cs b h; cases h) (by kernel_rfl) (by kernel_rfl) (fun w1 _ => by simp [execOp, evE, lk_cons, lk_nil, slotL, go_sem]) ?_
        refine chain_load (.int .i64 yk) _ _ _ (fun _ _ => Below.refl _ _) rfl rfl (by kernel_rfl) (by kernel_rfl) rfl (fun w1 hC => load_i64 (HX.out w1 hC).2.1.c2) ?_
        refine chain_bin (.bool true) _ _ _ _ _ (.int .i64 yk) (.int .i64 1) (fun _ _ => Below.refl _ _) rfl rfl (by kernel_rfl) (by kernel_rfl) rfl rfl (fun w1 => eql_i64 _ _ _ _ _ _ HKD.out w1) ?_
        refine chain_move (.bool true) _ (fun _ _ => Below.refl _ _) rfl rfl (by kernel_rfl) (by kernel_rfl) rfl ?_
        refine chain_move (.slice (some ⟨g, 0, none⟩) k k) _ (fun _ _ => Below.refl _ _) rfl rfl (by kernel_rfl) (by kernel_rfl) rfl ?_
        refine chain_val (.pointer (some ⟨b7, 0, none⟩)) (fun _ _ => Below.refl _ _) rfl (by intro cs b h; cases h) (by kernel_rfl) (by kernel_rfl) (fun w1 _ => by simp [execOp, evE, lk_cons, lk_nil, slotL, go_sem]) ?_
        refine chain_load (.int .i64 xa) _ _ _ (fun _ _ => Below.refl _ _) rfl rfl (by kernel_rfl) (by kernel_rfl) rfl (fun w1 hC => load_i64 (HX.out w1 hC).2.1.c0) ?_
        refine chain_idx (.pointer (some ⟨g, 0 + xa, none⟩)) _ _ _ (.slice (some ⟨g, 0, none⟩) k k) (.int .i64 xa) (fun _ _ => Below.refl _ _) rfl rfl (by kernel_rfl) (by kernel_rfl) rfl rfl (fun w1 => idx_i64 _ _ _ _ _ HLT.out.1 w1) ?_
        refine chain_load (.int .i64 pa) _ _ _ (fun _ _ => Below.refl _ _) rfl rfl (by kernel_rfl) (by kernel_rfl) rfl (fun w1 hC => load_i64 (by rw [Nat.zero_add]; exact (HX.out w1 hC).1.cell HPa.out)) ?_
        refine chain_move (.slice (some ⟨g, 0, none⟩) k k) _ (fun _ _ => Below.refl _ _) rfl rfl (by kernel_rfl) (by kernel_rfl) rfl ?_
        refine chain_move (.int .i64 x) _ (fun _ _ => Below.refl _ _) rfl rfl (by kernel_rfl) (by kernel_rfl) rfl ?_
        refine chain_idx (.pointer (some ⟨g, 0 + x, none⟩)) _ _ _ (.slice (some ⟨g, 0, none⟩) k k) (.int .i64 x) (fun _ _ => Below.refl _ _) rfl rfl (by kernel_rfl) (by kernel_rfl) rfl rfl (fun w1 => idx_i64 _ _ _ _ _ HLT.out.2.2.1 w1) ?_
        refine chain_load (.int .i64 px) _ _ _ (fun _ _ => Below.refl _ _) rfl rfl (by kernel_rfl) (by kernel_rfl) rfl (fun w1 hC => load_i64 (by rw [Nat.zero_add]; exact (HX.out w1 hC).1.cell HPx.out)) ?_
        refine chain_bin (.bool true) _ _ _ _ _ (.int .i64 pa) (.int .i64 px) (fun _ _ => Below.refl _ _) rfl rfl (by kernel_rfl) (by kernel_rfl) rfl rfl (fun w1 => eql_i64 _ _ _ _ _ _ HQ1.out w1) ?_
        refine chain_move (.bool true) _ (fun _ _ => Below.refl _ _) rfl rfl (by kernel_rfl) (by kernel_rfl) rfl ?_
        refine chain_move (.slice (some ⟨g, 0, none⟩) k k) _ (fun _ _ => Below.refl _ _) rfl rfl (by kernel_rfl) (by kernel_rfl) rfl ?_
        refine chain_val (.pointer (some ⟨b7, 1, none⟩)) (fun _ _ => Below.refl _ _) rfl (by intro cs b h; cases h) (by kernel_rfl) (by kernel_rfl) (fun w1 _ => by simp [execOp, evE, lk_cons, lk_nil, slotL, go_sem]) ?_
        refine chain_load (.int .i64 xb) _ _ _ (fun _ _ => Below.refl _ _) rfl rfl (by kernel_rfl) (by kernel_rfl) rfl (fun w1 hC => load_i64 (HX.out w1 hC).2.1.c1) ?_
        refine chain_idx (.pointer (some ⟨g, 0 + xb, none⟩)) _ _ _ (.slice (some ⟨g, 0, none⟩) k k) (.int .i64 xb) (fun _ _ => Below.refl _ _) rfl rfl (by kernel_rfl) (by kernel_rfl) rfl rfl (fun w1 => idx_i64 _ _ _ _ _ HLT.out.2.1 w1) ?_
        refine chain_load (.int .i64 pb) _ _ _ (fun _ _ => Below.refl _ _) rfl rfl (by kernel_rfl) (by kernel_rfl) rfl (fun w1 hC => load_i64 (by rw [Nat.zero_add]; exact (HX.out w1 hC).1.cell HPb.out)) ?_
        refine chain_move (.slice (some ⟨g, 0, none⟩) k k) _ (fun _ _ => Below.refl _ _) rfl rfl (by kernel_rfl) (by kernel_rfl) rfl ?_
        refine chain_move (.int .i64 y) _ (fun _ _ => Below.refl _ _) rfl rfl (by kernel_rfl) (by kernel_rfl) rfl ?_
        refine chain_idx (.pointer (some ⟨g, 0 + y, none⟩)) _ _ _ (.slice (some ⟨g, 0, none⟩) k k) (.int .i64 y) (fun _ _ => Below.refl _ _) rfl rfl (by kernel_rfl) (by kernel_rfl) rfl rfl (fun w1 => idx_i64 _ _ _ _ _ HLT.out.2.2.2 w1) ?_
        refine chain_load (.int .i64 py) _ _ _ (fun _ _ => Below.refl _ _) rfl rfl (by kernel_rfl) (by kernel_rfl) rfl (fun w1 hC => load_i64 (by rw [Nat.zero_add]; exact (HX.out w1 hC).1.cell HPy.out)) ?_
        refine chain_bin (.bool false) _ _ _ _ _ (.int .i64 pb) (.int .i64 py) (fun _ _ => Below.refl _ _) rfl rfl (by kernel_rfl) (by kernel_rfl) rfl rfl (fun w1 => eql_i64 _ _ _ _ _ _ HQ2.out w1) ?_
        refine chain_pick (.bool false) _ _ _ true (fun _ _ => Below.refl _ _) rfl rfl (by kernel_rfl) (by kernel_rfl) rfl rfl ?_
        refine chain_move (.bool false) _ (fun _ _ => Below.refl _ _) rfl rfl (by kernel_rfl) (by kernel_rfl) rfl ?_
        refine chain_move (.slice (some ⟨g, 0, none⟩) k k) _ (fun _ _ => Below.refl _ _) rfl rfl (by kernel_rfl) (by kernel_rfl) rfl ?_
        refine chain_val (.pointer (some ⟨b7, 0, none⟩)) (fun _ _ => Below.refl _ _) rfl (by intro cs b h; cases h) (by kernel_rfl) (by kernel_rfl) (fun w1 _ => by simp [execOp, evE, lk_cons, lk_nil, slotL, go_sem]) ?_
        refine chain_load (.int .i64 xa) _ _ _ (fun _ _ => Below.refl _ _) rfl rfl (by kernel_rfl) (by kernel_rfl) rfl (fun w1 hC => load_i64 (HX.out w1 hC).2.1.c0) ?_
        refine chain_idx (.pointer (some ⟨g, 0 + xa, none⟩)) _ _ _ (.slice (some ⟨g, 0, none⟩) k k) (.int .i64 xa) (fun _ _ => Below.refl _ _) rfl rfl (by kernel_rfl) (by kernel_rfl) rfl rfl (fun w1 => idx_i64 _ _ _ _ _ HLT.out.1 w1) ?_
        refine chain_load (.int .i64 pa) _ _ _ (fun _ _ => Below.refl _ _) rfl rfl (by kernel_rfl) (by kernel_rfl) rfl (fun w1 hC => load_i64 (by rw [Nat.zero_add]; exact (HX.out w1 hC).1.cell HPa.out)) ?_
        refine chain_move (.slice (some ⟨g, 0, none⟩) k k) _ (fun _ _ => Below.refl _ _) rfl rfl (by kernel_rfl) (by kernel_rfl) rfl ?_
        refine chain_move (.int .i64 y) _ (fun _ _ => Below.refl _ _) rfl rfl (by kernel_rfl) (by kernel_rfl) rfl ?_
        refine chain_idx (.pointer (some ⟨g, 0 + y, none⟩)) _ _ _ (.slice (some ⟨g, 0, none⟩) k k) (.int .i64 y) (fun _ _ => Below.refl _ _) rfl rfl (by kernel_rfl) (by kernel_rfl) rfl rfl (fun w1 => idx_i64 _ _ _ _ _ HLT.out.2.2.2 w1) ?_
        refine chain_load (.int .i64 py) _ _ _ (fun _ _ => Below.refl _ _) rfl rfl (by kernel_rfl) (by kernel_rfl) rfl (fun w1 hC => load_i64 (by rw [Nat.zero_add]; exact (HX.out w1 hC).1.cell HPy.out)) ?_
        refine chain_bin (.bool true) _ _ _ _ _ (.int .i64 pa) (.int .i64 py) (fun _ _ => Below.refl _ _) rfl rfl (by kernel_rfl) (by kernel_rfl) rfl rfl (fun w1 => eql_i64 _ _ _ _ _ _ HQ3.out w1) ?_
        refine chain_move (.bool true) _ (fun _ _ => Below.refl _ _) rfl rfl (by kernel_rfl) (by kernel_rfl) rfl ?_
        refine chain_move (.slice (some ⟨g, 0, none⟩) k k) _ (fun _ _ => Below.refl _ _) rfl rfl (by kernel_rfl) (by kernel_rfl) rfl ?_
        refine chain_val (.pointer (some ⟨b7, 1, none⟩)) (fun _ _ => Below.refl _ _) rfl (by intro cs b h; cases h) (by kernel_rfl) (by kernel_rfl) (fun w1 _ => by simp [execOp, evE, lk_cons, lk_nil, slotL, go_sem]) ?_
        refine chain_load (.int .i64 xb) _ _ _ (fun _ _ => Below.refl _ _) rfl rfl (by kernel_rfl) (by kernel_rfl) rfl (fun w1 hC => load_i64 (HX.out w1 hC).2.1.c1) ?_
        refine chain_idx (.pointer (some ⟨g, 0 + xb, none⟩)) _ _ _ (.slice (some ⟨g, 0, none⟩) k k) (.int .i64 xb) (fun _ _ => Below.refl _ _) rfl rfl (by kernel_rfl) (by kernel_rfl) rfl rfl (fun w1 => idx_i64 _ _ _ _ _ HLT.out.2.1 w1) ?_
        refine chain_load (.int .i64 pb) _ _ _ (fun _ _ => Below.refl _ _) rfl rfl (by kernel_rfl) (by kernel_rfl) rfl (fun w1 hC => load_i64 (by rw [Nat.zero_add]; exact (HX.out w1 hC).1.cell HPb.out)) ?_
        refine chain_move (.slice (some ⟨g, 0, none⟩) k k) _ (fun _ _ => Below.refl _ _) rfl rfl (by kernel_rfl) (by kernel_rfl) rfl ?_
        refine chain_move (.int .i64 x) _ (fun _ _ => Below.refl _ _) rfl rfl (by kernel_rfl) (by kernel_rfl) rfl ?_
        refine chain_idx (.pointer (some ⟨g, 0 + x, none⟩)) _ _ _ (.slice (some ⟨g, 0, none⟩) k k) (.int .i64 x) (fun _ _ => Below.refl _ _) rfl rfl (by kernel_rfl) (by kernel_rfl) rfl rfl (fun w1 => idx_i64 _ _ _ _ _ HLT.out.2.2.1 w1) ?_
        refine chain_load (.int .i64 px) _ _ _ (fun _ _ => Below.refl _ _) rfl rfl (by kernel_rfl) (by kernel_rfl) rfl (fun w1 hC => load_i64 (by rw [Nat.zero_add]; exact (HX.out w1 hC).1.cell HPx.out)) ?_
        refine chain_bin (.bool false) _ _ _ _ _ (.int .i64 pb) (.int .i64 px) (fun _ _ => Below.refl _ _) rfl rfl (by kernel_rfl) (by kernel_rfl) rfl rfl (fun w1 => eql_i64 _ _ _ _ _ _ HQ4.out w1) ?_
        refine chain_pick (.bool false) _ _ _ true (fun _ _ => Below.refl _ _) rfl rfl (by kernel_rfl) (by kernel_rfl) rfl rfl ?_
        refine chain_pick (.bool false) _ _ _ false (fun _ _ => Below.refl _ _) rfl rfl (by kernel_rfl) (by kernel_rfl) rfl rfl ?_
        refine chain_pick (.bool false) _ _ _ true (fun _ _ => Below.refl _ _) rfl rfl (by kernel_rfl) (by kernel_rfl) rfl rfl ?_
        refine chain_end (by rfl) ?_
        intro xs w6 hCw6 hrew6
        simp only [layE, List.foldr_cons, List.foldr_nil, List.set_cons_succ, List.set_cons_zero]
        have H6 := Lib.hid (HX.out w6 hCw6)
        clear hCw6 hrew6 HX
        go_wp2_with fail
        exact ⟨⟨j + 1, by omega, by simp, HNO.out (by trivial), H6.out.2.2.1, H6.out.2.2.2⟩, by simp [intOf]; omega⟩
      · rw [hr] at HNO HYES
        have HKD := Lib.hid (dec_of q0)
        have HQ1 := Lib.hid (dec_of q1)
        have HQ2 := Lib.hid (dec_of q2)
        have HQ3 := Lib.hid (dec_of q3)
        clear hr q0 q1 q2 q3
        refine wp_region_old 51 74 (by kernel_rfl) (by kernel_rfl) (by rfl) ?_
        simp only [List.take_succ_cons, List.take_zero, List.drop_succ_cons, List.drop_zero, List.drop_nil]
        refine chain_val (.pointer (some ⟨b7, 2, none⟩)) (fun _ _ => Below.refl _ _) rfl (by intro cs b h; cases h) (by kernel_rfl) (by kernel_rfl) (fun w1 _ => by simp [execOp, evE, lk_cons, lk_nil, slotL, go_sem]) ?_
        refine chain_load (.int .i64 yk) _ _ _ (fun _ _ => Below.refl _ _) rfl rfl (by kernel_rfl) (by kernel_rfl) rfl (fun w1 hC => load_i64 (HX.out w1 hC).2.1.c2) ?_
        refine chain_bin (.bool true) _ _ _ _ _ (.int .i64 yk) (.int .i64 1) (fun _ _ => Below.refl _ _) rfl rfl (by kernel_rfl) (by kernel_rfl) rfl rfl (fun w1 => eql_i64 _ _ _ _ _ _ HKD.out w1) ?_
        refine chain_move (.bool true) _ (fun _ _ => Below.refl _ _) rfl rfl (by kernel_rfl) (by kernel_rfl) rfl ?_
        refine chain_move (.slice (some ⟨g, 0, none⟩) k k) _ (fun _ _ => Below.refl _ _) rfl rfl (by kernel_rfl) (by kernel_rfl) rfl ?_
        refine chain_val (.pointer (some ⟨b7, 0, none⟩)) (fun _ _ => Below.refl _ _) rfl (by intro cs b h; cases h) (by kernel_rfl) (by kernel_rfl) (fun w1 _ => by simp [execOp, evE, lk_cons, lk_nil, slotL, go_sem]) ?_
        refine chain_load (.int .i64 xa) _ _ _ (fun _ _ => Below.refl _ _) rfl rfl (by kernel_rfl) (by kernel_rfl) rfl (fun w1 hC => load_i64 (HX.out w1 hC).2.1.c0) ?_
        refine chain_idx (.pointer (some ⟨g, 0 + xa, none⟩)) _ _ _ (.slice (some ⟨g, 0, none⟩) k k) (.int .i64 xa) (fun _ _ => Below.refl _ _) rfl rfl (by kernel_rfl) (by kernel_rfl) rfl rfl (fun w1 => idx_i64 _ _ _ _ _ HLT.out.1 w1) ?_
        refine chain_load (.int .i64 pa) _ _ _ (fun _ _ => Below.refl _ _) rfl rfl (by kernel_rfl) (by kernel_rfl) rfl (fun w1 hC => load_i64 (by rw [Nat.zero_add]; exact (HX.out w1 hC).1.cell HPa.out)) ?_
        refine chain_move (.slice (some ⟨g, 0, none⟩) k k) _ (fun _ _ => Below.refl _ _) rfl rfl (by kernel_rfl) (by kernel_rfl) rfl ?_
        refine chain_move (.int .i64 x) _ (fun _ _ => Below.refl _ _) rfl rfl (by kernel_rfl) (by kernel_rfl) rfl ?_
        refine chain_idx (.pointer (some ⟨g, 0 + x, none⟩)) _ _ _ (.slice (some ⟨g, 0, none⟩) k k) (.int .i64 x) (fun _ _ => Below.refl _ _) rfl rfl (by kernel_rfl) (by kernel_rfl) rfl rfl (fun w1 => idx_i64 _ _ _ _ _ HLT.out.2.2.1 w1) ?_
        refine chain_load (.int .i64 px) _ _ _ (fun _ _ => Below.refl _ _) rfl rfl (by kernel_rfl) (by kernel_rfl) rfl (fun w1 hC => load_i64 (by rw [Nat.zero_add]; exact (HX.out w1 hC).1.cell HPx.out)) ?_
        refine chain_bin (.bool true) _ _ _ _ _ (.int .i64 pa) (.int .i64 px) (fun _ _ => Below.refl _ _) rfl rfl (by kernel_rfl) (by kernel_rfl) rfl rfl (fun w1 => eql_i64 _ _ _ _ _ _ HQ1.out w1) ?_
        refine chain_move (.bool true) _ (fun _ _ => Below.refl _ _) rfl rfl (by kernel_rfl) (by kernel_rfl) rfl ?_
        refine chain_move (.slice (some ⟨g, 0, none⟩) k k) _ (fun _ _ => Below.refl _ _) rfl rfl (by kernel_rfl) (by kernel_rfl) rfl ?_
        refine chain_val (.pointer (some ⟨b7, 1, none⟩)) (fun _ _ => Below.refl _ _) rfl (by intro cs b h; cases h) (by kernel_rfl) (by kernel_rfl) (fun w1 _ => by simp [execOp, evE, lk_cons, lk_nil, slotL, go_sem]) ?_
        refine chain_load (.int .i64 xb) _ _ _ (fun _ _ => Below.refl _ _) rfl rfl (by kernel_rfl) (by kernel_rfl) rfl (fun w1 hC => load_i64 (HX.out w1 hC).2.1.c1) ?_
        refine chain_idx (.pointer (some ⟨g, 0 + xb, none⟩)) _ _ _ (.slice (some ⟨g, 0, none⟩) k k) (.int .i64 xb) (fun _ _ => Below.refl _ _) rfl rfl (by kernel_rfl) (by kernel_rfl) rfl rfl (fun w1 => idx_i64 _ _ _ _ _ HLT.out.2.1 w1) ?_
        refine chain_load (.int .i64 pb) _ _ _ (fun _ _ => Below.refl _ _) rfl rfl (by kernel_rfl) (by kernel_rfl) rfl (fun w1 hC => load_i64 (by rw [Nat.zero_add]; exact (HX.out w1 hC).1.cell HPb.out)) ?_
        refine chain_move (.slice (some ⟨g, 0, none⟩) k k) _ (fun _ _ => Below.refl _ _) rfl rfl (by kernel_rfl) (by kernel_rfl) rfl ?_
        refine chain_move (.int .i64 y) _ (fun _ _ => Below.refl _ _) rfl rfl (by kernel_rfl) (by kernel_rfl) rfl ?_
        refine chain_idx (.pointer (some ⟨g, 0 + y, none⟩)) _ _ _ (.slice (some ⟨g, 0, none⟩) k k) (.int .i64 y) (fun _ _ => Below.refl _ _) rfl rfl (by kernel_rfl) (by kernel_rfl) rfl rfl (fun w1 => idx_i64 _ _ _ _ _ HLT.out.2.2.2 w1) ?_
        refine chain_load (.int .i64 py) _ _ _ (fun _ _ => Below.refl _ _) rfl rfl (by kernel_rfl) (by kernel_rfl) rfl (fun w1 hC => load_i64 (by rw [Nat.zero_add]; exact (HX.out w1 hC).1.cell HPy.out)) ?_
        refine chain_bin (.bool false) _ _ _ _ _ (.int .i64 pb) (.int .i64 py) (fun _ _ => Below.refl _ _) rfl rfl (by kernel_rfl) (by kernel_rfl) rfl rfl (fun w1 => eql_i64 _ _ _ _ _ _ HQ2.out w1) ?_
        refine chain_pick (.bool false) _ _ _ true (fun _ _ => Below.refl _ _) rfl rfl (by kernel_rfl) (by kernel_rfl) rfl rfl ?_
        refine chain_move (.bool false) _ (fun _ _ => Below.refl _ _) rfl rfl (by kernel_rfl) (by kernel_rfl) rfl ?_
        refine chain_move (.slice (some ⟨g, 0, none⟩) k k) _ (fun _ _ => Below.refl _ _) rfl rfl (by kernel_rfl) (by kernel_rfl) rfl ?_
        refine chain_val (.pointer (some ⟨b7, 0, none⟩)) (fun _ _ => Below.refl _ _) rfl (by intro cs b h; cases h) (by kernel_rfl) (by kernel_rfl) (fun w1 _ => by simp [execOp, evE, lk_cons, lk_nil, slotL, go_sem]) ?_
        refine chain_load (.int .i64 xa) _ _ _ (fun _ _ => Below.refl _ _) rfl rfl (by kernel_rfl) (by kernel_rfl) rfl (fun w1 hC => load_i64 (HX.out w1 hC).2.1.c0) ?_
        refine chain_idx (.pointer (some ⟨g, 0 + xa, none⟩)) _ _ _ (.slice (some ⟨g, 0, none⟩) k k) (.int .i64 xa) (fun _ _ => Below.refl _ _) rfl rfl (by kernel_rfl) (by kernel_rfl) rfl rfl (fun w1 => idx_i64 _ _ _ _ _ HLT.out.1 w1) ?_
        refine chain_load (.int .i64 pa) _ _ _ (fun _ _ => Below.refl _ _) rfl rfl (by kernel_rfl) (by kernel_rfl) rfl (fun w1 hC => load_i64 (by rw [Nat.zero_add]; exact (HX.out w1 hC).1.cell HPa.out)) ?_
        refine chain_move (.slice (some ⟨g, 0, none⟩) k k) _ (fun _ _ => Below.refl _ _) rfl rfl (by kernel_rfl) (by kernel_rfl) rfl ?_
        refine chain_move (.int .i64 y) _ (fun _ _ => Below.refl _ _) rfl rfl (by kernel_rfl) (by kernel_rfl) rfl ?_
        refine chain_idx (.pointer (some ⟨g, 0 + y, none⟩)) _ _ _ (.slice (some ⟨g, 0, none⟩) k k) (.int .i64 y) (fun _ _ => Below.refl _ _) rfl rfl (by kernel_rfl) (by kernel_rfl) rfl rfl (fun w1 => idx_i64 _ _ _ _ _ HLT.out.2.2.2 w1) ?_
        refine chain_load (.int .i64 py) _ _ _ (fun _ _ => Below.refl _ _) rfl rfl (by kernel_rfl) (by kernel_rfl) rfl (fun w1 hC => load_i64 (by rw [Nat.zero_add]; exact (HX.out w1 hC).1.cell HPy.out)) ?_
        refine chain_bin (.bool false) _ _ _ _ _ (.int .i64 pa) (.int .i64 py) (fun _ _ => Below.refl _ _) rfl rfl (by kernel_rfl) (by kernel_rfl) rfl rfl (fun w1 => eql_i64 _ _ _ _ _ _ HQ3.out w1) ?_
        refine chain_move (.bool false) _ (fun _ _ => Below.refl _ _) rfl rfl (by kernel_rfl) (by kernel_rfl) rfl ?_
        refine chain_skip rfl (by kernel_rfl) ?_
        refine chain_skip rfl (by kernel_rfl) ?_
        refine chain_skip rfl (by kernel_rfl) ?_
        refine chain_skip rfl (by kernel_rfl) ?_
        refine chain_skip rfl (by kernel_rfl) ?_
        refine chain_skip rfl (by kernel_rfl) ?_
        refine chain_skip rfl (by kernel_rfl) ?_
        refine chain_skip rfl (by kernel_rfl) ?_
        refine chain_skip rfl (by kernel_rfl) ?_
        refine chain_skip rfl (by kernel_rfl) ?_
        refine chain_pick (.bool false) _ _ _ false (fun _ _ => Below.refl _ _) rfl rfl (by kernel_rfl) (by kernel_rfl) rfl rfl ?_
        refine chain_pick (.bool false) _ _ _ false (fun _ _ => Below.refl _ _) rfl rfl (by kernel_rfl) (by kernel_rfl) rfl rfl ?_
        refine chain_pick (.bool false) _ _ _ true (fun _ _ => Below.refl _ _) rfl rfl (by kernel_rfl) (by kernel_rfl) rfl rfl ?_
        refine chain_end (by rfl) ?_
        intro xs w6 hCw6 hrew6
        simp only [layE, List.foldr_cons, List.foldr_nil, List.set_cons_succ, List.set_cons_zero]
        have H6 := Lib.hid (HX.out w6 hCw6)
        clear hCw6 hrew6 HX
        go_wp2_with fail
        exact ⟨⟨j + 1, by omega, by simp, HNO.out (by trivial), H6.out.2.2.1, H6.out.2.2.2⟩, by simp [intOf]; omega⟩
      · rw [hr] at HNO HYES
        have HKD := Lib.hid (dec_of q0)
        have HQ1 := Lib.hid (dec_of q1)
        have HQ3 := Lib.hid (dec_of q3)
        have HQ4 := Lib.hid (dec_of q4)
        clear hr q0 q1 q3 q4
        refine wp_region_old 51 74 (by kernel_rfl) (by kernel_rfl) (by rfl) ?_
        simp only [List.take_succ_cons, List.take_zero, List.drop_succ_cons, List.drop_zero, List.drop_nil]
        refine chain_val (.pointer (some ⟨b7, 2, none⟩)) (fun _ _ => Below.refl _ _) rfl (by intro cs b h; cases h) (by kernel_rfl) (by kernel_rfl) (fun w1 _ => by simp [execOp, evE, lk_cons, lk_nil, slotL, go_sem]) ?_
        refine chain_load (.int .i64 yk) _ _ _ (fun _ _ => Below.refl _ _) rfl rfl (by kernel_rfl) (by kernel_rfl) rfl (fun w1 hC => load_i64 (HX.out w1 hC).2.1.c2) ?_
        refine chain_bin (.bool true) _ _ _ _ _ (.int .i64 yk) (.int .i64 1) (fun _ _ => Below.refl _ _) rfl rfl (by kernel_rfl) (by kernel_rfl) rfl rfl (fun w1 => eql_i64 _ _ _ _ _ _ HKD.out w1) ?_
        refine chain_move (.bool true) _ (fun _ _ => Below.refl _ _) rfl rfl (by kernel_rfl) (by kernel_rfl) rfl ?_
        refine chain_move (.slice (some ⟨g, 0, none⟩) k k) _ (fun _ _ => Below.refl _ _) rfl rfl (by kernel_rfl) (by kernel_rfl) rfl ?_
        refine chain_val (.pointer (some ⟨b7, 0, none⟩)) (fun _ _ => Below.refl _ _) rfl (by intro cs b h; cases h) (by kernel_rfl) (by kernel_rfl) (fun w1 _ => by simp [execOp, evE, lk_cons, lk_nil, slotL, go_sem]) ?_
        refine chain_load (.int .i64 xa) _ _ _ (fun _ _ => Below.refl _ _) rfl rfl (by kernel_rfl) (by kernel_rfl) rfl (fun w1 hC => load_i64 (HX.out w1 hC).2.1.c0) ?_
        refine chain_idx (.pointer (some ⟨g, 0 + xa, none⟩)) _ _ _ (.slice (some ⟨g, 0, none⟩) k k) (.int .i64 xa) (fun _ _ => Below.refl _ _) rfl rfl (by kernel_rfl) (by kernel_rfl) rfl rfl (fun w1 => idx_i64 _ _ _ _ _ HLT.out.1 w1) ?_
        refine chain_load (.int .i64 pa) _ _ _ (fun _ _ => Below.refl _ _) rfl rfl (by kernel_rfl) (by kernel_rfl) rfl (fun w1 hC => load_i64 (by rw [Nat.zero_add]; exact (HX.out w1 hC).1.cell HPa.out)) ?_
        refine chain_move (.slice (some ⟨g, 0, none⟩) k k) _ (fun _ _ => Below.refl _ _) rfl rfl (by kernel_rfl) (by kernel_rfl) rfl ?_
        refine chain_move (.int .i64 x) _ (fun _ _ => Below.refl _ _) rfl rfl (by kernel_rfl) (by kernel_rfl) rfl ?_
        refine chain_idx (.pointer (some ⟨g, 0 + x, none⟩)) _ _ _ (.slice (some ⟨g, 0, none⟩) k k) (.int .i64 x) (fun _ _ => Below.refl _ _) rfl rfl (by kernel_rfl) (by kernel_rfl) rfl rfl (fun w1 => idx_i64 _ _ _ _ _ HLT.out.2.2.1 w1) ?_
        refine chain_load (.int .i64 px) _ _ _ (fun _ _ => Below.refl _ _) rfl rfl (by kernel_rfl) (by kernel_rfl) rfl (fun w1 hC => load_i64 (by rw [Nat.zero_add]; exact (HX.out w1 hC).1.cell HPx.out)) ?_
        refine chain_bin (.bool false) _ _ _ _ _ (.int .i64 pa) (.int .i64 px) (fun _ _ => Below.refl _ _) rfl rfl (by kernel_rfl) (by kernel_rfl) rfl rfl (fun w1 => eql_i64 _ _ _ _ _ _ HQ1.out w1) ?_
        refine chain_move (.bool false) _ (fun _ _ => Below.refl _ _) rfl rfl (by kernel_rfl) (by kernel_rfl) rfl ?_
        refine chain_skip rfl (by kernel_rfl) ?_
        refine chain_skip rfl (by kernel_rfl) ?_
        refine chain_skip rfl (by kernel_rfl) ?_
        refine chain_skip rfl (by kernel_rfl) ?_
        refine chain_skip rfl (by kernel_rfl) ?_
        refine chain_skip rfl (by kernel_rfl) ?_
        refine chain_skip rfl (by kernel_rfl) ?_
        refine chain_skip rfl (by kernel_rfl) ?_
        refine chain_skip rfl (by kernel_rfl) ?_
        refine chain_skip rfl (by kernel_rfl) ?_
        refine chain_pick (.bool false) _ _ _ false (fun _ _ => Below.refl _ _) rfl rfl (by kernel_rfl) (by kernel_rfl) rfl rfl ?_
        refine chain_move (.bool false) _ (fun _ _ => Below.refl _ _) rfl rfl (by kernel_rfl) (by kernel_rfl) rfl ?_
        refine chain_move (.slice (some ⟨g, 0, none⟩) k k) _ (fun _ _ => Below.refl _ _) rfl rfl (by kernel_rfl) (by kernel_rfl) rfl ?_
        refine chain_val (.pointer (some ⟨b7, 0, none⟩)) (fun _ _ => Below.refl _ _) rfl (by intro cs b h; cases h) (by kernel_rfl) (by kernel_rfl) (fun w1 _ => by simp [execOp, evE, lk_cons, lk_nil, slotL, go_sem]) ?_
        refine chain_load (.int .i64 xa) _ _ _ (fun _ _ => Below.refl _ _) rfl rfl (by kernel_rfl) (by kernel_rfl) rfl (fun w1 hC => load_i64 (HX.out w1 hC).2.1.c0) ?_
        refine chain_idx (.pointer (some ⟨g, 0 + xa, none⟩)) _ _ _ (.slice (some ⟨g, 0, none⟩) k k) (.int .i64 xa) (fun _ _ => Below.refl _ _) rfl rfl (by kernel_rfl) (by kernel_rfl) rfl rfl (fun w1 => idx_i64 _ _ _ _ _ HLT.out.1 w1) ?_
        refine chain_load (.int .i64 pa) _ _ _ (fun _ _ => Below.refl _ _) rfl rfl (by kernel_rfl) (by kernel_rfl) rfl (fun w1 hC => load_i64 (by rw [Nat.zero_add]; exact (HX.out w1 hC).1.cell HPa.out)) ?_
        refine chain_move (.slice (some ⟨g, 0, none⟩) k k) _ (fun _ _ => Below.refl _ _) rfl rfl (by kernel_rfl) (by kernel_rfl) rfl ?_
        refine chain_move (.int .i64 y) _ (fun _ _ => Below.refl _ _) rfl rfl (by kernel_rfl) (by kernel_rfl) rfl ?_
        refine chain_idx (.pointer (some ⟨g, 0 + y, none⟩)) _ _ _ (.slice (some ⟨g, 0, none⟩) k k) (.int .i64 y) (fun _ _ => Below.refl _ _) rfl rfl (by kernel_rfl) (by kernel_rfl) rfl rfl (fun w1 => idx_i64 _ _ _ _ _ HLT.out.2.2.2 w1) ?_
        refine chain_load (.int .i64 py) _ _ _ (fun _ _ => Below.refl _ _) rfl rfl (by kernel_rfl) (by kernel_rfl) rfl (fun w1 hC => load_i64 (by rw [Nat.zero_add]; exact (HX.out w1 hC).1.cell HPy.out)) ?_
        refine chain_bin (.bool true) _ _ _ _ _ (.int .i64 pa) (.int .i64 py) (fun _ _ => Below.refl _ _) rfl rfl (by kernel_rfl) (by kernel_rfl) rfl rfl (fun w1 => eql_i64 _ _ _ _ _ _ HQ3.out w1) ?_
        refine chain_move (.bool true) _ (fun _ _ => Below.refl _ _) rfl rfl (by kernel_rfl) (by kernel_rfl) rfl ?_
        refine chain_move (.slice (some ⟨g, 0, none⟩) k k) _ (fun _ _ => Below.refl _ _) rfl rfl (by kernel_rfl) (by kernel_rfl) rfl ?_
        refine chain_val (.pointer (some ⟨b7, 1, none⟩)) (fun _ _ => Below.refl _ _) rfl (by intro cs b h; cases h) (by kernel_rfl) (by kernel_rfl) (fun w1 _ => by simp [execOp, evE, lk_cons, lk_nil, slotL, go_sem]) ?_
        refine chain_load (.int .i64 xb) _ _ _ (fun _ _ => Below.refl _ _) rfl rfl (by kernel_rfl) (by kernel_rfl) rfl (fun w1 hC => load_i64 (HX.out w1 hC).2.1.c1) ?_
        refine chain_idx (.pointer (some ⟨g, 0 + xb, none⟩)) _ _ _ (.slice (some ⟨g, 0, none⟩) k k) (.int .i64 xb) (fun _ _ => Below.refl _ _) rfl rfl (by kernel_rfl) (by kernel_rfl) rfl rfl (fun w1 => idx_i64 _ _ _ _ _ HLT.out.2.1 w1) ?_
        refine chain_load (.int .i64 pb) _ _ _ (fun _ _ => Below.refl _ _) rfl rfl (by kernel_rfl) (by kernel_rfl) rfl (fun w1 hC => load_i64 (by rw [Nat.zero_add]; exact (HX.out w1 hC).1.cell HPb.out)) ?_
        refine chain_move (.slice (some ⟨g, 0, none⟩) k k) _ (fun _ _ => Below.refl _ _) rfl rfl (by kernel_rfl) (by kernel_rfl) rfl ?_
        refine chain_move (.int .i64 x) _ (fun _ _ => Below.refl _ _) rfl rfl (by kernel_rfl) (by kernel_rfl) rfl ?_
        refine chain_idx (.pointer (some ⟨g, 0 + x, none⟩)) _ _ _ (.slice (some ⟨g, 0, none⟩) k k) (.int .i64 x) (fun _ _ => Below.refl _ _) rfl rfl (by kernel_rfl) (by kernel_rfl) rfl rfl (fun w1 => idx_i64 _ _ _ _ _ HLT.out.2.2.1 w1) ?_
        refine chain_load (.int .i64 px) _ _ _ (fun _ _ => Below.refl _ _) rfl rfl (by kernel_rfl) (by kernel_rfl) rfl (fun w1 hC => load_i64 (by rw [Nat.zero_add]; exact (HX.out w1 hC).1.cell HPx.out)) ?_
        refine chain_bin (.bool true) _ _ _ _ _ (.int .i64 pb) (.int .i64 px) (fun _ _ => Below.refl _ _) rfl rfl (by kernel_rfl) (by kernel_rfl) rfl rfl (fun w1 => eql_i64 _ _ _ _ _ _ HQ4.out w1) ?_
        refine chain_pick (.bool true) _ _ _ true (fun _ _ => Below.refl _ _) rfl rfl (by kernel_rfl) (by kernel_rfl) rfl rfl ?_
        refine chain_pick (.bool true) _ _ _ false (fun _ _ => Below.refl _ _) rfl rfl (by kernel_rfl) (by kernel_rfl) rfl rfl ?_
        refine chain_pick (.bool true) _ _ _ true (fun _ _ => Below.refl _ _) rfl rfl (by kernel_rfl) (by kernel_rfl) rfl rfl ?_
        refine chain_end (by rfl) ?_
        intro xs w6 hCw6 hrew6
        simp only [layE, List.foldr_cons, List.foldr_nil, List.set_cons_succ, List.set_cons_zero]
        have H6 := Lib.hid (HX.out w6 hCw6)
        clear hCw6 hrew6 HX
        go_wp2_with fail
        go_ret
        exact ⟨by rw [HR.out, HYES.out (by trivial)]; rfl, by have := H6.out.2.2.2; rw [HB4.out] at this; exact this⟩
      · rw [hr] at HNO HYES
        have HKD := Lib.hid (dec_of q0)
        have HQ1 := Lib.hid (dec_of q1)
        have HQ3 := Lib.hid (dec_of q3)
        have HQ4 := Lib.hid (dec_of q4)
        clear hr q0 q1 q3 q4
        refine wp_region_old 51 74 (by kernel_rfl) (by kernel_rfl) (by rfl) ?_
        simp only [List.take_succ_cons, List.take_zero, List.drop_succ_cons, List.drop_zero, List.drop_nil]
        refine chain_val (.pointer (some ⟨b7, 2, none⟩)) (fun _ _ => Below.refl _ _) rfl (by intro cs b h; cases h) (by kernel_rfl) (by kernel_rfl) (fun w1 _ => by simp [execOp, evE, lk_cons, lk_nil, slotL, go_sem]) ?_
        refine chain_load (.int .i64 yk) _ _ _ (fun _ _ => Below.refl _ _) rfl rfl (by kernel_rfl) (by kernel_rfl) rfl (fun w1 hC => load_i64 (HX.out w1 hC).2.1.c2) ?_
        refine chain_bin (.bool true) _ _ _ _ _ (.int .i64 yk) (.int .i64 1) (fun _ _ => Below.refl _ _) rfl rfl (by kernel_rfl) (by kernel_rfl) rfl rfl (fun w1 => eql_i64 _ _ _ _ _ _ HKD.out w1) ?_
        refine chain_move (.bool true) _ (fun _ _ => Below.refl _ _) rfl rfl (by kernel_rfl) (by kernel_rfl) rfl ?_
        refine chain_move (.slice (some ⟨g, 0, none⟩) k k) _ (fun _ _ => Below.refl _ _) rfl rfl (by kernel_rfl) (by kernel_rfl) rfl ?_
        refine chain_val (.pointer (some ⟨b7, 0, none⟩)) (fun _ _ => Below.refl _ _) rfl (by intro cs b h; cases h) (by kernel_rfl) (by kernel_rfl) (fun w1 _ => by simp [execOp, evE, lk_cons, lk_nil, slotL, go_sem]) ?_
        refine chain_load (.int .i64 xa) _ _ _ (fun _ _ => Below.refl _ _) rfl rfl (by kernel_rfl) (by kernel_rfl) rfl (fun w1 hC => load_i64 (HX.out w1 hC).2.1.c0) ?_
        refine chain_idx (.pointer (some ⟨g, 0 + xa, none⟩)) _ _ _ (.slice (some ⟨g, 0, none⟩) k k) (.int .i64 xa) (fun _ _ => Below.refl _ _) rfl rfl (by kernel_rfl) (by kernel_rfl) rfl rfl (fun w1 => idx_i64 _ _ _ _ _ HLT.out.1 w1) ?_
        refine chain_load (.int .i64 pa) _ _ _ (fun _ _ => Below.refl _ _) rfl rfl (by kernel_rfl) (by kernel_rfl) rfl (fun w1 hC => load_i64 (by rw [Nat.zero_add]; exact (HX.out w1 hC).1.cell HPa.out)) ?_
        refine chain_move (.slice (some ⟨g, 0, none⟩) k k) _ (fun _ _ => Below.refl _ _) rfl rfl (by kernel_rfl) (by kernel_rfl) rfl ?_
        refine chain_move (.int .i64 x) _ (fun _ _ => Below.refl _ _) rfl rfl (by kernel_rfl) (by kernel_rfl) rfl ?_
        refine chain_idx (.pointer (some ⟨g, 0 + x, none⟩)) _ _ _ (.slice (some ⟨g, 0, none⟩) k k) (.int .i64 x) (fun _ _ => Below.refl _ _) rfl rfl (by kernel_rfl) (by kernel_rfl) rfl rfl (fun w1 => idx_i64 _ _ _ _ _ HLT.out.2.2.1 w1) ?_
        refine chain_load (.int .i64 px) _ _ _ (fun _ _ => Below.refl _ _) rfl rfl (by kernel_rfl) (by kernel_rfl) rfl (fun w1 hC => load_i64 (by rw [Nat.zero_add]; exact (HX.out w1 hC).1.cell HPx.out)) ?_
        refine chain_bin (.bool false) _ _ _ _ _ (.int .i64 pa) (.int .i64 px) (fun _ _ => Below.refl _ _) rfl rfl (by kernel_rfl) (by kernel_rfl) rfl rfl (fun w1 => eql_i64 _ _ _ _ _ _ HQ1.out w1) ?_
        refine chain_move (.bool false) _ (fun _ _ => Below.refl _ _) rfl rfl (by kernel_rfl) (by kernel_rfl) rfl ?_
        refine chain_skip rfl (by kernel_rfl) ?_
        refine chain_skip rfl (by kernel_rfl) ?_
        refine chain_skip rfl (by kernel_rfl) ?_
        refine chain_skip rfl (by kernel_rfl) ?_
        refine chain_skip rfl (by kernel_rfl) ?_
        refine chain_skip rfl (by kernel_rfl) ?_
        refine chain_skip rfl (by kernel_rfl) ?_
        refine chain_skip rfl (by kernel_rfl) ?_
        refine chain_skip rfl (by kernel_rfl) ?_
        refine chain_skip rfl (by kernel_rfl) ?_
        refine chain_pick (.bool false) _ _ _ false (fun _ _ => Below.refl _ _) rfl rfl (by kernel_rfl) (by kernel_rfl) rfl rfl ?_
        refine chain_move (.bool false) _ (fun _ _ => Below.refl _ _) rfl rfl (by kernel_rfl) (by kernel_rfl) rfl ?_
        refine chain_move (.slice (some ⟨g, 0, none⟩) k k) _ (fun _ _ => Below.refl _ _) rfl rfl (by kernel_rfl) (by kernel_rfl) rfl ?_
        refine chain_val (.pointer (some ⟨b7, 0, none⟩)) (fun _ _ => Below.refl _ _) rfl (by intro cs b h; cases h) (by kernel_rfl) (by kernel_rfl) (fun w1 _ => by simp [execOp, evE, lk_cons, lk_nil, slotL, go_sem]) ?_
        refine chain_load (.int .i64 xa) _ _ _ (fun _ _ => Below.refl _ _) rfl rfl (by kernel_rfl) (by kernel_rfl) rfl (fun w1 hC => load_i64 (HX.out w1 hC).2.1.c0) ?_
        refine chain_idx (.pointer (some ⟨g, 0 + xa, none⟩)) _ _ _ (.slice (some ⟨g, 0, none⟩) k k) (.int .i64 xa) (fun _ _ => Below.refl _ _) rfl rfl (by kernel_rfl) (by kernel_rfl) rfl rfl (fun w1 => idx_i64 _ _ _ _ _ HLT.out.1 w1) ?_
        refine chain_load (.int .i64 pa) _ _ _ (fun _ _ => Below.refl _ _) rfl rfl (by kernel_rfl) (by kernel_rfl) rfl (fun w1 hC => load_i64 (by rw [Nat.zero_add]; exact (HX.out w1 hC).1.cell HPa.out)) ?_
        refine chain_move (.slice (some ⟨g, 0, none⟩) k k) _ (fun _ _ => Below.refl _ _) rfl rfl (by kernel_rfl) (by kernel_rfl) rfl ?_
        refine chain_move (.int .i64 y) _ (fun _ _ => Below.refl _ _) rfl rfl (by kernel_rfl) (by kernel_rfl) rfl ?_
        refine chain_idx (.pointer (some ⟨g, 0 + y, none⟩)) _ _ _ (.slice (some ⟨g, 0, none⟩) k k) (.int .i64 y) (fun _ _ => Below.refl _ _) rfl rfl (by kernel_rfl) (by kernel_rfl) rfl rfl (fun w1 => idx_i64 _ _ _ _ _ HLT.out.2.2.2 w1) ?_
        refine chain_load (.int .i64 py) _ _ _ (fun _ _ => Below.refl _ _) rfl rfl (by kernel_rfl) (by kernel_rfl) rfl (fun w1 hC => load_i64 (by rw [Nat.zero_add]; exact (HX.out w1 hC).1.cell HPy.out)) ?_
        refine chain_bin (.bool true) _ _ _ _ _ (.int .i64 pa) (.int .i64 py) (fun _ _ => Below.refl _ _) rfl rfl (by kernel_rfl) (by kernel_rfl) rfl rfl (fun w1 => eql_i64 _ _ _ _ _ _ HQ3.out w1) ?_
        refine chain_move (.bool true) _ (fun _ _ => Below.refl _ _) rfl rfl (by kernel_rfl) (by kernel_rfl) rfl ?_
        refine chain_move (.slice (some ⟨g, 0, none⟩) k k) _ (fun _ _ => Below.refl _ _) rfl rfl (by kernel_rfl) (by kernel_rfl) rfl ?_
        refine chain_val (.pointer (some ⟨b7, 1, none⟩)) (fun _ _ => Below.refl _ _) rfl (by intro cs b h; cases h) (by kernel_rfl) (by kernel_rfl) (fun w1 _ => by simp [execOp, evE, lk_cons, lk_nil, slotL, go_sem]) ?_
        refine chain_load (.int .i64 xb) _ _ _ (fun _ _ => Below.refl _ _) rfl rfl (by kernel_rfl) (by kernel_rfl) rfl (fun w1 hC => load_i64 (HX.out w1 hC).2.1.c1) ?_
        refine chain_idx (.pointer (some ⟨g, 0 + xb, none⟩)) _ _ _ (.slice (some ⟨g, 0, none⟩) k k) (.int .i64 xb) (fun _ _ => Below.refl _ _) rfl rfl (by kernel_rfl) (by kernel_rfl) rfl rfl (fun w1 => idx_i64 _ _ _ _ _ HLT.out.2.1 w1) ?_
        refine chain_load (.int .i64 pb) _ _ _ (fun _ _ => Below.refl _ _) rfl rfl (by kernel_rfl) (by kernel_rfl) rfl (fun w1 hC => load_i64 (by rw [Nat.zero_add]; exact (HX.out w1 hC).1.cell HPb.out)) ?_
        refine chain_move (.slice (some ⟨g, 0, none⟩) k k) _ (fun _ _ => Below.refl _ _) rfl rfl (by kernel_rfl) (by kernel_rfl) rfl ?_
        refine chain_move (.int .i64 x) _ (fun _ _ => Below.refl _ _) rfl rfl (by kernel_rfl) (by kernel_rfl) rfl ?_
        refine chain_idx (.pointer (some ⟨g, 0 + x, none⟩)) _ _ _ (.slice (some ⟨g, 0, none⟩) k k) (.int .i64 x) (fun _ _ => Below.refl _ _) rfl rfl (by kernel_rfl) (by kernel_rfl) rfl rfl (fun w1 => idx_i64 _ _ _ _ _ HLT.out.2.2.1 w1) ?_
        refine chain_load (.int .i64 px) _ _ _ (fun _ _ => Below.refl _ _) rfl rfl (by kernel_rfl) (by kernel_rfl) rfl (fun w1 hC => load_i64 (by rw [Nat.zero_add]; exact (HX.out w1 hC).1.cell HPx.out)) ?_
        refine chain_bin (.bool false) _ _ _ _ _ (.int .i64 pb) (.int .i64 px) (fun _ _ => Below.refl _ _) rfl rfl (by kernel_rfl) (by kernel_rfl) rfl rfl (fun w1 => eql_i64 _ _ _ _ _ _ HQ4.out w1) ?_
        refine chain_pick (.bool false) _ _ _ true (fun _ _ => Below.refl _ _) rfl rfl (by kernel_rfl) (by kernel_rfl) rfl rfl ?_
        refine chain_pick (.bool false) _ _ _ false (fun _ _ => Below.refl _ _) rfl rfl (by kernel_rfl) (by kernel_rfl) rfl rfl ?_
        refine chain_pick (.bool false) _ _ _ true (fun _ _ => Below.refl _ _) rfl rfl (by kernel_rfl) (by kernel_rfl) rfl rfl ?_
        refine chain_end (by rfl) ?_
        intro xs w6 hCw6 hrew6
        simp only [layE, List.foldr_cons, List.foldr_nil, List.set_cons_succ, List.set_cons_zero]
        have H6 := Lib.hid (HX.out w6 hCw6)
        clear hCw6 hrew6 HX
        go_wp2_with fail
        exact ⟨⟨j + 1, by omega, by simp, HNO.out (by trivial), H6.out.2.2.1, H6.out.2.2.2⟩, by simp [intOf]; omega⟩
      · rw [hr] at HNO HYES
        have HKD := Lib.hid (dec_of q0)
        have HQ1 := Lib.hid (dec_of q1)
        have HQ3 := Lib.hid (dec_of q3)
        clear hr q0 q1 q3
        refine wp_region_old 51 74 (by kernel_rfl) (by kernel_rfl) (by rfl) ?_
        simp only [List.take_succ_cons, List.take_zero, List.drop_succ_cons, List.drop_zero, List.drop_nil]
        refine chain_val (.pointer (some ⟨b7, 2, none⟩)) (fun _ _ => Below.refl _ _) rfl (by intro cs b h; cases h) (by kernel_rfl) (by kernel_rfl) (fun w1 _ => by simp [execOp, evE, lk_cons, lk_nil, slotL, go_sem]) ?_
        refine chain_load (.int .i64 yk) _ _ _ (fun _ _ => Below.refl _ _) rfl rfl (by kernel_rfl) (by kernel_rfl) rfl (fun w1 hC => load_i64 (HX.out w1 hC).2.1.c2) ?_
        refine chain_bin (.bool true) _ _ _ _ _ (.int .i64 yk) (.int .i64 1) (fun _ _ => Below.refl _ _) rfl rfl (by kernel_rfl) (by kernel_rfl) rfl rfl (fun w1 => eql_i64 _ _ _ _ _ _ HKD.out w1) ?_
        refine chain_move (.bool true) _ (fun _ _ => Below.refl _ _) rfl rfl (by kernel_rfl) (by kernel_rfl) rfl ?_
        refine chain_move (.slice (some ⟨g, 0, none⟩) k k) _ (fun _ _ => Below.refl _ _) rfl rfl (by kernel_rfl) (by kernel_rfl) rfl ?_
        refine chain_val (.pointer (some ⟨b7, 0, none⟩)) (fun _ _ => Below.refl _ _) rfl (by intro cs b h; cases h) (by kernel_rfl) (by kernel_rfl) (fun w1 _ => by simp [execOp, evE, lk_cons, lk_nil, slotL, go_sem]) ?_
        refine chain_load (.int .i64 xa) _ _ _ (fun _ _ => Below.refl _ _) rfl rfl (by kernel_rfl) (by kernel_rfl) rfl (fun w1 hC => load_i64 (HX.out w1 hC).2.1.c0) ?_
        refine chain_idx (.pointer (some ⟨g, 0 + xa, none⟩)) _ _ _ (.slice (some ⟨g, 0, none⟩) k k) (.int .i64 xa) (fun _ _ => Below.refl _ _) rfl rfl (by kernel_rfl) (by kernel_rfl) rfl rfl (fun w1 => idx_i64 _ _ _ _ _ HLT.out.1 w1) ?_
        refine chain_load (.int .i64 pa) _ _ _ (fun _ _ => Below.refl _ _) rfl rfl (by kernel_rfl) (by kernel_rfl) rfl (fun w1 hC => load_i64 (by rw [Nat.zero_add]; exact (HX.out w1 hC).1.cell HPa.out)) ?_
        refine chain_move (.slice (some ⟨g, 0, none⟩) k k) _ (fun _ _ => Below.refl _ _) rfl rfl (by kernel_rfl) (by kernel_rfl) rfl ?_
        refine chain_move (.int .i64 x) _ (fun _ _ => Below.refl _ _) rfl rfl (by kernel_rfl) (by kernel_rfl) rfl ?_
        refine chain_idx (.pointer (some ⟨g, 0 + x, none⟩)) _ _ _ (.slice (some ⟨g, 0, none⟩) k k) (.int .i64 x) (fun _ _ => Below.refl _ _) rfl rfl (by kernel_rfl) (by kernel_rfl) rfl rfl (fun w1 => idx_i64 _ _ _ _ _ HLT.out.2.2.1 w1) ?_
        refine chain_load (.int .i64 px) _ _ _ (fun _ _ => Below.refl _ _) rfl rfl (by kernel_rfl) (by kernel_rfl) rfl (fun w1 hC => load_i64 (by rw [Nat.zero_add]; exact (HX.out w1 hC).1.cell HPx.out)) ?_
        refine chain_bin (.bool false) _ _ _ _ _ (.int .i64 pa) (.int .i64 px) (fun _ _ => Below.refl _ _) rfl rfl (by kernel_rfl) (by kernel_rfl) rfl rfl (fun w1 => eql_i64 _ _ _ _ _ _ HQ1.out w1) ?_
        refine chain_move (.bool false) _ (fun _ _ => Below.refl _ _) rfl rfl (by kernel_rfl) (by kernel_rfl) rfl ?_
        refine chain_skip rfl (by kernel_rfl) ?_
        refine chain_skip rfl (by kernel_rfl) ?_
        refine chain_skip rfl (by kernel_rfl) ?_
        refine chain_skip rfl (by kernel_rfl) ?_
        refine chain_skip rfl (by kernel_rfl) ?_
        refine chain_skip rfl (by kernel_rfl) ?_
        refine chain_skip rfl (by kernel_rfl) ?_
        refine chain_skip rfl (by kernel_rfl) ?_
        refine chain_skip rfl (by kernel_rfl) ?_
        refine chain_skip rfl (by kernel_rfl) ?_
        refine chain_pick (.bool false) _ _ _ false (fun _ _ => Below.refl _ _) rfl rfl (by kernel_rfl) (by kernel_rfl) rfl rfl ?_
        refine chain_move (.bool false) _ (fun _ _ => Below.refl _ _) rfl rfl (by kernel_rfl) (by kernel_rfl) rfl ?_
        refine chain_move (.slice (some ⟨g, 0, none⟩) k k) _ (fun _ _ => Below.refl _ _) rfl rfl (by kernel_rfl) (by kernel_rfl) rfl ?_
        refine chain_val (.pointer (some ⟨b7, 0, none⟩)) (fun _ _ => Below.refl _ _) rfl (by intro cs b h; cases h) (by kernel_rfl) (by kernel_rfl) (fun w1 _ => by simp [execOp, evE, lk_cons, lk_nil, slotL, go_sem]) ?_
        refine chain_load (.int .i64 xa) _ _ _ (fun _ _ => Below.refl _ _) rfl rfl (by kernel_rfl) (by kernel_rfl) rfl (fun w1 hC => load_i64 (HX.out w1 hC).2.1.c0) ?_
        refine chain_idx (.pointer (some ⟨g, 0 + xa, none⟩)) _ _ _ (.slice (some ⟨g, 0, none⟩) k k) (.int .i64 xa) (fun _ _ => Below.refl _ _) rfl rfl (by kernel_rfl) (by kernel_rfl) rfl rfl (fun w1 => idx_i64 _ _ _ _ _ HLT.out.1 w1) ?_
        refine chain_load (.int .i64 pa) _ _ _ (fun _ _ => Below.refl _ _) rfl rfl (by kernel_rfl) (by kernel_rfl) rfl (fun w1 hC => load_i64 (by rw [Nat.zero_add]; exact (HX.out w1 hC).1.cell HPa.out)) ?_
        refine chain_move (.slice (some ⟨g, 0, none⟩) k k) _ (fun _ _ => Below.refl _ _) rfl rfl (by kernel_rfl) (by kernel_rfl) rfl ?_
        refine chain_move (.int .i64 y) _ (fun _ _ => Below.refl _ _) rfl rfl (by kernel_rfl) (by kernel_rfl) rfl ?_
        refine chain_idx (.pointer (some ⟨g, 0 + y, none⟩)) _ _ _ (.slice (some ⟨g, 0, none⟩) k k) (.int .i64 y) (fun _ _ => Below.refl _ _) rfl rfl (by kernel_rfl) (by kernel_rfl) rfl rfl (fun w1 => idx_i64 _ _ _ _ _ HLT.out.2.2.2 w1) ?_
        refine chain_load (.int .i64 py) _ _ _ (fun _ _ => Below.refl _ _) rfl rfl (by kernel_rfl) (by kernel_rfl) rfl (fun w1 hC => load_i64 (by rw [Nat.zero_add]; exact (HX.out w1 hC).1.cell HPy.out)) ?_
        refine chain_bin (.bool false) _ _ _ _ _ (.int .i64 pa) (.int .i64 py) (fun _ _ => Below.refl _ _) rfl rfl (by kernel_rfl) (by kernel_rfl) rfl rfl (fun w1 => eql_i64 _ _ _ _ _ _ HQ3.out w1) ?_
        refine chain_move (.bool false) _ (fun _ _ => Below.refl _ _) rfl rfl (by kernel_rfl) (by kernel_rfl) rfl ?_
        refine chain_skip rfl (by kernel_rfl) ?_
        refine chain_skip rfl (by kernel_rfl) ?_
        refine chain_skip rfl (by kernel_rfl) ?_
        refine chain_skip rfl (by kernel_rfl) ?_
        refine chain_skip rfl (by kernel_rfl) ?_
        refine chain_skip rfl (by kernel_rfl) ?_
        refine chain_skip rfl (by kernel_rfl) ?_
        refine chain_skip rfl (by kernel_rfl) ?_
        refine chain_skip rfl (by kernel_rfl) ?_
        refine chain_skip rfl (by kernel_rfl) ?_
        refine chain_pick (.bool false) _ _ _ false (fun _ _ => Below.refl _ _) rfl rfl (by kernel_rfl) (by kernel_rfl) rfl rfl ?_
        refine chain_pick (.bool false) _ _ _ false (fun _ _ => Below.refl _ _) rfl rfl (by kernel_rfl) (by kernel_rfl) rfl rfl ?_
        refine chain_pick (.bool false) _ _ _ true (fun _ _ => Below.refl _ _) rfl rfl (by kernel_rfl) (by kernel_rfl) rfl rfl ?_
        refine chain_end (by rfl) ?_
        intro xs w6 hCw6 hrew6
        simp only [layE, List.foldr_cons, List.foldr_nil, List.set_cons_succ, List.set_cons_zero]
        have H6 := Lib.hid (HX.out w6 hCw6)
        clear hCw6 hrew6 HX
        go_wp2_with fail
        exact ⟨⟨j + 1, by omega, by simp, HNO.out (by trivial), H6.out.2.2.1, H6.out.2.2.2⟩, by simp [intOf]; omega⟩
    · have HE : Hid (r = false) := by
        have := HN.out
        rw [List.take_of_length_le (by rw [← HM.out]; omega)] at this
        exact HR.out.trans this
      have t3 : decide (j < m) = false := decide_eq_false hlt
      go_wp2_with fail
      go_ret
      exact ⟨by rw [HE.out]; rfl, HB.out⟩
end Go.Proofs.YthjeiaildabadaaGreat
/- Layer 4: the specification's Groups, Same and Apart. -/
namespace Go.Proofs.YthjeiaildabadaaGreat
set_option linter.unusedSimpArgs false
set_option linter.unusedVariables false
open Go Go.RowKit

/-- A new list of groups, by its numbers. -/
def gsW (k : Nat) (L : List Int) : Word := fun v w => ∃ b, v = .slice (some ⟨b, 0, none⟩) k k ∧ NB w b L
theorem gsW_lasts {w0 : World} (k : Nat) (L : List Int) : lasts (clOld w0) (gsW k L) := fun v w w' _ hb ⟨b, h1, h2⟩ => ⟨b, h1, h2.block (Below.block hb b h2.lt)⟩
end Go.Proofs.YthjeiaildabadaaGreat
/- Layer 4: the law TiesGroups. -/
namespace Go.Proofs.YthjeiaildabadaaGreat
set_option linter.unusedSimpArgs false
set_option linter.unusedVariables false
open Go Go.RowKit

theorem load_sl0 {w : World} {b o : Nat} {a : Option Addr} {len cap : Nat} (h : w.cell? ⟨b, o, none⟩ = some (.slice a len cap)) : (Instr.loadAt 27 (.pointer (some ⟨b, o, none⟩))).run Tryz.prog w = .ok (.slice a len cap) w := by
  simp [go_sem, Instr.loadAt, h]
set_option maxRecDepth 100000 in
theorem ints_same (a1 a2 : Option Addr) (cap1 cap2 : Nat) (l : List Int) (w : World) (hl : l.length ≤ 100000) (hs1 : IntsAt w a1 l) (hs2 : IntsAt w a2 l) :
    Calls Tryz.prog 18 #[.slice a1 l.length cap1, .slice a2 l.length cap2] w fun e w' => e = .returned (.bool true) ∧ Below w.heap.size w w' := by
  have HS1 := Lib.hid hs1
  have HS2 := Lib.hid hs2
  obtain ⟨n, hn⟩ : ∃ n, n = l.length := ⟨_, rfl⟩
  rw [← hn] at hl ⊢
  have HN := Lib.hid hn
  clear hs1 hs2 hn
  go_enter Tryz.func18, Tryz.ntmps18
  go_wp2_with fail
  go_loopw [5] (fun ti wr => ∃ k : Nat, k ≤ n ∧ ti = .int .i64 k ∧ Hid (Below w.heap.size w wr)) (fun ti _ => n - (intOf ti).toNat)
  case atStart => exact ⟨0, by omega, rfl, Below.refl _ _⟩
  case round =>
    obtain ⟨k, hk, rfl, HB⟩ := hrel
    by_cases hlt : k < n
    · have hkl : k < l.length := by rw [← HN.out]; exact hlt
      obtain ⟨b1, o1, rfl, h1, c1⟩ := (HS1.out.below HB.out).at hkl
      obtain ⟨b2, o2, rfl, h2, c2⟩ := (HS2.out.below HB.out).at hkl
      obtain ⟨x, hx⟩ : ∃ x, x = l[k] := ⟨_, rfl⟩
      rw [← hx] at c1 c2
      have HC : Hid (∀ W, Old wr.drew W → W.cell? ⟨b1, o1 + k, none⟩ = some (.int .i64 x) ∧ W.cell? ⟨b2, o2 + k, none⟩ = some (.int .i64 x)) := fun W h => ⟨by rw [Below.cell h (by exact h1)]; exact c1, by rw [Below.cell h (by exact h2)]; exact c2⟩
      have HLT : Hid (k < n) := hlt
      clear hx hkl h1 h2 c1 c2
      have t3 : decide (k < n) = true := decide_eq_true hlt
      go_upto_region 6 with (fail)
      refine wp_region_old 9 26 (by kernel_rfl) (by kernel_rfl) (by rfl) ?_
      simp only [List.take_succ_cons, List.take_zero, List.drop_succ_cons, List.drop_zero, List.drop_nil]
      refine chain_move (.slice (some ⟨b1, o1, none⟩) n cap1) _ (fun _ _ => Below.refl _ _) rfl rfl (by kernel_rfl) (by kernel_rfl) rfl ?_
      refine chain_move (.int .i64 k) _ (fun _ _ => Below.refl _ _) rfl rfl (by kernel_rfl) (by kernel_rfl) rfl ?_
      refine chain_idx (.pointer (some ⟨b1, o1 + k, none⟩)) _ _ _ (.slice (some ⟨b1, o1, none⟩) n cap1) (.int .i64 k) (fun _ _ => Below.refl _ _) rfl rfl (by kernel_rfl) (by kernel_rfl) rfl rfl (fun w1 => idx_i64 _ _ _ _ _ HLT.out w1) ?_
      refine chain_load (.int .i64 x) _ _ _ (fun _ _ => Below.refl _ _) rfl rfl (by kernel_rfl) (by kernel_rfl) rfl (fun w1 hC => load_i64 (HC.out _ hC).1) ?_
      refine chain_move (.slice (some ⟨b2, o2, none⟩) n cap2) _ (fun _ _ => Below.refl _ _) rfl rfl (by kernel_rfl) (by kernel_rfl) rfl ?_
      refine chain_move (.int .i64 k) _ (fun _ _ => Below.refl _ _) rfl rfl (by kernel_rfl) (by kernel_rfl) rfl ?_
      refine chain_idx (.pointer (some ⟨b2, o2 + k, none⟩)) _ _ _ (.slice (some ⟨b2, o2, none⟩) n cap2) (.int .i64 k) (fun _ _ => Below.refl _ _) rfl rfl (by kernel_rfl) (by kernel_rfl) rfl rfl (fun w1 => idx_i64 _ _ _ _ _ HLT.out w1) ?_
      refine chain_load (.int .i64 x) _ _ _ (fun _ _ => Below.refl _ _) rfl rfl (by kernel_rfl) (by kernel_rfl) rfl (fun w1 hC => load_i64 (HC.out _ hC).2) ?_
      refine chain_bin (.bool false) _ _ _ _ _ (.int .i64 x) (.int .i64 x) (fun _ _ => Below.refl _ _) rfl rfl (by kernel_rfl) (by kernel_rfl) rfl rfl (fun w1 => neq_i64 _ _ _ _ _ _ (by simp) w1) ?_
      refine chain_end (by rfl) ?_
      intro xs w6 hCw6 hrew6
      simp only [layE, List.foldr_cons, List.foldr_nil, List.set_cons_succ, List.set_cons_zero]
      have HB6 := Lib.hid (old_end HB.out hCw6 HB.out.size)
      clear hCw6 hrew6 HC
      go_wp2_with fail
      exact ⟨⟨k + 1, by omega, by simp, HB6.out⟩, by simp [intOf]; omega⟩
    · have t3 : decide (k < n) = false := decide_eq_false hlt
      go_wp2_with fail
      go_ret
      exact ⟨rfl, HB.out⟩
def fewB (m : Nat) : Bool := decide (m ≤ 40) || (decide (512 < m) && decide (m ≤ 516))
set_option maxRecDepth 100000 in
set_option maxHeartbeats 2000000 in
theorem few_any (n : Int) (a : Option Addr) (m cap : Nat) (w : World) (hl : m ≤ 9223372036854775807) :
    Calls Tryz.prog 11 #[gV n a m cap] w fun e w' => e = .returned (.bool (fewB m)) ∧ Below w.heap.size w w' := by
  have hc : (m ≤ 40 ∧ fewB m = true) ∨ (¬ m ≤ 40 ∧ ¬ 512 < m ∧ fewB m = false) ∨ (¬ m ≤ 40 ∧ 512 < m ∧ m ≤ 516 ∧ fewB m = true) ∨ (¬ m ≤ 40 ∧ 512 < m ∧ ¬ m ≤ 516 ∧ fewB m = false) := by
    unfold fewB
    by_cases h1 : m ≤ 40 <;> by_cases h2 : 512 < m <;> by_cases h3 : m ≤ 516 <;> simp [h1, h2, h3] <;> omega
  rcases hc with ⟨h1, hr⟩ | ⟨h1, h2, hr⟩ | ⟨h1, h2, h3, hr⟩ | ⟨h1, h2, h3, hr⟩
  · rw [hr]
    clear hr
    have t1 : decide (m ≤ 40) = true := decide_eq_true h1
    go_enter Tryz.func11, Tryz.ntmps11
    simp only [gV]
    go_wp2_with fail
    go_ret
    exact ⟨by first | rfl | (simp; omega), (Below.refl _ _).alloc (Nat.le_refl _) _⟩
  · rw [hr]
    clear hr
    have t1 : decide (m ≤ 40) = false := decide_eq_false h1
    have t2 : decide (512 < m) = false := decide_eq_false h2
    go_enter Tryz.func11, Tryz.ntmps11
    simp only [gV]
    go_wp2_with fail
    go_ret
    exact ⟨by first | rfl | (simp; omega), (Below.refl _ _).alloc (Nat.le_refl _) _⟩
  · rw [hr]
    clear hr
    have t1 : decide (m ≤ 40) = false := decide_eq_false h1
    have t2 : decide (512 < m) = true := decide_eq_true h2
    have t3 : decide (m ≤ 516) = true := decide_eq_true h3
    go_enter Tryz.func11, Tryz.ntmps11
    simp only [gV]
    go_wp2_with fail
    go_ret
    exact ⟨by first | rfl | (simp; omega), (Below.refl _ _).alloc (Nat.le_refl _) _⟩
  · rw [hr]
    clear hr
    have t1 : decide (m ≤ 40) = false := decide_eq_false h1
    have t2 : decide (512 < m) = true := decide_eq_true h2
    have t3 : decide (m ≤ 516) = false := decide_eq_false h3
    go_enter Tryz.func11, Tryz.ntmps11
    simp only [gV]
    go_wp2_with fail
    go_ret
    exact ⟨by first | rfl | (simp; omega), (Below.refl _ _).alloc (Nat.le_refl _) _⟩
end Go.Proofs.YthjeiaildabadaaGreat
