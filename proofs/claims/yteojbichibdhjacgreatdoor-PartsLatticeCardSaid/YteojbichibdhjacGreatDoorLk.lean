/- Layer 6: Join of the program: its walk. -/
import Derived.Test.YteojbichibdhjacGreatDoorLj
namespace Go.Proofs.YteojbichibdhjacGreatDoor
set_option linter.unusedSimpArgs false
set_option linter.unusedVariables false
open Go Go.RowKit

theorem own_slice {W : World} {base : Nat} {e : TypeId} {size : Nat} {v : Value} {n : Nat} {xs : List Value} (h : W.ownsRow base e size v n xs) : ∃ a cap, v = .slice a n cap := by
  rcases h.2 with ⟨rfl, rfl⟩ | ⟨g, cap, cur, rfl, _⟩
  · exact ⟨_, _, rfl⟩
  · exact ⟨_, _, rfl⟩
theorem load_slq {w : World} {b o : Nat} {a : Option Addr} {len cap : Nat} (h : w.cell? ⟨b, o, none⟩ = some (.slice a len cap)) : (Instr.loadAt 30 (.pointer (some ⟨b, o, none⟩))).run Tryz.prog w = .ok (.slice a len cap) w := by
  simp [go_sem, Instr.loadAt, h]
set_option maxRecDepth 100000 in
set_option maxHeartbeats 8000000 in
theorem join_any (a b : Option Addr) (ca cb : Nat) (la lb : List Int) (w : World) (hla : la.length ≤ 1000) (hlb : lb.length ≤ 1000) (hs : IntsAt w a la) (ht : IntsAt w b lb) :
    Calls Tryz.prog 9 #[.slice a la.length ca, .slice b lb.length cb] w fun e w' => ∃ r c, e = .returned (.tuple #[.slice r (joinR la lb).length c, .int .i64 (errB la lb)]) ∧ IntsAt w' r (joinR la lb) ∧ Below w.heap.size w w' := by
  have HB0 : Hid (∀ W, Below w.heap.size w W → Calls Tryz.prog 20 #[.slice a la.length ca, .slice b lb.length cb] W fun e w' => e = .returned (.int .i64 (errB la lb)) ∧ Below W.heap.size W w') := fun W hb => both_any a b ca cb la lb W hla hlb (hs.below hb) (ht.below hb)
  have HS := Lib.hid hs
  have HT := Lib.hid ht
  unfold joinR
  rcases errB_split la lb with ⟨he, h1, h2, h3⟩ | ⟨he, _⟩
  case inr =>
    rw [he] at HB0 ⊢
    rw [if_neg (by decide)]
    clear hs ht he
    go_enter Tryz.func9, Tryz.ntmps9
    go_wp2_with (first | (go_at_call 20; refine (HB0.out _ (Below.refl _ _)).mono ?_; rintro e w1 ⟨rfl, hb1⟩; have HB1 := Lib.hid hb1; clear hb1))
    go_ret2
    first | exact ⟨none, ⟨0, rfl⟩, .inl rfl, HB1.out⟩ | exact ⟨none, 0, rfl, .inl rfl, HB1.out⟩
  case inl =>
  obtain ⟨g1, g2, g3⟩ := okP_nrm h1
  rw [he] at HB0 ⊢
  simp only [if_true]
  obtain ⟨n, hn⟩ : ∃ n, n = la.length := ⟨_, rfl⟩
  rw [← hn] at HB0 h3 g1 g2 hla ⊢
  rw [← h3] at HB0 hlb ⊢
  have HN : Hid (la.length = n ∧ lb.length = n) := ⟨hn.symm, h3.symm⟩
  have HTS : Hid (∀ j, ∀ t ∈ tsJ la lb n j, tieB t n = true) := fun j => tsJ_ok j
  have HTL : Hid (∀ j, (tsJ la lb n j).length ≤ 2 * n) := fun j => by
    match j with
    | 0 => simp [tsJ]
    | 1 => have := jT_len la n; simp only [tsJ]; omega
    | j + 2 => have := jT_len la n; have := jT_len lb n; simp only [tsJ, List.length_append]; omega
  have HGL : Hid (grpL n (tsJ la lb n 2) = grpL n (jT la n ++ jT lb n)) := rfl
  rw [← HGL.out]
  have HOKG : Hid (okG n (tsJ la lb n 2) = true) := by
    unfold okG ftB
    simp only [Hid, Bool.and_eq_true, decide_eq_true_eq]
    have := HTL.out 2
    exact ⟨⟨by omega, by omega⟩, List.all_eq_true.2 (HTS.out 2)⟩
  have HSTEP : Hid (∀ j, j < 2 → ∃ (s : Option Addr) (c : Nat) (l : List Int), [Value.slice a n ca, Value.slice b n cb][j]? = some (.slice s n c) ∧ (∀ W, Below w.heap.size w W → IntsAt W s l) ∧ l.length = n ∧ tsJ la lb n (j + 1) = tsJ la lb n j ++ jT l n) := fun j hj => by
    match j, hj with
    | 0, _ => exact ⟨a, ca, la, rfl, fun W hb => HS.out.below hb, HN.out.1, rfl⟩
    | 1, _ => exact ⟨b, cb, lb, rfl, fun W hb => HT.out.below hb, HN.out.2, rfl⟩
  generalize hTJ : tsJ la lb n = TJ at *
  have HT0 : Hid (TJ 0 = []) := by rw [← hTJ]; rfl
  clear hn hs ht he h1 h2 h3 g3 hlb hTJ
  obtain ⟨i0, hi0, hz0, hz1, hz2⟩ := info_parts infoT
  obtain ⟨R, hR⟩ : ∃ R, R = intN (nrmP (grpL n (TJ 2))).2 := ⟨_, rfl⟩
  have HRR := Lib.hid hR
  have HRL : Hid (R.length = n) := by rw [Hid, hR, nrm_full, grpL_len]
  rw [← hR]
  rw [HRL.out]
  clear hR
  go_enter Tryz.func9, Tryz.ntmps9
  go_upto_region 5 with (first | (go_at_call 20; refine (HB0.out _ (Below.refl _ _)).mono ?_; rintro e w1 ⟨rfl, hb1⟩; have HB1 := Lib.hid hb1; clear hb1))
  refine named (fun V => Hid (Below w.heap.size w V) ∧ Hid (Blk V w1.heap.size [.int .i64 n, .slice none 0 0] 32)) ⟨HB1.out.alloc HB1.out.size _, Blk.new w1 _ _⟩ ?_
  rintro W0 ⟨FB, K7⟩
  obtain ⟨b7, hb7⟩ : ∃ b7, b7 = w1.heap.size := ⟨_, rfl⟩
  rw [← hb7] at K7 ⊢
  have HB7 : Hid (w.heap.size ≤ b7) := by rw [hb7]; exact HB1.out.size
  clear hb7 HB1
  go_wp2_with fail
  obtain ⟨b26, hb26⟩ : ∃ b26, b26 = W0.heap.size := ⟨_, rfl⟩
  have HB26 : Hid (b7 < b26 ∧ w.heap.size ≤ b26 ∧ w.heap.size ≤ b7) := by rw [hb26]; exact ⟨K7.out.lt, FB.out.size, HB7.out⟩
  have HS0 : Hid (JS w (b26 + 1) b7 b26 n (.slice a n ca) (.slice b n cb) (TJ 0) (W0.alloc (.cells #[.slice a n ca, .slice b n cb] 22))) := by
    rw [HT0.out, hb26]
    exact ⟨⟨.slice none 0 0, World.ownsRow_nil _ _ _ _, K7.out.block (Below.heap_alloc _ _ _ K7.out.lt)⟩, Blk.new W0 _ _, FB.out.alloc FB.out.size _⟩
  have HSZ : Hid (b26 + 1 ≤ (W0.alloc (.cells #[.slice a n ca, .slice b n cb] 22)).heap.size) := by rw [hb26]; simp [Hid]
  rw [← hb26]
  clear hb26 FB K7 HT0
  go_loopg [28] 2 (fun gk t28 wr => ∃ j : Nat, j + gk = 2 ∧ t28 = .int .i64 j ∧ Hid (JS w (b26 + 1) b7 b26 n (.slice a n ca) (.slice b n cb) (TJ j) wr) ∧ Hid (b26 + 1 ≤ wr.heap.size))
  case atStart => exact ⟨0, by omega, rfl, HS0, HSZ⟩
  case round =>
    obtain ⟨j, hj, rfl, H, HZ⟩ := hrel
    clear HS0 HSZ
    by_cases hlt : j < 2
    · obtain ⟨G, hG⟩ : ∃ G, G = gk - 1 := ⟨_, rfl⟩
      have HG : Hid (j + 1 + G = 2 ∧ G < gk) := by rw [hG]; exact ⟨by omega, by omega⟩
      clear hG
      obtain ⟨s, c, l, hc, hI, hll, hTJ⟩ := HSTEP.out j hlt
      have d0 := H.out.lst.cell hc
      have HI := Lib.hid hI
      have HLL := Lib.hid hll
      have HTJ := Lib.hid hTJ
      have t3 : decide ((j : Int) < 2) = true := decide_eq_true (by omega)
      obtain ⟨pre, hpre⟩ : ∃ pre, pre = TJ j := ⟨_, rfl⟩
      rw [← hpre] at H HTJ
      have HPL : Hid (pre.length ≤ 2 * n) := by rw [hpre]; exact HTL.out j
      clear hc hI hll hTJ hpre
      go_wp2_with fail
      clear d0
      go_loopg [34] n (fun gk t34 wr => ∃ k : Nat, k + gk = n ∧ t34 = .int .i64 k ∧ Hid (JS w (b26 + 1) b7 b26 n (.slice a n ca) (.slice b n cb) (pre ++ jT l k) wr) ∧ Hid (b26 + 1 ≤ wr.heap.size))
      case atStart => exact ⟨0, by omega, rfl, by rw [show jT l 0 = [] from rfl, List.append_nil]; exact H, HZ⟩
      case round =>
        obtain ⟨k, hk, rfl, H, HZ⟩ := hrel
        by_cases hkn : k < n
        · have hkl : k < l.length := by rw [HLL.out]; exact hkn
          obtain ⟨b1, o1, rfl, l1, c1⟩ := (HI.out wr H.out.old).at hkl
          have HIX := index_any l[k] (some ⟨b1, o1, none⟩) c l wr (by rw [HLL.out]; omega) (HI.out wr H.out.old)
          rw [HLL.out] at HIX
          replace HIX := Lib.hid HIX
          have HX := Lib.hid (List.getElem?_eq_getElem hkl)
          obtain ⟨st1, st2⟩ := jT_step HX.out
          generalize l[k] = x at *
          obtain ⟨f, hf, _⟩ := ixI_in (List.mem_of_getElem? HX.out)
          rw [hf] at st1 st2 HIX
          clear hkl hf
          have t4 : decide (k < n) = true := decide_eq_true hkn
          by_cases hfk : f < k
          · have HST := Lib.hid (st1 (by omega))
            clear st1 st2
            obtain ⟨tv, hown, hblk⟩ := H.out.own
            obtain ⟨fa, fc, rfl, hm0, hfi⟩ := own_ties hown
            obtain ⟨m, hm⟩ : ∃ m, m = (pre ++ jT l k).length := ⟨_, rfl⟩
            have HM : Hid (m ≤ 3 * n) := by
              rw [hm]
              have h1 := HPL.out
              have h2 := jT_len l k
              simp only [Hid, List.length_append]
              omega
            rw [← hm] at hown hblk
            have HO := Lib.hid hown
            have HK := Lib.hid hblk
            have HML := Lib.hid hm
            clear hown hblk hm0 hfi hm
            go_upto_region 13 with (first | (go_at_call 24; refine HIX.out.mono ?_; rintro e w5 ⟨rfl, rfl⟩; clear HIX))
            clear c1 l1
            refine wp_region_old 6 63 (by kernel_rfl) (by kernel_rfl) (by rfl) ?_
            simp only [List.take_succ_cons, List.take_zero, List.drop_succ_cons, List.drop_zero, List.drop_nil]
            refine chain_val (.pointer (some ⟨b7, 1, none⟩)) (fun _ _ => Below.refl _ _) rfl (by intro cs b h; cases h) (by kernel_rfl) (by kernel_rfl) (fun w1 _ => by simp [execOp, evE, lk_cons, lk_nil, slotL, go_sem]) ?_
            refine chain_load (.slice fa m fc) _ _ _ (fun _ _ => Below.refl _ _) rfl rfl (by kernel_rfl) (by kernel_rfl) rfl (fun w1 hC => load_slq ((HK.out.below (show Below wr.heap.size wr w1 from old_end (Below.refl _ _) hC (Nat.le_refl _))).cell rfl)) ?_
            refine chain_move (.int .i64 f) _ (fun _ _ => Below.refl _ _) rfl rfl (by kernel_rfl) (by kernel_rfl) rfl ?_
            refine chain_move (.int .i64 k) _ (fun _ _ => Below.refl _ _) rfl rfl (by kernel_rfl) (by kernel_rfl) rfl ?_
            refine chain_call (tieV ⟨f, k, 2, 1, 0⟩) 25 [.int .i64 f, .int .i64 k, .int .i64 2] _ _ (enters_of Tryz.func25 (by kernel_rfl) rfl) rfl rfl rfl (by kernel_rfl) (by kernel_rfl) rfl rfl (fun w1 hC => further_any _ _ _ w1) ?_
            refine chain_new (tieW ⟨f, k, 2, 1, 0⟩) (tieW_lasts _) rfl (by intro cs b h; cases h) (by kernel_rfl) (by kernel_rfl) (fun w1 hC => tieW_new (by simp [execOp, evE, lk_cons, lk_nil, slotL, go_sem, Instr.buildSlice, tieV]) hC) ?_
            refine chain_end (by rfl) ?_
            intro xs w1 hCw1 hrew1
            simp only [layE, List.foldr_cons, List.foldr_nil, List.set_cons_succ, List.set_cons_zero]
            have HY : Hid (Below wr.heap.size wr w1) := old_end (Below.refl _ _) hCw1 (Nat.le_refl _)
            obtain ⟨b9, hb9, hc9⟩ := hrew1 50 _ rfl
            simp only [hb9]
            have HC9 := Lib.hid hc9
            clear hCw1 hrew1 hb9 hc9
            have HO1 := Lib.hid (own_below HO.out HY.out)
            have HK1 := Lib.hid (HK.out.below HY.out)
            have HL1 := Lib.hid (H.out.lst.below HY.out)
            have HD1 : Hid (Below w.heap.size w w1 ∧ b26 + 1 ≤ w1.heap.size) := by
              have h1 := H.out.old
              have h2 := HY.out.size
              have h3 := HZ.out
              exact ⟨h1.trans (HY.out.mono h1.size), by omega⟩
            clear HO HK HY
            go_wp2_with (at_builtin; go_loud (refine wpList_append_own _ rfl _ _ 30 rfl (b26 + 1) 53 i0 (.agg #[.int .i64 0, .int .i64 0, .int .i64 0, .int .i64 0, .int .i64 0]) 5 40 Tryz.underlying30 hi0 hz0 hz1 hz2 rfl (by decide) (.slice fa m fc) m (tvL (pre ++ jT l k)) rfl HO1.out ⟨b9, 0, none⟩ 1 1 (tvC ⟨f, k, 2, 1, 0⟩) rfl rfl (tie_cells HC9.out) (by simp [tvC, Value.oneCell']) (by simp only [maxLen]; have := HM.out; omega) (by have := HM.out; omega) HD1.out.2 ?_; intro v2 w6 hown' hgrow _; obtain ⟨f2, c2, rfl⟩ := own_slice hown'; have K6O := Lib.hid hown'; have K6K : Hid (Blk w6 b7 [.int .i64 n, .slice fa m fc] 32) := HK1.out.block (hgrow.block _ HK1.out.lt (fun e => by have := (World.ownsRow.lt HO1.out _ e.symm).1; have := HB26.out.1; omega)); have K6L : Hid (Blk w6 b26 [.slice a n ca, .slice b n cb] 22) := HL1.out.block (hgrow.block _ HL1.out.lt (fun e => by have := (World.ownsRow.lt HO1.out _ e.symm).1; omega)); have K6W : Hid (Below w.heap.size w w6) := HD1.out.1.grown hgrow HD1.out.1.size (fun q hq => by have := (World.ownsRow.lt HO1.out q hq).1; have := HB26.out.2.1; omega); have K6S : Hid (b26 + 1 ≤ w6.heap.size) := Nat.le_trans HD1.out.2 hgrow.size; clear hown' hgrow; have n1 := K6K.out.cell (i := 1) rfl; have f1 := K6K.out.frozen 1))
            have H7 : Hid (JS w (b26 + 1) b7 b26 n (.slice a n ca) (.slice b n cb) (pre ++ jT l (k + 1)) (w6.setCell ⟨b7, 1, none⟩ (.slice f2 (m + 1) c2)) ∧ b26 + 1 ≤ (w6.setCell ⟨b7, 1, none⟩ (.slice f2 (m + 1) c2)).heap.size) := by
              have e : pre ++ jT l (k + 1) = (pre ++ jT l k) ++ [⟨f, k, 2, 1, 0⟩] := by rw [HST.out, List.append_assoc]
              have hlt7 : b7 < b26 + 1 := by have := HB26.out.1; omega
              refine ⟨⟨⟨_, ?_, K6K.out.set_ 1 _⟩, K6L.out.only ((Only.refl b7 w6).set_ 1 _) (by have := HB26.out.1; omega), K6W.out.setCell ?_ _⟩, ?_⟩
              · rw [e, tvL_snoc, List.length_append, ← HML.out]
                exact ownsRow_setCell_below K6O.out hlt7 _
              · exact HB26.out.2.2
              · have := K6S.out; simpa [World.setCell] using this
            go_roundg (gk - 1)
            case measure => omega
            case rel => exact ⟨k + 1, by omega, by simp, H7.out.1, H7.out.2⟩
          · have HST := Lib.hid (st2 (by omega))
            have t5 : decide (f < k) = false := decide_eq_false hfk
            clear st1 st2
            go_wp2_with (first | (go_at_call 24; refine HIX.out.mono ?_; rintro e w5 ⟨rfl, rfl⟩; clear HIX))
            go_roundg (gk - 1)
            case measure => omega
            case rel => exact ⟨k + 1, by omega, by simp, by rw [HST.out]; exact H, HZ⟩
        · have e : k = n := by omega
          subst e
          have HE : Hid (JS w (b26 + 1) b7 b26 k (.slice a k ca) (.slice b k cb) (TJ (j + 1)) wr) := by rw [HTJ.out]; exact H.out
          have t4 : decide (k < k) = false := decide_eq_false (by omega)
          go_wp2_with fail
          go_roundg G
          case measure => exact HG.out.2
          case rel => exact ⟨j + 1, by have := HG.out; omega, by simp, HE, HZ⟩
    · have e : j = 2 := by omega
      subst e
      obtain ⟨tv, hown, hblk⟩ := H.out.own
      obtain ⟨fa, fc, rfl, hm0, hfi⟩ := own_ties hown
      have HGR := tGroups_any n fa fc (TJ 2) wr (by have := HTL.out 2; omega) hfi
      have e1 : errG n (TJ 2) = 0 := by unfold errG; rw [HOKG.out]; rfl
      rw [HOKG.out, e1] at HGR
      simp only [if_true, Int.toNat_natCast, grpL_len] at HGR
      have HNM : Hid (∀ W r c, IntsAt W r (grpL n (TJ 2)) → Calls Tryz.prog 27 #[.slice r n c] W fun e w' => ∃ b, e = .returned (.slice (some ⟨b, 0, none⟩) n n) ∧ IntsAt w' (some ⟨b, 0, none⟩) R ∧ Below W.heap.size W w') := fun W r c hi => by
        have := normal_any r c (grpL n (TJ 2)) W (by rw [grpL_len]; omega) hi
        rw [grpL_len, ← HRR.out] at this
        exact this
      obtain ⟨m, hm⟩ : ∃ m, m = (TJ 2).length := ⟨_, rfl⟩
      rw [← hm] at hblk HGR
      have d0 := hblk.cell (i := 0) rfl
      have d1 := hblk.cell (i := 1) rfl
      simp only [gV] at HGR
      have HGR2 := Lib.hid HGR
      have HOLD := Lib.hid H.out.old
      clear hown hblk hm0 hfi hm HGR e1 HSTEP
      have t3 : decide ((2 : Nat) < 2) = false := rfl
      go_wp2_with (first | (go_at_call 26; refine HGR2.out.mono ?_; rintro e w2 ⟨r9, c9, rfl, hi, hb⟩; have HI2 := Lib.hid hi; have HB2 := Lib.hid (HOLD.out.trans (hb.mono HOLD.out.size)); clear hi hb HGR2) | (go_at_call 27; refine (HNM.out _ _ _ HI2.out).mono ?_; rintro e w3 ⟨b8, rfl, hi, hb⟩; have HI3 := Lib.hid hi; have HB3 := Lib.hid (HB2.out.trans (hb.mono HB2.out.size)); clear hi hb HNM))
      go_ret2
      first | exact ⟨_, ⟨_, rfl⟩, HI3.out, HB3.out⟩ | exact ⟨_, _, rfl, HI3.out, HB3.out⟩
end Go.Proofs.YteojbichibdhjacGreatDoor
