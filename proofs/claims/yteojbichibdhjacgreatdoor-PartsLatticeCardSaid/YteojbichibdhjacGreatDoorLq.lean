/- Layer 6: the specification's Join. -/
import Derived.Test.YteojbichibdhjacGreatDoorLk
namespace Go.Proofs.YteojbichibdhjacGreatDoor
set_option linter.unusedSimpArgs false
set_option linter.unusedVariables false
open Go Go.RowKit

/-- A row whose first cells are these numbers. -/
def OB (W : World) (g : Nat) (l : List Int) : Prop := ∃ cur : Array Value, W.heap[g]? = some (.cells cur 3 (0, 0)) ∧ cur.toList.take l.length = ivL l
theorem OB.lt {W : World} {g : Nat} {l : List Int} (h : OB W g l) : g < W.heap.size := by
  obtain ⟨cur, h1, _⟩ := h
  exact (Array.getElem?_eq_some_iff.1 h1).1
theorem OB.block {W W' : World} {g : Nat} {l : List Int} (h : OB W g l) (e : W'.heap[g]? = W.heap[g]?) : OB W' g l := by
  obtain ⟨cur, h1, h2⟩ := h
  exact ⟨cur, e.trans h1, h2⟩
theorem OB.cell {W : World} {g : Nat} {l : List Int} (h : OB W g l) {i : Nat} {x : Int} (hx : l[i]? = some x) : W.cell? ⟨g, i, none⟩ = some (.int .i64 x) := by
  obtain ⟨cur, h1, h2⟩ := h
  have h5 : (ivL l)[i]? = some (.int .i64 x) := by unfold ivL; rw [List.getElem?_map, hx]; rfl
  rw [← h2, List.getElem?_take] at h5
  split at h5
  · simp only [World.cell?, h1]
    rw [← Array.getElem?_toList]; exact h5
  · cases h5
theorem OB.frozen {W : World} {g : Nat} {l : List Int} (h : OB W g l) (i : Nat) : W.frozen? ⟨g, i, none⟩ = false := by
  obtain ⟨cur, h1, _⟩ := h
  simp [World.frozen?, h1]
theorem OB.set_ {W : World} {g : Nat} {l : List Int} (h : OB W g l) {i : Nat} {u : Int} (hi : i < l.length) : OB (W.setCell ⟨g, i, none⟩ (.int .i64 u)) g (l.set i u) := by
  obtain ⟨cur, h1, h2⟩ := h
  refine ⟨cur.setIfInBounds i (.int .i64 u), by simp [World.setCell, Array.getElem?_modify, h1], ?_⟩
  have e : ivL (l.set i u) = (ivL l).set i (.int .i64 u) := by unfold ivL; rw [List.map_set]
  rw [List.length_set, e, ← h2, Array.toList_setIfInBounds, List.take_set]
theorem OB.ints {W : World} {g : Nat} {l : List Int} (h : OB W g l) : IntsAt W (some ⟨g, 0, none⟩) l := .inr ⟨g, 0, rfl, h.lt, fun i x hi => by rw [Nat.zero_add]; exact h.cell hi⟩
theorem OB.of_own {W : World} {base : Nat} {v : Value} {k : Nat} {l : List Int} (h : W.ownsRow base 3 1 v k (ivL l)) (h0 : 0 < l.length) : ∃ g c, v = .slice (some ⟨g, 0, none⟩) l.length c ∧ base ≤ g ∧ OB W g l := by
  obtain ⟨hl, h⟩ := h
  rw [Nat.mul_one, ivL_len] at hl
  subst hl
  rcases h with ⟨_, h1⟩ | ⟨g, cap, cur, rfl, hg, hb, h1, h2, h3, h4⟩
  · omega
  · rw [Nat.mul_one] at h4
    exact ⟨g, cap, rfl, hg, cur, hb, h4⟩
set_option maxRecDepth 100000 in
set_option maxHeartbeats 8000000 in
theorem rjoin_any (a b : Option Addr) (ca cb : Nat) (la lb : List Int) (w : World) (hla : la.length ≤ 1000) (hlb : lb.length ≤ 1000) (hs : IntsAt w a la) (ht : IntsAt w b lb) :
    Calls Tryz.prog 10 #[.slice a la.length ca, .slice b lb.length cb] w fun e w' => ∃ r c, e = .returned (.tuple #[.slice r (joinR la lb).length c, .int .i64 (errB la lb)]) ∧ IntsAt w' r (joinR la lb) ∧ Below w.heap.size w w' := by
  have HB0 := Lib.hid (rboth_any a b ca cb la lb w hla hlb hs ht)
  have HS := Lib.hid hs
  have HT := Lib.hid ht
  unfold joinR
  rcases errB_split la lb with ⟨he, h1, h2, h3⟩ | ⟨he, _⟩
  case inr =>
    rw [he] at HB0 ⊢
    rw [if_neg (by decide)]
    clear hs ht he
    go_enter Tryz.func10, Tryz.ntmps10
    go_wp2_with (first | (go_at_call 22; refine HB0.out.mono ?_; rintro e w1 ⟨rfl, rfl⟩; clear HB0))
    go_ret2
    first | exact ⟨none, ⟨0, rfl⟩, .inl rfl, Below.refl _ _⟩ | exact ⟨none, 0, rfl, .inl rfl, Below.refl _ _⟩
  case inl =>
  obtain ⟨g1, g2, g3⟩ := okP_nrm h1
  rw [he] at HB0 ⊢
  simp only [if_true]
  obtain ⟨n, hn⟩ : ∃ n, n = la.length := ⟨_, rfl⟩
  rw [← hn] at HB0 h3 g1 g2 hla ⊢
  rw [← h3] at HB0 hlb ⊢
  have HN : Hid (la.length = n ∧ lb.length = n) := ⟨hn.symm, h3.symm⟩
  obtain ⟨L, hL⟩ : ∃ L, L = grpL n (jT la n ++ jT lb n) := ⟨_, rfl⟩
  have HFIN : Hid (∀ l, RoundsN n (JR n la lb) n l → l = L) := fun l h => by rw [hL]; exact h.fin HN.out.1 HN.out.2
  have HLn : Hid (L.length = n) := by rw [Hid, hL, grpL_len]
  have HRL : Hid ((intN (nrmP L).2).length = n) := by rw [Hid, nrm_full]; exact HLn.out
  have HNO : Hid (∀ W f fc, IntsAt W f L → Calls Tryz.prog 23 #[.slice f n fc] W fun e w' => ∃ r c, e = .returned (.slice r n c) ∧ IntsAt w' r (intN (nrmP L).2) ∧ Below W.heap.size W w') := fun W f fc hW => by
    have := rnormal_any f fc L W (by rw [HLn.out]; omega) hW
    rw [HLn.out] at this; exact this
  rw [← hL, HRL.out]
  generalize intN (nrmP L).2 = R at *
  clear hn hs ht he h1 h2 h3 g3 hlb hL
  obtain ⟨i0, hi0, hz0, hz1, hz2⟩ := info_parts infoInt
  go_enter Tryz.func10, Tryz.ntmps10
  go_wp2_with (first | (go_at_call 22; refine HB0.out.mono ?_; rintro e w1 ⟨rfl, rfl⟩; clear HB0))
  go_loopw [7, 8] (fun t7 t8 wr => ∃ k : Nat, k ≤ n ∧ t8 = .int .i64 k ∧ Hid (MS w (intN (List.range n)) k t7 wr)) (fun _ t8 _ => n - (intOf t8).toNat)
  case atStart => exact ⟨0, by omega, rfl, World.ownsRow_nil _ _ _ _, Below.refl _ _⟩
  case round =>
    obtain ⟨k, hk, rfl, H⟩ := hrel
    by_cases hlt : k < n
    · obtain ⟨fa, fc, rfl⟩ := own_slice H.out.own
      have HCK : Hid ((intN (List.range n))[k]? = some (k : Int)) := by rw [Hid, range_get, if_pos hlt]
      have t3 : decide (k < n) = true := decide_eq_true hlt
      go_wp2_with (at_builtin; go_loud (refine wpList_append_own _ rfl _ _ 22 rfl w.heap.size 3 i0 (.int .i64 0) 1 8 Tryz.underlying22 hi0 hz0 hz1 hz2 rfl (by decide) (.slice fa k fc) k (ivL ((intN (List.range n)).take k)) rfl (H.out.own.alloc _) ⟨wr.heap.size, 0, none⟩ 1 1 [.int .i64 k] rfl rfl (cell_one_new _ _ _) (by simp [Value.oneCell']) (by simp only [maxLen]; omega) (by omega) (by have := H.out.old.size; simp; omega) ?_; intro v2 w6 hown' hgrow _; have K6 := Lib.hid ((H.out.below ((Below.refl _ _).alloc (Nat.le_refl _) _)).add HCK.out hown' hgrow); clear hown' hgrow))
      exact ⟨⟨k + 1, by omega, by simp, K6.out⟩, by simp [intOf]; omega⟩
    · have e : n = k := by omega
      subst e
      have t3 : decide (n < n) = false := decide_eq_false (by omega)
      have HLR : Hid ((intN (List.range n)).length = n) := by rw [Hid, intN_len, List.length_range]
      have hown := H.out.own
      rw [List.take_of_length_le (by rw [HLR.out]; exact Nat.le_refl _)] at hown
      obtain ⟨g, gc, rfl, hg, hob⟩ := OB.of_own hown (by rw [HLR.out]; omega)
      rw [HLR.out] at H ⊢
      have HOB := Lib.hid hob
      have HGG : Hid (w.heap.size ≤ g) := hg
      have HRN : Hid (RoundsN n (JR n la lb) 0 (intN (List.range n))) := RoundsN.start _ _
      clear hown hg hob
      generalize intN (List.range n) = l0 at *
      have HL0 : Hid (l0.length = n) := HLR.out
      have HOLD := Lib.hid H.out.old
      clear H HLR
      go_wp2_with fail
      go_loopg [9] n (fun gk t9 wr => ∃ (r : Nat) (l : List Int), r + gk = n ∧ t9 = .int .i64 r ∧ Hid (OB wr g l ∧ Below w.heap.size w wr) ∧ Hid (RoundsN n (JR n la lb) r l))
      case atStart => exact ⟨0, l0, by omega, rfl, ⟨HOB.out, HOLD.out⟩, HRN.out⟩
      case round =>
        obtain ⟨r, l, hrg, rfl, H, HRN⟩ := hrel
        clear HOB HL0 HOLD
        by_cases hrn : r < n
        case neg =>
          have e : n = r := by omega
          subst e
          have HLL : Hid (l = L) := HFIN.out l HRN.out
          have HIL : Hid (IntsAt wr (some ⟨g, 0, none⟩) L) := by rw [← HLL.out]; exact H.out.1.ints
          have t4 : decide ((n : Int) < (n : Int)) = false := decide_eq_false (by omega)
          go_wp2_with (first | (go_at_call 23; refine (HNO.out _ _ _ HIL.out).mono ?_; rintro e w2 ⟨r9, c9, rfl, hi, hb⟩; have HI2 := Lib.hid hi; have HB2 := Lib.hid (H.out.2.trans (hb.mono H.out.2.size)); clear hi hb HNO))
          go_ret2
          first | exact ⟨_, ⟨_, rfl⟩, HI2.out, HB2.out⟩ | exact ⟨_, _, rfl, HI2.out, HB2.out⟩
        case pos =>
        obtain ⟨G, hG⟩ : ∃ G, G = gk - 1 := ⟨_, rfl⟩
        have HG : Hid (r + 1 + G = n ∧ G < gk) := by rw [hG]; exact ⟨by omega, by omega⟩
        clear hG
        have t4 : decide ((r : Int) < (n : Int)) = true := decide_eq_true (by omega)
        have HL0 : Hid (l.length = n) := HRN.out.1.len
        have HRK0 : Hid (RoundK n (JR n la lb) l l 0 0) := RoundK.start HRN.out.1
        obtain ⟨l0, hl0⟩ : ∃ l0, l0 = l := ⟨_, rfl⟩
        rw [← hl0] at H HRN HL0 HRK0
        clear hl0
        go_wp2_with fail
        go_loopg [10] n (fun gk t10 wr => ∃ (i : Nat) (l : List Int), i + gk = n ∧ t10 = .int .i64 i ∧ Hid (OB wr g l ∧ Below w.heap.size w wr) ∧ Hid (RoundK n (JR n la lb) l0 l i 0) ∧ Hid (l.length = n))
        case atStart => exact ⟨0, l0, by omega, rfl, H, HRK0, HL0⟩
        case round =>
          obtain ⟨i, l, hig, rfl, H, HRK, HLL⟩ := hrel
          clear HRK0
          by_cases hin : i < n
          case neg =>
            have e : n = i := by omega
            subst e
            have HRN2 : Hid (RoundsN n (JR n la lb) (r + 1) l) := HRN.out.step HRK.out
            have t5 : decide ((n : Int) < (n : Int)) = false := decide_eq_false (by omega)
            go_wp2_with fail
            go_roundg G
            case measure => exact HG.out.2
            case rel => exact ⟨r + 1, l, HG.out.1, by simp, H, HRN2⟩
          case pos =>
          obtain ⟨G2, hG2⟩ : ∃ G2, G2 = gk - 1 := ⟨_, rfl⟩
          have HG2 : Hid (i + 1 + G2 = n ∧ G2 < gk) := by rw [hG2]; exact ⟨by omega, by omega⟩
          clear hG2
          have t5 : decide ((i : Int) < (n : Int)) = true := decide_eq_true (by omega)
          go_wp2_with fail
          go_loopg [11] n (fun gk t11 wr => ∃ (k : Nat) (l : List Int), k + gk = n ∧ t11 = .int .i64 k ∧ Hid (OB wr g l ∧ Below w.heap.size w wr) ∧ Hid (RoundK n (JR n la lb) l0 l i k) ∧ Hid (l.length = n))
          case atStart => exact ⟨0, l, by omega, rfl, H, HRK, HLL⟩
          case round =>
            obtain ⟨k, l, hkg, rfl, H, HRK, HLL⟩ := hrel
            by_cases hkn : k < n
            case neg =>
              have e : n = k := by omega
              subst e
              have HRK2 : Hid (RoundK n (JR n la lb) l0 l (i + 1) 0) := HRK.out.next JR_in
              have t6 : decide ((n : Int) < (n : Int)) = false := decide_eq_false (by omega)
              go_wp2_with fail
              go_roundg G2
              case measure => exact HG2.out.2
              case rel => exact ⟨i + 1, l, HG2.out.1, by simp, H, HRK2, HLL⟩
            case pos =>
            have t6 : decide ((k : Int) < (n : Int)) = true := decide_eq_true (by omega)
            have hia : i < la.length := by rw [HN.out.1]; exact hin
            have hka : k < la.length := by rw [HN.out.1]; exact hkn
            have hib : i < lb.length := by rw [HN.out.2]; exact hin
            have hkb : k < lb.length := by rw [HN.out.2]; exact hkn
            have hil : i < l.length := by rw [HLL.out]; exact hin
            have hkl : k < l.length := by rw [HLL.out]; exact hkn
            obtain ⟨b1, o1, rfl, l1, c1⟩ := (HS.out.below H.out.2).at hia
            obtain ⟨b1', o1', e1, _, c2⟩ := (HS.out.below H.out.2).at hka
            obtain ⟨b2, o2, rfl, l2, c3⟩ := (HT.out.below H.out.2).at hib
            obtain ⟨b2', o2', e2, _, c4⟩ := (HT.out.below H.out.2).at hkb
            simp only [Option.some.injEq, Addr.mk.injEq, and_true] at e1 e2
            obtain ⟨rfl, rfl⟩ := e1
            obtain ⟨rfl, rfl⟩ := e2
            have G1 := Lib.hid (List.getElem?_eq_getElem hia)
            have G2' := Lib.hid (List.getElem?_eq_getElem hka)
            have G3 := Lib.hid (List.getElem?_eq_getElem hib)
            have G4 := Lib.hid (List.getElem?_eq_getElem hkb)
            have HVI := Lib.hid (List.getElem?_eq_getElem hil)
            have HVK := Lib.hid (List.getElem?_eq_getElem hkl)
            generalize la[i] = xi at *
            generalize la[k] = xk at *
            generalize lb[i] = yi at *
            generalize lb[k] = yk at *
            generalize l[i] = vi at *
            generalize l[k] = vk at *
            obtain ⟨mn, hmn⟩ : ∃ mn, mn = min vi vk := ⟨_, rfl⟩
            have HMN := Lib.hid hmn
            have HC : Hid (∀ W, Old wr.drew W → W.cell? ⟨b1, o1 + i, none⟩ = some (.int .i64 xi) ∧ W.cell? ⟨b1, o1 + k, none⟩ = some (.int .i64 xk) ∧ W.cell? ⟨b2, o2 + i, none⟩ = some (.int .i64 yi) ∧ W.cell? ⟨b2, o2 + k, none⟩ = some (.int .i64 yk)) := fun W h =>
              ⟨by rw [Below.cell h (by exact l1)]; exact c1, by rw [Below.cell h (by exact l1)]; exact c2, by rw [Below.cell h (by exact l2)]; exact c3, by rw [Below.cell h (by exact l2)]; exact c4⟩
            have HLT : Hid (i < n ∧ k < n) := ⟨hin, hkn⟩
            clear hia hka hib hkb hil hkl c1 c2 c3 c4 l1 l2 hmn
            by_cases hx : xi = xk
            · have HQ1 : Hid (true = decide (xi = xk)) := (decide_eq_true hx).symm
              have HJR : Hid (JR n la lb i k) := ⟨HLT.out.1, HLT.out.2, .inl (by rw [G1.out, G2'.out, hx])⟩
              clear hx
              go_upto_region 18 with (fail)
              refine wp_region_old 20 80 (by kernel_rfl) (by kernel_rfl) (by rfl) ?_
              simp only [List.take_succ_cons, List.take_zero, List.drop_succ_cons, List.drop_zero, List.drop_nil]
              refine chain_move (.slice (some ⟨b1, o1, none⟩) n ca) _ (fun _ _ => Below.refl _ _) rfl rfl (by kernel_rfl) (by kernel_rfl) rfl ?_
              refine chain_move (.int .i64 i) _ (fun _ _ => Below.refl _ _) rfl rfl (by kernel_rfl) (by kernel_rfl) rfl ?_
              refine chain_idx (.pointer (some ⟨b1, o1 + i, none⟩)) _ _ _ (.slice (some ⟨b1, o1, none⟩) n ca) (.int .i64 i) (fun _ _ => Below.refl _ _) rfl rfl (by kernel_rfl) (by kernel_rfl) rfl rfl (fun w1 => idx_i64 _ _ _ _ _ HLT.out.1 w1) ?_
              refine chain_load (.int .i64 xi) _ _ _ (fun _ _ => Below.refl _ _) rfl rfl (by kernel_rfl) (by kernel_rfl) rfl (fun w1 hC => load_i64 (HC.out _ hC).1) ?_
              refine chain_move (.slice (some ⟨b1, o1, none⟩) n ca) _ (fun _ _ => Below.refl _ _) rfl rfl (by kernel_rfl) (by kernel_rfl) rfl ?_
              refine chain_move (.int .i64 k) _ (fun _ _ => Below.refl _ _) rfl rfl (by kernel_rfl) (by kernel_rfl) rfl ?_
              refine chain_idx (.pointer (some ⟨b1, o1 + k, none⟩)) _ _ _ (.slice (some ⟨b1, o1, none⟩) n ca) (.int .i64 k) (fun _ _ => Below.refl _ _) rfl rfl (by kernel_rfl) (by kernel_rfl) rfl rfl (fun w1 => idx_i64 _ _ _ _ _ HLT.out.2 w1) ?_
              refine chain_load (.int .i64 xk) _ _ _ (fun _ _ => Below.refl _ _) rfl rfl (by kernel_rfl) (by kernel_rfl) rfl (fun w1 hC => load_i64 (HC.out _ hC).2.1) ?_
              refine chain_bin (.bool true) _ _ _ _ _ (.int .i64 xi) (.int .i64 xk) (fun _ _ => Below.refl _ _) rfl rfl (by kernel_rfl) (by kernel_rfl) rfl rfl (fun w1 => eql_i64 _ _ _ _ _ _ HQ1.out w1) ?_
              refine chain_move (.bool true) _ (fun _ _ => Below.refl _ _) rfl rfl (by kernel_rfl) (by kernel_rfl) rfl ?_
              refine chain_skip rfl (by kernel_rfl) ?_
              refine chain_skip rfl (by kernel_rfl) ?_
              refine chain_skip rfl (by kernel_rfl) ?_
              refine chain_skip rfl (by kernel_rfl) ?_
              refine chain_skip rfl (by kernel_rfl) ?_
              refine chain_skip rfl (by kernel_rfl) ?_
              refine chain_skip rfl (by kernel_rfl) ?_
              refine chain_skip rfl (by kernel_rfl) ?_
              refine chain_skip rfl (by kernel_rfl) ?_
              refine chain_pick (.bool true) _ _ _ true (fun _ _ => Below.refl _ _) rfl rfl (by kernel_rfl) (by kernel_rfl) rfl rfl ?_
              refine chain_end (by rfl) ?_
              intro xs w1 hCw1 hrew1
              simp only [layE, List.foldr_cons, List.foldr_nil, List.set_cons_succ, List.set_cons_zero]
              have HB1 := Lib.hid (H.out.2.trans (show Below _ wr w1 from (old_end (Below.refl wr.heap.size wr) hCw1 (Nat.le_refl _)).mono H.out.2.size))
              have HO1 := Lib.hid (H.out.1.block (Below.block (show Below wr.heap.size wr w1 from old_end (Below.refl _ _) hCw1 (Nat.le_refl _)) _ H.out.1.lt))
              clear hCw1 hrew1 HC
              go_upto_region 19 with (fail)
              have HX2 : Hid (∀ W, Old w1.drew W → OB W g l) := fun W h => HO1.out.block (Below.block (show Below w1.heap.size w1 W from old_end (Below.refl _ _) h (Nat.le_refl _)) _ HO1.out.lt)
              refine wp_region_old 12 80 (by kernel_rfl) (by kernel_rfl) (by rfl) ?_
              simp only [List.take_succ_cons, List.take_zero, List.drop_succ_cons, List.drop_zero, List.drop_nil]
              refine chain_move (.slice (some ⟨g, 0, none⟩) n gc) _ (fun _ _ => Below.refl _ _) rfl rfl (by kernel_rfl) (by kernel_rfl) rfl ?_
              refine chain_move (.int .i64 i) _ (fun _ _ => Below.refl _ _) rfl rfl (by kernel_rfl) (by kernel_rfl) rfl ?_
              refine chain_move (.slice (some ⟨g, 0, none⟩) n gc) _ (fun _ _ => Below.refl _ _) rfl rfl (by kernel_rfl) (by kernel_rfl) rfl ?_
              refine chain_move (.int .i64 i) _ (fun _ _ => Below.refl _ _) rfl rfl (by kernel_rfl) (by kernel_rfl) rfl ?_
              refine chain_idx (.pointer (some ⟨g, 0 + i, none⟩)) _ _ _ (.slice (some ⟨g, 0, none⟩) n gc) (.int .i64 i) (fun _ _ => Below.refl _ _) rfl rfl (by kernel_rfl) (by kernel_rfl) rfl rfl (fun w1 => idx_i64 _ _ _ _ _ HLT.out.1 w1) ?_
              refine chain_load (.int .i64 vi) _ _ _ (fun _ _ => Below.refl _ _) rfl rfl (by kernel_rfl) (by kernel_rfl) rfl (fun w1 hC => load_i64 (by rw [Nat.zero_add]; exact (HX2.out _ hC).cell HVI.out)) ?_
              refine chain_move (.slice (some ⟨g, 0, none⟩) n gc) _ (fun _ _ => Below.refl _ _) rfl rfl (by kernel_rfl) (by kernel_rfl) rfl ?_
              refine chain_move (.int .i64 k) _ (fun _ _ => Below.refl _ _) rfl rfl (by kernel_rfl) (by kernel_rfl) rfl ?_
              refine chain_idx (.pointer (some ⟨g, 0 + k, none⟩)) _ _ _ (.slice (some ⟨g, 0, none⟩) n gc) (.int .i64 k) (fun _ _ => Below.refl _ _) rfl rfl (by kernel_rfl) (by kernel_rfl) rfl rfl (fun w1 => idx_i64 _ _ _ _ _ HLT.out.2 w1) ?_
              refine chain_load (.int .i64 vk) _ _ _ (fun _ _ => Below.refl _ _) rfl rfl (by kernel_rfl) (by kernel_rfl) rfl (fun w1 hC => load_i64 (by rw [Nat.zero_add]; exact (HX2.out _ hC).cell HVK.out)) ?_
              refine chain_val (.int .i64 mn) (fun _ _ => Below.refl _ _) rfl (by intro cs b h; cases h) (by kernel_rfl) (by kernel_rfl) (fun w1 _ => by simp [execOp, evE, lk_cons, lk_nil, slotL, go_sem, HMN.out, min_if]) ?_
              refine chain_idx (.pointer (some ⟨g, 0 + i, none⟩)) _ _ _ (.slice (some ⟨g, 0, none⟩) n gc) (.int .i64 i) (fun _ _ => Below.refl _ _) rfl rfl (by kernel_rfl) (by kernel_rfl) rfl rfl (fun w1 => idx_i64 _ _ _ _ _ HLT.out.1 w1) ?_
              refine chain_end (by rfl) ?_
              intro xs w2 hCw2 hrew2
              simp only [layE, List.foldr_cons, List.foldr_nil, List.set_cons_succ, List.set_cons_zero]
              have HB2 := Lib.hid (HB1.out.trans ((old_end (Below.refl w1.heap.size w1) hCw2 (Nat.le_refl _)).mono HB1.out.size))
              have HO2 := Lib.hid (HX2.out w2 hCw2)
              clear hCw2 hrew2 HX2 HO1 HB1
              have n0 := HO2.out.cell HVI.out
              have f0 := HO2.out.frozen i
              have q1 : i < n := HLT.out.1
              go_wp2_with fail
              go_roundg (gk - 1)
              case measure => omega
              case rel => exact ⟨k + 1, l.set i mn, by omega, by simp, ⟨HO2.out.set_ (by rw [HLL.out]; exact HLT.out.1), HB2.out.setCell HGG.out _⟩, by rw [HMN.out]; exact HRK.out.put HL0.out HJR.out HVI.out HVK.out, by rw [Hid, List.length_set]; exact HLL.out⟩
            · by_cases hy : yi = yk
              · have HQ1 : Hid (false = decide (xi = xk)) := (decide_eq_false hx).symm
                have HQ2 : Hid (true = decide (yi = yk)) := (decide_eq_true hy).symm
                have HJR : Hid (JR n la lb i k) := ⟨HLT.out.1, HLT.out.2, .inr (by rw [G3.out, G4.out, hy])⟩
                clear hx hy
                go_upto_region 18 with (fail)
                refine wp_region_old 20 80 (by kernel_rfl) (by kernel_rfl) (by rfl) ?_
                simp only [List.take_succ_cons, List.take_zero, List.drop_succ_cons, List.drop_zero, List.drop_nil]
                refine chain_move (.slice (some ⟨b1, o1, none⟩) n ca) _ (fun _ _ => Below.refl _ _) rfl rfl (by kernel_rfl) (by kernel_rfl) rfl ?_
                refine chain_move (.int .i64 i) _ (fun _ _ => Below.refl _ _) rfl rfl (by kernel_rfl) (by kernel_rfl) rfl ?_
                refine chain_idx (.pointer (some ⟨b1, o1 + i, none⟩)) _ _ _ (.slice (some ⟨b1, o1, none⟩) n ca) (.int .i64 i) (fun _ _ => Below.refl _ _) rfl rfl (by kernel_rfl) (by kernel_rfl) rfl rfl (fun w1 => idx_i64 _ _ _ _ _ HLT.out.1 w1) ?_
                refine chain_load (.int .i64 xi) _ _ _ (fun _ _ => Below.refl _ _) rfl rfl (by kernel_rfl) (by kernel_rfl) rfl (fun w1 hC => load_i64 (HC.out _ hC).1) ?_
                refine chain_move (.slice (some ⟨b1, o1, none⟩) n ca) _ (fun _ _ => Below.refl _ _) rfl rfl (by kernel_rfl) (by kernel_rfl) rfl ?_
                refine chain_move (.int .i64 k) _ (fun _ _ => Below.refl _ _) rfl rfl (by kernel_rfl) (by kernel_rfl) rfl ?_
                refine chain_idx (.pointer (some ⟨b1, o1 + k, none⟩)) _ _ _ (.slice (some ⟨b1, o1, none⟩) n ca) (.int .i64 k) (fun _ _ => Below.refl _ _) rfl rfl (by kernel_rfl) (by kernel_rfl) rfl rfl (fun w1 => idx_i64 _ _ _ _ _ HLT.out.2 w1) ?_
                refine chain_load (.int .i64 xk) _ _ _ (fun _ _ => Below.refl _ _) rfl rfl (by kernel_rfl) (by kernel_rfl) rfl (fun w1 hC => load_i64 (HC.out _ hC).2.1) ?_
                refine chain_bin (.bool false) _ _ _ _ _ (.int .i64 xi) (.int .i64 xk) (fun _ _ => Below.refl _ _) rfl rfl (by kernel_rfl) (by kernel_rfl) rfl rfl (fun w1 => eql_i64 _ _ _ _ _ _ HQ1.out w1) ?_
                refine chain_move (.bool false) _ (fun _ _ => Below.refl _ _) rfl rfl (by kernel_rfl) (by kernel_rfl) rfl ?_
                refine chain_move (.slice (some ⟨b2, o2, none⟩) n cb) _ (fun _ _ => Below.refl _ _) rfl rfl (by kernel_rfl) (by kernel_rfl) rfl ?_
                refine chain_move (.int .i64 i) _ (fun _ _ => Below.refl _ _) rfl rfl (by kernel_rfl) (by kernel_rfl) rfl ?_
                refine chain_idx (.pointer (some ⟨b2, o2 + i, none⟩)) _ _ _ (.slice (some ⟨b2, o2, none⟩) n cb) (.int .i64 i) (fun _ _ => Below.refl _ _) rfl rfl (by kernel_rfl) (by kernel_rfl) rfl rfl (fun w1 => idx_i64 _ _ _ _ _ HLT.out.1 w1) ?_
                refine chain_load (.int .i64 yi) _ _ _ (fun _ _ => Below.refl _ _) rfl rfl (by kernel_rfl) (by kernel_rfl) rfl (fun w1 hC => load_i64 (HC.out _ hC).2.2.1) ?_
                refine chain_move (.slice (some ⟨b2, o2, none⟩) n cb) _ (fun _ _ => Below.refl _ _) rfl rfl (by kernel_rfl) (by kernel_rfl) rfl ?_
                refine chain_move (.int .i64 k) _ (fun _ _ => Below.refl _ _) rfl rfl (by kernel_rfl) (by kernel_rfl) rfl ?_
                refine chain_idx (.pointer (some ⟨b2, o2 + k, none⟩)) _ _ _ (.slice (some ⟨b2, o2, none⟩) n cb) (.int .i64 k) (fun _ _ => Below.refl _ _) rfl rfl (by kernel_rfl) (by kernel_rfl) rfl rfl (fun w1 => idx_i64 _ _ _ _ _ HLT.out.2 w1) ?_
                refine chain_load (.int .i64 yk) _ _ _ (fun _ _ => Below.refl _ _) rfl rfl (by kernel_rfl) (by kernel_rfl) rfl (fun w1 hC => load_i64 (HC.out _ hC).2.2.2) ?_
                refine chain_bin (.bool true) _ _ _ _ _ (.int .i64 yi) (.int .i64 yk) (fun _ _ => Below.refl _ _) rfl rfl (by kernel_rfl) (by kernel_rfl) rfl rfl (fun w1 => eql_i64 _ _ _ _ _ _ HQ2.out w1) ?_
                refine chain_pick (.bool true) _ _ _ false (fun _ _ => Below.refl _ _) rfl rfl (by kernel_rfl) (by kernel_rfl) rfl rfl ?_
                refine chain_end (by rfl) ?_
                intro xs w1 hCw1 hrew1
                simp only [layE, List.foldr_cons, List.foldr_nil, List.set_cons_succ, List.set_cons_zero]
                have HB1 := Lib.hid (H.out.2.trans (show Below _ wr w1 from (old_end (Below.refl wr.heap.size wr) hCw1 (Nat.le_refl _)).mono H.out.2.size))
                have HO1 := Lib.hid (H.out.1.block (Below.block (show Below wr.heap.size wr w1 from old_end (Below.refl _ _) hCw1 (Nat.le_refl _)) _ H.out.1.lt))
                clear hCw1 hrew1 HC
                go_upto_region 19 with (fail)
                have HX2 : Hid (∀ W, Old w1.drew W → OB W g l) := fun W h => HO1.out.block (Below.block (show Below w1.heap.size w1 W from old_end (Below.refl _ _) h (Nat.le_refl _)) _ HO1.out.lt)
                refine wp_region_old 12 80 (by kernel_rfl) (by kernel_rfl) (by rfl) ?_
                simp only [List.take_succ_cons, List.take_zero, List.drop_succ_cons, List.drop_zero, List.drop_nil]
                refine chain_move (.slice (some ⟨g, 0, none⟩) n gc) _ (fun _ _ => Below.refl _ _) rfl rfl (by kernel_rfl) (by kernel_rfl) rfl ?_
                refine chain_move (.int .i64 i) _ (fun _ _ => Below.refl _ _) rfl rfl (by kernel_rfl) (by kernel_rfl) rfl ?_
                refine chain_move (.slice (some ⟨g, 0, none⟩) n gc) _ (fun _ _ => Below.refl _ _) rfl rfl (by kernel_rfl) (by kernel_rfl) rfl ?_
                refine chain_move (.int .i64 i) _ (fun _ _ => Below.refl _ _) rfl rfl (by kernel_rfl) (by kernel_rfl) rfl ?_
                refine chain_idx (.pointer (some ⟨g, 0 + i, none⟩)) _ _ _ (.slice (some ⟨g, 0, none⟩) n gc) (.int .i64 i) (fun _ _ => Below.refl _ _) rfl rfl (by kernel_rfl) (by kernel_rfl) rfl rfl (fun w1 => idx_i64 _ _ _ _ _ HLT.out.1 w1) ?_
                refine chain_load (.int .i64 vi) _ _ _ (fun _ _ => Below.refl _ _) rfl rfl (by kernel_rfl) (by kernel_rfl) rfl (fun w1 hC => load_i64 (by rw [Nat.zero_add]; exact (HX2.out _ hC).cell HVI.out)) ?_
                refine chain_move (.slice (some ⟨g, 0, none⟩) n gc) _ (fun _ _ => Below.refl _ _) rfl rfl (by kernel_rfl) (by kernel_rfl) rfl ?_
                refine chain_move (.int .i64 k) _ (fun _ _ => Below.refl _ _) rfl rfl (by kernel_rfl) (by kernel_rfl) rfl ?_
                refine chain_idx (.pointer (some ⟨g, 0 + k, none⟩)) _ _ _ (.slice (some ⟨g, 0, none⟩) n gc) (.int .i64 k) (fun _ _ => Below.refl _ _) rfl rfl (by kernel_rfl) (by kernel_rfl) rfl rfl (fun w1 => idx_i64 _ _ _ _ _ HLT.out.2 w1) ?_
                refine chain_load (.int .i64 vk) _ _ _ (fun _ _ => Below.refl _ _) rfl rfl (by kernel_rfl) (by kernel_rfl) rfl (fun w1 hC => load_i64 (by rw [Nat.zero_add]; exact (HX2.out _ hC).cell HVK.out)) ?_
                refine chain_val (.int .i64 mn) (fun _ _ => Below.refl _ _) rfl (by intro cs b h; cases h) (by kernel_rfl) (by kernel_rfl) (fun w1 _ => by simp [execOp, evE, lk_cons, lk_nil, slotL, go_sem, HMN.out, min_if]) ?_
                refine chain_idx (.pointer (some ⟨g, 0 + i, none⟩)) _ _ _ (.slice (some ⟨g, 0, none⟩) n gc) (.int .i64 i) (fun _ _ => Below.refl _ _) rfl rfl (by kernel_rfl) (by kernel_rfl) rfl rfl (fun w1 => idx_i64 _ _ _ _ _ HLT.out.1 w1) ?_
                refine chain_end (by rfl) ?_
                intro xs w2 hCw2 hrew2
                simp only [layE, List.foldr_cons, List.foldr_nil, List.set_cons_succ, List.set_cons_zero]
                have HB2 := Lib.hid (HB1.out.trans ((old_end (Below.refl w1.heap.size w1) hCw2 (Nat.le_refl _)).mono HB1.out.size))
                have HO2 := Lib.hid (HX2.out w2 hCw2)
                clear hCw2 hrew2 HX2 HO1 HB1
                have n0 := HO2.out.cell HVI.out
                have f0 := HO2.out.frozen i
                have q1 : i < n := HLT.out.1
                go_wp2_with fail
                go_roundg (gk - 1)
                case measure => omega
                case rel => exact ⟨k + 1, l.set i mn, by omega, by simp, ⟨HO2.out.set_ (by rw [HLL.out]; exact HLT.out.1), HB2.out.setCell HGG.out _⟩, by rw [HMN.out]; exact HRK.out.put HL0.out HJR.out HVI.out HVK.out, by rw [Hid, List.length_set]; exact HLL.out⟩
              · have HQ1 : Hid (false = decide (xi = xk)) := (decide_eq_false hx).symm
                have HQ2 : Hid (false = decide (yi = yk)) := (decide_eq_false hy).symm
                have HJR : Hid (¬ JR n la lb i k) := fun h => by
                  rcases h.2.2 with h | h
                  · rw [G1.out, G2'.out] at h; injection h with h; exact hx h
                  · rw [G3.out, G4.out] at h; injection h with h; exact hy h
                clear hx hy
                go_upto_region 18 with (fail)
                refine wp_region_old 20 80 (by kernel_rfl) (by kernel_rfl) (by rfl) ?_
                simp only [List.take_succ_cons, List.take_zero, List.drop_succ_cons, List.drop_zero, List.drop_nil]
                refine chain_move (.slice (some ⟨b1, o1, none⟩) n ca) _ (fun _ _ => Below.refl _ _) rfl rfl (by kernel_rfl) (by kernel_rfl) rfl ?_
                refine chain_move (.int .i64 i) _ (fun _ _ => Below.refl _ _) rfl rfl (by kernel_rfl) (by kernel_rfl) rfl ?_
                refine chain_idx (.pointer (some ⟨b1, o1 + i, none⟩)) _ _ _ (.slice (some ⟨b1, o1, none⟩) n ca) (.int .i64 i) (fun _ _ => Below.refl _ _) rfl rfl (by kernel_rfl) (by kernel_rfl) rfl rfl (fun w1 => idx_i64 _ _ _ _ _ HLT.out.1 w1) ?_
                refine chain_load (.int .i64 xi) _ _ _ (fun _ _ => Below.refl _ _) rfl rfl (by kernel_rfl) (by kernel_rfl) rfl (fun w1 hC => load_i64 (HC.out _ hC).1) ?_
                refine chain_move (.slice (some ⟨b1, o1, none⟩) n ca) _ (fun _ _ => Below.refl _ _) rfl rfl (by kernel_rfl) (by kernel_rfl) rfl ?_
                refine chain_move (.int .i64 k) _ (fun _ _ => Below.refl _ _) rfl rfl (by kernel_rfl) (by kernel_rfl) rfl ?_
                refine chain_idx (.pointer (some ⟨b1, o1 + k, none⟩)) _ _ _ (.slice (some ⟨b1, o1, none⟩) n ca) (.int .i64 k) (fun _ _ => Below.refl _ _) rfl rfl (by kernel_rfl) (by kernel_rfl) rfl rfl (fun w1 => idx_i64 _ _ _ _ _ HLT.out.2 w1) ?_
                refine chain_load (.int .i64 xk) _ _ _ (fun _ _ => Below.refl _ _) rfl rfl (by kernel_rfl) (by kernel_rfl) rfl (fun w1 hC => load_i64 (HC.out _ hC).2.1) ?_
                refine chain_bin (.bool false) _ _ _ _ _ (.int .i64 xi) (.int .i64 xk) (fun _ _ => Below.refl _ _) rfl rfl (by kernel_rfl) (by kernel_rfl) rfl rfl (fun w1 => eql_i64 _ _ _ _ _ _ HQ1.out w1) ?_
                refine chain_move (.bool false) _ (fun _ _ => Below.refl _ _) rfl rfl (by kernel_rfl) (by kernel_rfl) rfl ?_
                refine chain_move (.slice (some ⟨b2, o2, none⟩) n cb) _ (fun _ _ => Below.refl _ _) rfl rfl (by kernel_rfl) (by kernel_rfl) rfl ?_
                refine chain_move (.int .i64 i) _ (fun _ _ => Below.refl _ _) rfl rfl (by kernel_rfl) (by kernel_rfl) rfl ?_
                refine chain_idx (.pointer (some ⟨b2, o2 + i, none⟩)) _ _ _ (.slice (some ⟨b2, o2, none⟩) n cb) (.int .i64 i) (fun _ _ => Below.refl _ _) rfl rfl (by kernel_rfl) (by kernel_rfl) rfl rfl (fun w1 => idx_i64 _ _ _ _ _ HLT.out.1 w1) ?_
                refine chain_load (.int .i64 yi) _ _ _ (fun _ _ => Below.refl _ _) rfl rfl (by kernel_rfl) (by kernel_rfl) rfl (fun w1 hC => load_i64 (HC.out _ hC).2.2.1) ?_
                refine chain_move (.slice (some ⟨b2, o2, none⟩) n cb) _ (fun _ _ => Below.refl _ _) rfl rfl (by kernel_rfl) (by kernel_rfl) rfl ?_
                refine chain_move (.int .i64 k) _ (fun _ _ => Below.refl _ _) rfl rfl (by kernel_rfl) (by kernel_rfl) rfl ?_
                refine chain_idx (.pointer (some ⟨b2, o2 + k, none⟩)) _ _ _ (.slice (some ⟨b2, o2, none⟩) n cb) (.int .i64 k) (fun _ _ => Below.refl _ _) rfl rfl (by kernel_rfl) (by kernel_rfl) rfl rfl (fun w1 => idx_i64 _ _ _ _ _ HLT.out.2 w1) ?_
                refine chain_load (.int .i64 yk) _ _ _ (fun _ _ => Below.refl _ _) rfl rfl (by kernel_rfl) (by kernel_rfl) rfl (fun w1 hC => load_i64 (HC.out _ hC).2.2.2) ?_
                refine chain_bin (.bool false) _ _ _ _ _ (.int .i64 yi) (.int .i64 yk) (fun _ _ => Below.refl _ _) rfl rfl (by kernel_rfl) (by kernel_rfl) rfl rfl (fun w1 => eql_i64 _ _ _ _ _ _ HQ2.out w1) ?_
                refine chain_pick (.bool false) _ _ _ false (fun _ _ => Below.refl _ _) rfl rfl (by kernel_rfl) (by kernel_rfl) rfl rfl ?_
                refine chain_end (by rfl) ?_
                intro xs w1 hCw1 hrew1
                simp only [layE, List.foldr_cons, List.foldr_nil, List.set_cons_succ, List.set_cons_zero]
                have HB1 := Lib.hid (H.out.2.trans (show Below _ wr w1 from (old_end (Below.refl wr.heap.size wr) hCw1 (Nat.le_refl _)).mono H.out.2.size))
                have HO1 := Lib.hid (H.out.1.block (Below.block (show Below wr.heap.size wr w1 from old_end (Below.refl _ _) hCw1 (Nat.le_refl _)) _ H.out.1.lt))
                clear hCw1 hrew1 HC
                go_wp2_with fail
                go_roundg (gk - 1)
                case measure => omega
                case rel => exact ⟨k + 1, l, by omega, by simp, ⟨HO1.out, HB1.out⟩, HRK.out.skip HJR.out, HLL⟩
end Go.Proofs.YteojbichibdhjacGreatDoor
