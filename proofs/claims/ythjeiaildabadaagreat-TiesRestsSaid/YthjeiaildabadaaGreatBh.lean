/- Layer 4: Bridges. -/
import Derived.Test.YthjeiaildabadaaGreatKa
namespace Go.Proofs.YthjeiaildabadaaGreat
set_option linter.unusedSimpArgs false
set_option linter.unusedVariables false
open Go Go.RowKit

/-- Whether the tie with an index is a bridge. -/
def brB (k : Nat) (ts : List TieD) (i : Nat) : Bool := match ts[i]? with
  | some t => t.kind == 2 && !(atI (grpL k (ts.eraseIdx i)) t.a == atI (grpL k (ts.eraseIdx i)) t.b)
  | none => false
def brL (k : Nat) (ts : List TieD) (j : Nat) : List Int := ((List.range j).filter (brB k ts)).map fun (i : Nat) => (i : Int)
theorem brL_step (k : Nat) (ts : List TieD) (j : Nat) : (brB k ts j = true → brL k ts (j + 1) = brL k ts j ++ [(j : Int)]) ∧ (brB k ts j = false → brL k ts (j + 1) = brL k ts j) := by
  unfold brL
  rw [List.range_succ, List.filter_append, List.map_append]
  refine ⟨fun h => by simp [h], fun h => by simp [h]⟩
theorem brL_len (k : Nat) (ts : List TieD) (j : Nat) : (brL k ts j).length ≤ j := by
  unfold brL
  rw [List.length_map]
  have := List.length_filter_le (brB k ts) (List.range j)
  rwa [List.length_range] at this
theorem brB_at {k : Nat} {ts : List TieD} {i : Nat} (hi : i < ts.length) : brB k ts i = (ts[i].kind == 2 && !(atI (grpL k (ts.eraseIdx i)) ts[i].a == atI (grpL k (ts.eraseIdx i)) ts[i].b)) := by
  unfold brB; rw [List.getElem?_eq_getElem hi]
theorem mem_eras {ts : List TieD} {i : Nat} {t : TieD} (h : t ∈ ts.eraseIdx i) : t ∈ ts := List.mem_of_mem_eraseIdx h
theorem take_eras {ts : List TieD} {i : Nat} (t : TieD) (h : t ∈ ts.take i) : t ∈ ts.eraseIdx i := by
  rw [List.eraseIdx_eq_take_drop_succ]; exact List.mem_append_left _ h
/-- Joined by the joins before it: no bridge. -/
theorem brB_before {k : Nat} {ts : List TieD} {i : Nat} (hv : ∀ t ∈ ts, tieB t k = true) (hi : i < ts.length) (h : (atI (grpL k (ts.take i)) ts[i].a == atI (grpL k (ts.take i)) ts[i].b) = true) : brB k ts i = false := by
  rw [brB_at hi]
  obtain ⟨_, _, _, _, ha, hb⟩ := tieB_in (hv ts[i] (List.getElem_mem hi))
  have h1 := grp_sub (fun t ht => hv t (List.mem_of_mem_take ht)) (fun t ht => hv t (mem_eras ht)) take_eras ha hb (beq_iff_eq.1 h)
  rw [h1]; simp
set_option maxRecDepth 100000 in
set_option maxHeartbeats 8000000 in
theorem bridges_any (n : Int) (a : Option Addr) (cap : Nat) (ts : List TieD) (w : World) (hok : okG n ts = true) (hcap : ts.length ≤ cap) (hs : TiesAt w a ts) :
    Calls Tryz.prog 12 #[gV n a ts.length cap] w fun e w' => ∃ r c, e = .returned (.tuple #[.slice r (brL n.toNat ts ts.length).length c, .int .i64 0]) ∧ IntsAt w' r (brL n.toNat ts ts.length) ∧ Below w.heap.size w w' := by
  obtain ⟨K, rfl, hk1, hk2, hl, hv⟩ := okG_parts hok
  rw [Int.toNat_natCast]
  have HS := Lib.hid hs
  have HV := Lib.hid hv
  have HC : Hid (∀ W, Below w.heap.size w W → Calls Tryz.prog 24 #[gV K a ts.length cap] W fun e w' => e = .returned (.int .i64 0) ∧ Below W.heap.size W w') := fun W hb => by
    have h := tCheck_any K a cap ts W (by omega) (hs.below hb)
    unfold errG at h; rw [hok] at h; exact h
  have HLO : Hid (∀ i W, i < ts.length → Below w.heap.size w W → Calls Tryz.prog 44 #[gV K a ts.length cap, .int .i64 (i : Int)] W fun e w' => ∃ a' c', e = .returned (gV K a' (ts.eraseIdx i).length c') ∧ TiesAt w' a' (ts.eraseIdx i) ∧ Below W.heap.size W w') := fun i W hi hb => leftOut_any K a cap i ts W hi hcap (by omega) (hs.below hb)
  have HBE : Hid (∀ i W a' c', TiesAt W a' (ts.eraseIdx i) → Calls Tryz.prog 43 #[gV K a' (ts.eraseIdx i).length c'] W fun e w' => ∃ g, e = .returned (wkV K a' (ts.eraseIdx i).length c' g K) ∧ W.heap.size ≤ g ∧ NB w' g (grpL K (ts.eraseIdx i)) ∧ Below W.heap.size W w') := fun i W a' c' hT => begin_any K a' c' (ts.eraseIdx i) W hk2 (by have := List.length_eraseIdx_le ts i; omega) (fun t ht => hv t (mem_eras ht)) hT
  obtain ⟨m, hm⟩ : ∃ m, m = ts.length := ⟨_, rfl⟩
  have HM := Lib.hid hm
  rw [← hm] at hl hcap HC HLO ⊢
  have HK2 : Hid (K ≤ 32) := hk2
  have HB0 : Hid (Below w.heap.size w (w.alloc (.cells #[.int .i64 K, .slice a m cap] 24))) := (Below.refl _ _).alloc (Nat.le_refl _) _
  have HK0 := Lib.hid (Blk.new w [.int .i64 K, .slice a m cap] 24)
  have hB : (brL K ts m).length ≤ 1000 := by have := brL_len K ts m; omega
  clear hs hv hok hm hk1 hk2
  simp only [gV] at HC HLO HBE ⊢
  go_enter Tryz.func12, Tryz.ntmps12
  go_upto_region 5 with (first | (go_at_call 24; refine (HC.out _ HB0.out).mono ?_; rintro e w1 ⟨rfl, hb⟩; clear HC; have HK1 := Lib.hid (HK0.out.below hb); have HB1 := Lib.hid (HB0.out.trans (hb.mono HB0.out.size)); clear hb HB0 HK0; have c0 := HK1.out.cell (i := 0) rfl; have c1 := HK1.out.cell (i := 1) rfl))
  go_upto_region 6 with (first | (go_at_call 40; go_loud (refine (single_any K _ (by have := HK2.out; omega)).mono ?_; rintro e w2 ⟨rfl, hnb, hb, hsz⟩; clear c0 c1; have HG := Lib.hid hnb; have HGB : Hid (w.heap.size < w1.heap.size ∧ w1.heap.size < w2.heap.size) := ⟨HK1.out.lt, hnb.lt⟩; replace HK1 := Lib.hid (HK1.out.below hb); replace HB1 := Lib.hid (HB1.out.trans (hb.mono HB1.out.size)); clear hnb hb hsz)))
  generalize hb1 : w.heap.size = b1 at HK1 HGB ⊢
  generalize hg : w1.heap.size = g at HG HGB ⊢
  have HBB : Hid (w.heap.size = b1) := hb1
  clear hb1 hg
  have c1 := HK1.out.cell (i := 1) rfl
  have HO0 : Hid (w2.ownsRow (g + 1) 3 1 (.slice none 0 0) (brL K ts 0).length (ivL (brL K ts 0))) := World.ownsRow_nil _ _ _ _
  have HG0 : Hid (NB w2 g (grpL K (ts.take 0))) := HG.out
  go_wp2_with fail
  clear c1 HG
  go_loopg [5, 20] m (fun gk t5 t20 wr => ∃ k : Nat, k + gk = m ∧ t20 = .int .i64 k ∧ Hid (wr.ownsRow (g + 1) 3 1 t5 (brL K ts k).length (ivL (brL K ts k))) ∧ Hid (NB wr g (grpL K (ts.take k))) ∧ Hid (Blk wr b1 [.int .i64 K, .slice a m cap] 24) ∧ Hid (Below w.heap.size w wr))
  case atStart => exact ⟨0, by omega, rfl, HO0, HG0, HK1, HB1⟩
  case round =>
    clear HO0 HG0 HK1 HB1
    obtain ⟨k, hkg, rfl, HO, HG, HK, HB⟩ := hrel
    obtain ⟨fa, fc, rfl⟩ := own_slice HO.out
    by_cases hlt : k < m
    · have hkl : k < ts.length := by rw [← HM.out]; exact hlt
      obtain ⟨lb, lo, rfl, hlb, x0, x1, x2, x3, x4⟩ := (HS.out.below HB.out).at hkl
      have t1 : decide (k < m) = true := decide_eq_true hlt
      have HGS := Lib.hid (grpL_step K ts k hkl)
      have HBA := Lib.hid (brB_at (k := K) hkl)
      have HBF : Hid ((atI (grpL K (ts.take k)) ts[k].a == atI (grpL K (ts.take k)) ts[k].b) = true → brB K ts k = false) := brB_before HV.out hkl
      have HTI := Lib.hid (tieB_in (HV.out ts[k] (List.getElem_mem hkl)))
      obtain ⟨ST1, ST2⟩ := brL_step K ts k
      have HST1 := Lib.hid ST1
      have HST2 := Lib.hid ST2
      have hbl : (brL K ts k).length ≤ 1000 := by have := brL_len K ts k; omega
      obtain ⟨y, hy⟩ : ∃ y, y = ts[k] := ⟨_, rfl⟩
      rw [← hy] at x0 x1 x2 x3 x4 HGS HBA HBF HTI
      obtain ⟨gl, hgl⟩ : ∃ gl, gl = grpL K (ts.take k) := ⟨_, rfl⟩
      have HGL : Hid (gl.length = K) := by rw [hgl, Hid, grpL_len]
      rw [← hgl] at HG HGS HBF
      obtain ⟨ya, yb, yk, ys, yr⟩ := y
      simp only at x0 x1 x2 x3 x4 HBA HBF HTI
      have HLT : Hid (k < m) := hlt
      obtain ⟨pa, hpa⟩ : ∃ pa : Nat, ya = pa := ⟨ya.toNat, by have := HTI.out; omega⟩
      obtain ⟨pb, hpb⟩ : ∃ pb : Nat, yb = pb := ⟨yb.toNat, by have := HTI.out; omega⟩
      subst hpa
      subst hpb
      have HPA : Hid (pa < K ∧ pb < K) := by have := HTI.out; simp only [Int.toNat_natCast] at this; exact ⟨by omega, by omega⟩
      clear hkl hlb hy hgl HTI ST1 ST2
      go_upto_region 9 with (fail)
      refine named (fun V => Hid (TieAt V wr.heap.size ⟨pa, pb, yk, ys, yr⟩) ∧ Hid (V.ownsRow (g + 1) 3 1 (.slice fa (brL K ts k).length fc) (brL K ts k).length (ivL (brL K ts k))) ∧ Hid (NB V g gl) ∧ Hid (Blk V b1 [.int .i64 K, .slice (some ⟨lb, lo, none⟩) m cap] 24) ∧ Hid (Below w.heap.size w V) ∧ Hid (g < wr.heap.size)) ?_ ?_
      · exact ⟨TieAt.new wr ⟨pa, pb, yk, ys, yr⟩ _, HO.out.alloc _, HG.out.block (Below.heap_alloc _ _ _ HG.out.lt), HK.out.block (Below.heap_alloc _ _ _ HK.out.lt), HB.out.alloc HB.out.size _, HG.out.lt⟩
      clear x0 x1 x2 x3 x4 HO HG HK HB
      rintro V ⟨HT, HO, HG, HK, HB, HGT⟩
      generalize hbt : wr.heap.size = bt at HT HGT ⊢
      clear hbt
      have HOWD : Hid (∀ w1, (clOld V.drew).C w1 → Below V.heap.size V w1) := fun w1 hC => old_end (Below.refl _ _) hC (Nat.le_refl _)
      have HLT2 : Hid (∀ w1, TieAt w1 bt ⟨pa, pb, yk, ys, yr⟩ → (Instr.loadAt 54 (.pointer (some ⟨bt, 0, none⟩))).run Tryz.prog w1 = .ok (tieV ⟨pa, pb, yk, ys, yr⟩) w1) := fun w1 h => load_tie (o := 0) h.c0 h.c1 h.c2 h.c3 h.c4
      obtain ⟨q, hq⟩ : ∃ q, q = (brL K ts k).length := ⟨_, rfl⟩
      rw [← hq] at HO hbl ⊢
      have HQ := Lib.hid hq
      clear hq
      cases hkd : (yk == 2) with
      | false =>
        have HN : Hid (brL K ts (k + 1) = brL K ts k) := HST2.out (by rw [HBA.out, hkd]; rfl)
        have HGN : Hid (grpL K (ts.take (k + 1)) = gl) := by rw [Hid, HGS.out]; unfold grpS; rw [show (({ a := (pa : Int), b := (pb : Int), kind := yk, str := ys, src := yr } : TieD).kind == 2) = false from hkd]; rfl
        have HJ : Hid (∀ W, Calls Tryz.prog 41 #[tieV ⟨pa, pb, yk, ys, yr⟩] W fun e w' => e = .returned (.bool false) ∧ Below W.heap.size W w') := fun W => by have h := tJoin_any ⟨pa, pb, yk, ys, yr⟩ W; rw [show (({ a := (pa : Int), b := (pb : Int), kind := yk, str := ys, src := yr } : TieD).kind == 2) = false from hkd] at h; exact h
        clear hkd HBA HBF HST1 HST2 HGS
        refine wp_region_old 23 54 (by kernel_rfl) (by kernel_rfl) (by rfl) ?_
        simp only [List.take_succ_cons, List.take_zero, List.drop_succ_cons, List.drop_zero, List.drop_nil]
        refine chain_load (tieV ⟨pa, pb, yk, ys, yr⟩) _ _ _ (fun _ _ => Below.refl _ _) rfl rfl (by kernel_rfl) (by kernel_rfl) rfl (fun w1 hC => HLT2.out w1 (HT.out.below (HOWD.out w1 hC))) ?_
        refine chain_call (.bool false) 41 [tieV ⟨pa, pb, yk, ys, yr⟩] _ _ (enters_of Tryz.func41 (by kernel_rfl) rfl) rfl rfl rfl (by kernel_rfl) (by kernel_rfl) rfl rfl (fun w1 hC => HJ.out w1) ?_
        refine chain_move (.bool false) _ (fun _ _ => Below.refl _ _) rfl rfl (by kernel_rfl) (by kernel_rfl) rfl ?_
        refine chain_skip rfl (by kernel_rfl) ?_
        refine chain_skip rfl (by kernel_rfl) ?_
        refine chain_skip rfl (by kernel_rfl) ?_
        refine chain_skip rfl (by kernel_rfl) ?_
        refine chain_skip rfl (by kernel_rfl) ?_
        refine chain_skip rfl (by kernel_rfl) ?_
        refine chain_pick (.bool false) _ _ _ false (fun _ _ => Below.refl _ _) rfl rfl (by kernel_rfl) (by kernel_rfl) rfl rfl ?_
        refine chain_move (.bool false) _ (fun _ _ => Below.refl _ _) rfl rfl (by kernel_rfl) (by kernel_rfl) rfl ?_
        refine chain_skip rfl (by kernel_rfl) ?_
        refine chain_skip rfl (by kernel_rfl) ?_
        refine chain_skip rfl (by kernel_rfl) ?_
        refine chain_skip rfl (by kernel_rfl) ?_
        refine chain_skip rfl (by kernel_rfl) ?_
        refine chain_skip rfl (by kernel_rfl) ?_
        refine chain_skip rfl (by kernel_rfl) ?_
        refine chain_skip rfl (by kernel_rfl) ?_
        refine chain_skip rfl (by kernel_rfl) ?_
        refine chain_skip rfl (by kernel_rfl) ?_
        refine chain_skip rfl (by kernel_rfl) ?_
        refine chain_pick (.bool false) _ _ _ false (fun _ _ => Below.refl _ _) rfl rfl (by kernel_rfl) (by kernel_rfl) rfl rfl ?_
        refine chain_end (by rfl) ?_
        intro xs w9 hCw9 hrew9
        simp only [layE, List.foldr_cons, List.foldr_nil, List.set_cons_succ, List.set_cons_zero]
        have HY := Lib.hid (HOWD.out w9 hCw9)
        clear hCw9 hrew9
        go_wp2_with fail
        go_roundg (gk - 1)
        case measure => omega
        case rel => exact ⟨k + 1, by omega, by simp, by rw [HN.out, ← HQ.out]; exact own_below HO.out HY.out, by rw [HGN.out]; exact HG.out.block (HY.out.block g HG.out.lt), HK.out.below HY.out, HB.out.trans (HY.out.mono HB.out.size)⟩
      | true =>
        have HJ : Hid (∀ W, Calls Tryz.prog 41 #[tieV ⟨pa, pb, yk, ys, yr⟩] W fun e w' => e = .returned (.bool true) ∧ Below W.heap.size W w') := fun W => by have h := tJoin_any ⟨pa, pb, yk, ys, yr⟩ W; rw [show (({ a := (pa : Int), b := (pb : Int), kind := yk, str := ys, src := yr } : TieD).kind == 2) = true from hkd] at h; exact h
        obtain ⟨GN, hGN⟩ : ∃ GN, GN = grpL K (ts.take (k + 1)) := ⟨_, rfl⟩
        have HGN := Lib.hid hGN
        have HGE : Hid (GN = uniL gl (min (atI gl pa) (atI gl pb)) (max (atI gl pa) (atI gl pb))) := by rw [Hid, hGN, HGS.out]; unfold grpS; rw [show (({ a := (pa : Int), b := (pb : Int), kind := yk, str := ys, src := yr } : TieD).kind == 2) = true from hkd]; rfl
        obtain ⟨GE, hGE⟩ : ∃ GE, GE = grpL K (ts.eraseIdx k) := ⟨_, rfl⟩
        have HUN : Hid (∀ W, NB W g gl → Calls Tryz.prog 42 #[.slice (some ⟨g, 0, none⟩) K K, .int .i64 pa, .int .i64 pb] W fun e w' => e = .returned (.bool (!(atI gl pa == atI gl pb))) ∧ NB w' g GN ∧ Only g W w' ∧ (∀ B, B ≤ g → Below B W w')) := fun W h => by
          have h1 := unite_val g gl pa pb (atI gl pa) (atI gl pb) W (by rw [HGL.out]; have := HK2.out; omega) h (by have h2 := atI_some (l := gl) (i := (pa : Int)) (by rw [HGL.out, Int.toNat_natCast]; exact HPA.out.1); rwa [Int.toNat_natCast] at h2) (by have h2 := atI_some (l := gl) (i := (pb : Int)) (by rw [HGL.out, Int.toNat_natCast]; exact HPA.out.2); rwa [Int.toNat_natCast] at h2)
          rw [HGL.out, minmax_ne, ← HGE.out] at h1; exact h1
        have HLV : Hid (∀ W, Below w.heap.size w W → Calls Tryz.prog 44 #[.agg #[.int .i64 K, .slice (some ⟨lb, lo, none⟩) m cap], .int .i64 (k : Int)] W fun e w' => ∃ a' c', e = .returned (gV K a' (ts.eraseIdx k).length c') ∧ TiesAt w' a' (ts.eraseIdx k) ∧ Below W.heap.size W w') := fun W hb => HLO.out k W HLT.out hb
        have HBV : Hid (∀ W a' c', TiesAt W a' (ts.eraseIdx k) → Calls Tryz.prog 43 #[gV K a' (ts.eraseIdx k).length c'] W fun e w' => ∃ g', e = .returned (wkV K a' (ts.eraseIdx k).length c' g' K) ∧ W.heap.size ≤ g' ∧ NB w' g' GE ∧ Below W.heap.size W w') := fun W a' c' hT => by rw [hGE]; exact HBE.out k W a' c' hT
        have HGEL : Hid (GE.length = K) := by rw [hGE, Hid, grpL_len]
        have HJD : Hid (∀ W g', NB W g' GE → Calls Tryz.prog 45 #[.slice (some ⟨g', 0, none⟩) K K, .int .i64 pa, .int .i64 pb] W fun e w' => e = .returned (.bool (atI GE pa == atI GE pb)) ∧ Below W.heap.size W w') := fun W g' h => by
          have h1 := joined_any g' GE pa pb W (by rw [HGEL.out]; have := HK2.out; omega) h (by rw [HGEL.out]; exact HPA.out.1) (by rw [HGEL.out]; exact HPA.out.2)
          rw [HGEL.out] at h1; exact h1
        rw [← hGE] at HBA
        have hcs : ((!(atI gl pa == atI gl pb)) = false ∧ brB K ts k = false) ∨ ((!(atI gl pa == atI gl pb)) = true ∧ (atI GE pa == atI GE pb) = true ∧ brB K ts k = false) ∨ ((!(atI gl pa == atI gl pb)) = true ∧ (atI GE pa == atI GE pb) = false ∧ brB K ts k = true) := by
          have hba := HBA.out
          rw [hkd, Bool.true_and] at hba
          cases h1 : (atI gl pa == atI gl pb) with
          | true => exact .inl ⟨rfl, HBF.out h1⟩
          | false =>
            cases h2 : (atI GE pa == atI GE pb) with
            | true => exact .inr (.inl ⟨rfl, rfl, by rw [hba, h2]; rfl⟩)
            | false => exact .inr (.inr ⟨rfl, rfl, by rw [hba, h2]; rfl⟩)
        clear hkd HBA HBF HGS hGN hGE HGE HLO HBE
        rcases hcs with ⟨h1, h3⟩ | ⟨h1, h2, h3⟩ | ⟨h1, h2, h3⟩
        · skip
          refine wp_region_two (Z := (fun e => .bool false)) 9 54 8 23 [] [] (by kernel_rfl) (by kernel_rfl) (by kernel_rfl) (by kernel_rfl) (by intro e he; cases he) (by rfl) ?_
          simp only [List.take_succ_cons, List.take_zero, List.eraseIdx_cons_succ, List.eraseIdx_cons_zero]
          refine chain_load (tieV ⟨pa, pb, yk, ys, yr⟩) _ _ _ (fun _ _ => Below.refl _ _) rfl rfl (by kernel_rfl) (by kernel_rfl) rfl (fun w1 hC => HLT2.out w1 (HT.out.below (HOWD.out w1 hC))) ?_
          refine chain_call (.bool true) 41 [tieV ⟨pa, pb, yk, ys, yr⟩] _ _ (enters_of Tryz.func41 (by kernel_rfl) rfl) rfl rfl rfl (by kernel_rfl) (by kernel_rfl) rfl rfl (fun w1 hC => HJ.out w1) ?_
          refine chain_move (.bool true) _ (fun _ _ => Below.refl _ _) rfl rfl (by kernel_rfl) (by kernel_rfl) rfl ?_
          refine chain_move (.slice (some ⟨g, 0, none⟩) K K) _ (fun _ _ => Below.refl _ _) rfl rfl (by kernel_rfl) (by kernel_rfl) rfl ?_
          refine chain_val (.pointer (some ⟨bt, 0, none⟩)) (fun _ _ => Below.refl _ _) rfl (by intro cs b h; cases h) (by kernel_rfl) (by kernel_rfl) (fun w1 _ => by simp [execOp, evE, lk_cons, lk_nil, slotL, go_sem]) ?_
          refine chain_load (.int .i64 pa) _ _ _ (fun _ _ => Below.refl _ _) rfl rfl (by kernel_rfl) (by kernel_rfl) rfl (fun w1 hC => load_i64 (HT.out.below (HOWD.out w1 hC)).c0) ?_
          refine chain_val (.pointer (some ⟨bt, 1, none⟩)) (fun _ _ => Below.refl _ _) rfl (by intro cs b h; cases h) (by kernel_rfl) (by kernel_rfl) (fun w1 _ => by simp [execOp, evE, lk_cons, lk_nil, slotL, go_sem]) ?_
          refine chain_load (.int .i64 pb) _ _ _ (fun _ _ => Below.refl _ _) rfl rfl (by kernel_rfl) (by kernel_rfl) rfl (fun w1 hC => load_i64 (HT.out.below (HOWD.out w1 hC)).c1) ?_
          refine ⟨_, rfl, by kernel_rfl, ?_⟩
          intro A w1 hC hk hN
          have a28 : A.eval (.tmp 28) = .slice (some ⟨g, 0, none⟩) K K := ex_of (k := 28) hk rfl (by kernel_rfl)
          have a30 : A.eval (.tmp 30) = .int .i64 pa := ex_of (k := 30) hk rfl (by kernel_rfl)
          have a32 : A.eval (.tmp 32) = .int .i64 pb := ex_of (k := 32) hk rfl (by kernel_rfl)
          refine wp_of_enter (f := 42) (args := #[.slice (some ⟨g, 0, none⟩) K K, .int .i64 pa, .int .i64 pb]) ?_ ?_
          · rw [run_enter rfl rfl rfl (enters_of Tryz.func42 (by kernel_rfl) rfl)]
            simp only [List.map_toArray, List.map_cons, List.map_nil, a28, a30, a32]
          have hb1 := HOWD.out w1 hC
          refine (HUN.out w1 (HG.out.block (hb1.block g HG.out.lt))).mono ?_
          rintro e w2 ⟨rfl, hnb, hon, hbl⟩
          rw [h1]
          have HT2 : Hid (TieAt w2 bt ⟨pa, pb, yk, ys, yr⟩) := (HT.out.below hb1).only hon (Nat.ne_of_gt HGT.out)
          have HK3 : Hid (Blk w2 b1 [.int .i64 K, .slice (some ⟨lb, lo, none⟩) m cap] 24) := (HK.out.below hb1).only hon (by have := HGB.out; omega)
          have HO2 : Hid (w2.ownsRow (g + 1) 3 1 (.slice fa q fc) q (ivL (brL K ts k))) := own_onlyI (own_below HO.out hb1) (Nat.lt_succ_self _) hon
          have HG2 := Lib.hid hnb
          have HB2 : Hid (Below w.heap.size w w2) := (HB.out.trans (hb1.mono HB.out.size)).trans (hbl _ (by have := HGB.out; have := HBB.out; omega))
          clear hnb hon hbl hb1 a28 a30 a32 hk hN hC HT HK HO HG HB HOWD h1
          refine ⟨_, rfl, .bool false, clOld w2, [], rfl, Below.refl _ _, fun _ _ h hb => Old.step h hb, fun p hp => (by cases hp), ?_⟩
          have HOX : Hid (∀ w1, (clOld w2).C w1 → Below w2.heap.size w2 w1) := fun w1 hC => hC
          simp only [List.take_succ_cons, List.take_zero, List.drop_succ_cons, List.drop_zero, List.drop_nil, envB, List.map_cons, List.map_nil, List.nil_append, List.cons_append, weak, weak1]
          refine chain_pick (.bool false) _ _ _ true (fun _ _ => Below.refl _ _) rfl rfl (by kernel_rfl) (by kernel_rfl) rfl rfl ?_
          refine chain_move (.bool false) _ (fun _ _ => Below.refl _ _) rfl rfl (by kernel_rfl) (by kernel_rfl) rfl ?_
          refine chain_skip rfl (by kernel_rfl) ?_
          refine chain_skip rfl (by kernel_rfl) ?_
          refine chain_skip rfl (by kernel_rfl) ?_
          refine chain_skip rfl (by kernel_rfl) ?_
          refine chain_skip rfl (by kernel_rfl) ?_
          refine chain_skip rfl (by kernel_rfl) ?_
          refine chain_skip rfl (by kernel_rfl) ?_
          refine chain_skip rfl (by kernel_rfl) ?_
          refine chain_skip rfl (by kernel_rfl) ?_
          refine chain_skip rfl (by kernel_rfl) ?_
          refine chain_skip rfl (by kernel_rfl) ?_
          refine chain_pick (.bool false) _ _ _ false (fun _ _ => Below.refl _ _) rfl rfl (by kernel_rfl) (by kernel_rfl) rfl rfl ?_
          refine ⟨fun i hi => (by cases hi), chain_end (by rfl) ?_⟩
          intro xs w9 hC9 hre
          have HY : Hid (Below w2.heap.size w2 w9) := hC9
          simp only [layE, List.foldr_cons, List.foldr_nil, List.set_cons_succ, List.set_cons_zero]
          clear hre hC9
          have HN : Hid (brL K ts (k + 1) = brL K ts k) := HST2.out h3
          clear h3 HLV HBV HJD HOX
          go_wp2_with fail
          go_roundg (gk - 1)
          case measure => omega
          case rel => exact ⟨k + 1, by omega, by simp, by rw [HN.out, ← HQ.out]; exact own_below HO2.out HY.out, by rw [← HGN.out]; exact HG2.out.block (HY.out.block g HG2.out.lt), HK3.out.below HY.out, HB2.out.trans (HY.out.mono HB2.out.size)⟩
        · skip
          refine wp_region_two (Z := (fun e => .bool false)) 9 54 8 23 [] [] (by kernel_rfl) (by kernel_rfl) (by kernel_rfl) (by kernel_rfl) (by intro e he; cases he) (by rfl) ?_
          simp only [List.take_succ_cons, List.take_zero, List.eraseIdx_cons_succ, List.eraseIdx_cons_zero]
          refine chain_load (tieV ⟨pa, pb, yk, ys, yr⟩) _ _ _ (fun _ _ => Below.refl _ _) rfl rfl (by kernel_rfl) (by kernel_rfl) rfl (fun w1 hC => HLT2.out w1 (HT.out.below (HOWD.out w1 hC))) ?_
          refine chain_call (.bool true) 41 [tieV ⟨pa, pb, yk, ys, yr⟩] _ _ (enters_of Tryz.func41 (by kernel_rfl) rfl) rfl rfl rfl (by kernel_rfl) (by kernel_rfl) rfl rfl (fun w1 hC => HJ.out w1) ?_
          refine chain_move (.bool true) _ (fun _ _ => Below.refl _ _) rfl rfl (by kernel_rfl) (by kernel_rfl) rfl ?_
          refine chain_move (.slice (some ⟨g, 0, none⟩) K K) _ (fun _ _ => Below.refl _ _) rfl rfl (by kernel_rfl) (by kernel_rfl) rfl ?_
          refine chain_val (.pointer (some ⟨bt, 0, none⟩)) (fun _ _ => Below.refl _ _) rfl (by intro cs b h; cases h) (by kernel_rfl) (by kernel_rfl) (fun w1 _ => by simp [execOp, evE, lk_cons, lk_nil, slotL, go_sem]) ?_
          refine chain_load (.int .i64 pa) _ _ _ (fun _ _ => Below.refl _ _) rfl rfl (by kernel_rfl) (by kernel_rfl) rfl (fun w1 hC => load_i64 (HT.out.below (HOWD.out w1 hC)).c0) ?_
          refine chain_val (.pointer (some ⟨bt, 1, none⟩)) (fun _ _ => Below.refl _ _) rfl (by intro cs b h; cases h) (by kernel_rfl) (by kernel_rfl) (fun w1 _ => by simp [execOp, evE, lk_cons, lk_nil, slotL, go_sem]) ?_
          refine chain_load (.int .i64 pb) _ _ _ (fun _ _ => Below.refl _ _) rfl rfl (by kernel_rfl) (by kernel_rfl) rfl (fun w1 hC => load_i64 (HT.out.below (HOWD.out w1 hC)).c1) ?_
          refine ⟨_, rfl, by kernel_rfl, ?_⟩
          intro A w1 hC hk hN
          have a28 : A.eval (.tmp 28) = .slice (some ⟨g, 0, none⟩) K K := ex_of (k := 28) hk rfl (by kernel_rfl)
          have a30 : A.eval (.tmp 30) = .int .i64 pa := ex_of (k := 30) hk rfl (by kernel_rfl)
          have a32 : A.eval (.tmp 32) = .int .i64 pb := ex_of (k := 32) hk rfl (by kernel_rfl)
          refine wp_of_enter (f := 42) (args := #[.slice (some ⟨g, 0, none⟩) K K, .int .i64 pa, .int .i64 pb]) ?_ ?_
          · rw [run_enter rfl rfl rfl (enters_of Tryz.func42 (by kernel_rfl) rfl)]
            simp only [List.map_toArray, List.map_cons, List.map_nil, a28, a30, a32]
          have hb1 := HOWD.out w1 hC
          refine (HUN.out w1 (HG.out.block (hb1.block g HG.out.lt))).mono ?_
          rintro e w2 ⟨rfl, hnb, hon, hbl⟩
          rw [h1]
          have HT2 : Hid (TieAt w2 bt ⟨pa, pb, yk, ys, yr⟩) := (HT.out.below hb1).only hon (Nat.ne_of_gt HGT.out)
          have HK3 : Hid (Blk w2 b1 [.int .i64 K, .slice (some ⟨lb, lo, none⟩) m cap] 24) := (HK.out.below hb1).only hon (by have := HGB.out; omega)
          have HO2 : Hid (w2.ownsRow (g + 1) 3 1 (.slice fa q fc) q (ivL (brL K ts k))) := own_onlyI (own_below HO.out hb1) (Nat.lt_succ_self _) hon
          have HG2 := Lib.hid hnb
          have HB2 : Hid (Below w.heap.size w w2) := (HB.out.trans (hb1.mono HB.out.size)).trans (hbl _ (by have := HGB.out; have := HBB.out; omega))
          clear hnb hon hbl hb1 a28 a30 a32 hk hN hC HT HK HO HG HB HOWD h1
          refine ⟨_, rfl, .bool true, clOld w2, [], rfl, Below.refl _ _, fun _ _ h hb => Old.step h hb, fun p hp => (by cases hp), ?_⟩
          have HOX : Hid (∀ w1, (clOld w2).C w1 → Below w2.heap.size w2 w1) := fun w1 hC => hC
          simp only [List.take_succ_cons, List.take_zero, List.drop_succ_cons, List.drop_zero, List.drop_nil, envB, List.map_cons, List.map_nil, List.nil_append, List.cons_append, weak, weak1]
          refine chain_pick (.bool true) _ _ _ true (fun _ _ => Below.refl _ _) rfl rfl (by kernel_rfl) (by kernel_rfl) rfl rfl ?_
          refine chain_move (.bool true) _ (fun _ _ => Below.refl _ _) rfl rfl (by kernel_rfl) (by kernel_rfl) rfl ?_
          refine chain_load (.agg #[.int .i64 K, .slice (some ⟨lb, lo, none⟩) m cap]) _ _ _ (fun _ _ => Below.refl _ _) rfl rfl (by kernel_rfl) (by kernel_rfl) rfl (fun w1 hC => load_g ((HK3.out.below (HOX.out w1 hC)).cell rfl) ((HK3.out.below (HOX.out w1 hC)).cell rfl)) ?_
          refine chain_move (.int .i64 k) _ (fun _ _ => Below.refl _ _) rfl rfl (by kernel_rfl) (by kernel_rfl) rfl ?_
          refine chain_call_re (grW K (ts.eraseIdx k)) 44 [.agg #[.int .i64 K, .slice (some ⟨lb, lo, none⟩) m cap], .int .i64 k] _ _ (grW_lasts _ _) (enters_of Tryz.func44 (by kernel_rfl) rfl) rfl rfl rfl (by kernel_rfl) (by kernel_rfl) rfl rfl (fun w1 hC => (HLV.out w1 (HB2.out.trans ((HOX.out w1 hC).mono HB2.out.size))).mono fun e w' ⟨a', c', he, hT, hb⟩ => ⟨_, he, hb, a', c', rfl, hT⟩) ?_
          refine chain_call_use_re (wkgW K GE) (wkgW_lasts _ _) 38 _ 43 (fun x => [x]) _ _ (enters_of Tryz.func43 (by kernel_rfl) rfl) rfl rfl rfl (by kernel_rfl) rfl rfl (fun _ => rfl) rfl (fun _ => rfl) (fun x w1 hC ⟨a', c', hx, hT⟩ => by subst hx; exact (HBV.out w1 a' c' hT).mono fun e w' ⟨g', he, _, hn, hb⟩ => ⟨_, he, hb, a', _, c', g', rfl, hn⟩) ?_
          refine chain_use_re (nbW K GE) (nbW_lasts _ _) 39 (wkgW K GE) (fun _ _ => Below.refl _ _) rfl (by intro cs b h; cases h) (by kernel_rfl) rfl (by kernel_rfl) (fun _ => rfl) (fun x w1 ⟨a', m', c', g', hx, hn⟩ => ⟨.slice (some ⟨g', 0, none⟩) K K, by subst hx; simp [execOp, evE, lk_cons, lk_nil, wkV, field_wk, Sem.run_bind, Result.andThen], g', rfl, hn⟩) ?_
          refine chain_val (.pointer (some ⟨bt, 0, none⟩)) (fun _ _ => Below.refl _ _) rfl (by intro cs b h; cases h) (by kernel_rfl) (by kernel_rfl) (fun w1 _ => by simp [execOp, evE, lk_cons, lk_nil, slotL, go_sem]) ?_
          refine chain_load (.int .i64 pa) _ _ _ (fun _ _ => Below.refl _ _) rfl rfl (by kernel_rfl) (by kernel_rfl) rfl (fun w1 hC => load_i64 (HT2.out.below (HOX.out w1 hC)).c0) ?_
          refine chain_val (.pointer (some ⟨bt, 1, none⟩)) (fun _ _ => Below.refl _ _) rfl (by intro cs b h; cases h) (by kernel_rfl) (by kernel_rfl) (fun w1 _ => by simp [execOp, evE, lk_cons, lk_nil, slotL, go_sem]) ?_
          refine chain_load (.int .i64 pb) _ _ _ (fun _ _ => Below.refl _ _) rfl rfl (by kernel_rfl) (by kernel_rfl) rfl (fun w1 hC => load_i64 (HT2.out.below (HOX.out w1 hC)).c1) ?_
          refine chain_call_use (.bool true) 40 _ 45 (fun x => [x, .int .i64 pa, .int .i64 pb]) _ _ (enters_of Tryz.func45 (by kernel_rfl) rfl) rfl rfl rfl (by kernel_rfl) rfl rfl (fun _ => rfl) rfl (fun _ => rfl) (fun x w1 hC ⟨g', hx, hn⟩ => by subst hx; exact (HJD.out w1 g' hn).mono fun e w' ⟨he, hb⟩ => ⟨by rw [he, h2], hb⟩) ?_
          refine chain_un (.bool false) _ _ _ (.bool true) (fun _ _ => Below.refl _ _) rfl rfl (by kernel_rfl) (by kernel_rfl) rfl (fun w => un_not _ w) ?_
          refine chain_pick (.bool false) _ _ _ true (fun _ _ => Below.refl _ _) rfl rfl (by kernel_rfl) (by kernel_rfl) rfl rfl ?_
          refine ⟨fun i hi => (by cases hi), chain_end (by rfl) ?_⟩
          intro xs w9 hC9 hre
          have HY : Hid (Below w2.heap.size w2 w9) := hC9
          simp only [layE, List.foldr_cons, List.foldr_nil, List.set_cons_succ, List.set_cons_zero]
          clear hre hC9
          have HN : Hid (brL K ts (k + 1) = brL K ts k) := HST2.out h3
          clear h3 HLV HBV HJD HOX
          go_wp2_with fail
          go_roundg (gk - 1)
          case measure => omega
          case rel => exact ⟨k + 1, by omega, by simp, by rw [HN.out, ← HQ.out]; exact own_below HO2.out HY.out, by rw [← HGN.out]; exact HG2.out.block (HY.out.block g HG2.out.lt), HK3.out.below HY.out, HB2.out.trans (HY.out.mono HB2.out.size)⟩
        · skip
          refine wp_region_two (Z := (fun e => .bool false)) 9 54 8 23 [] [] (by kernel_rfl) (by kernel_rfl) (by kernel_rfl) (by kernel_rfl) (by intro e he; cases he) (by rfl) ?_
          simp only [List.take_succ_cons, List.take_zero, List.eraseIdx_cons_succ, List.eraseIdx_cons_zero]
          refine chain_load (tieV ⟨pa, pb, yk, ys, yr⟩) _ _ _ (fun _ _ => Below.refl _ _) rfl rfl (by kernel_rfl) (by kernel_rfl) rfl (fun w1 hC => HLT2.out w1 (HT.out.below (HOWD.out w1 hC))) ?_
          refine chain_call (.bool true) 41 [tieV ⟨pa, pb, yk, ys, yr⟩] _ _ (enters_of Tryz.func41 (by kernel_rfl) rfl) rfl rfl rfl (by kernel_rfl) (by kernel_rfl) rfl rfl (fun w1 hC => HJ.out w1) ?_
          refine chain_move (.bool true) _ (fun _ _ => Below.refl _ _) rfl rfl (by kernel_rfl) (by kernel_rfl) rfl ?_
          refine chain_move (.slice (some ⟨g, 0, none⟩) K K) _ (fun _ _ => Below.refl _ _) rfl rfl (by kernel_rfl) (by kernel_rfl) rfl ?_
          refine chain_val (.pointer (some ⟨bt, 0, none⟩)) (fun _ _ => Below.refl _ _) rfl (by intro cs b h; cases h) (by kernel_rfl) (by kernel_rfl) (fun w1 _ => by simp [execOp, evE, lk_cons, lk_nil, slotL, go_sem]) ?_
          refine chain_load (.int .i64 pa) _ _ _ (fun _ _ => Below.refl _ _) rfl rfl (by kernel_rfl) (by kernel_rfl) rfl (fun w1 hC => load_i64 (HT.out.below (HOWD.out w1 hC)).c0) ?_
          refine chain_val (.pointer (some ⟨bt, 1, none⟩)) (fun _ _ => Below.refl _ _) rfl (by intro cs b h; cases h) (by kernel_rfl) (by kernel_rfl) (fun w1 _ => by simp [execOp, evE, lk_cons, lk_nil, slotL, go_sem]) ?_
          refine chain_load (.int .i64 pb) _ _ _ (fun _ _ => Below.refl _ _) rfl rfl (by kernel_rfl) (by kernel_rfl) rfl (fun w1 hC => load_i64 (HT.out.below (HOWD.out w1 hC)).c1) ?_
          refine ⟨_, rfl, by kernel_rfl, ?_⟩
          intro A w1 hC hk hN
          have a28 : A.eval (.tmp 28) = .slice (some ⟨g, 0, none⟩) K K := ex_of (k := 28) hk rfl (by kernel_rfl)
          have a30 : A.eval (.tmp 30) = .int .i64 pa := ex_of (k := 30) hk rfl (by kernel_rfl)
          have a32 : A.eval (.tmp 32) = .int .i64 pb := ex_of (k := 32) hk rfl (by kernel_rfl)
          refine wp_of_enter (f := 42) (args := #[.slice (some ⟨g, 0, none⟩) K K, .int .i64 pa, .int .i64 pb]) ?_ ?_
          · rw [run_enter rfl rfl rfl (enters_of Tryz.func42 (by kernel_rfl) rfl)]
            simp only [List.map_toArray, List.map_cons, List.map_nil, a28, a30, a32]
          have hb1 := HOWD.out w1 hC
          refine (HUN.out w1 (HG.out.block (hb1.block g HG.out.lt))).mono ?_
          rintro e w2 ⟨rfl, hnb, hon, hbl⟩
          rw [h1]
          have HT2 : Hid (TieAt w2 bt ⟨pa, pb, yk, ys, yr⟩) := (HT.out.below hb1).only hon (Nat.ne_of_gt HGT.out)
          have HK3 : Hid (Blk w2 b1 [.int .i64 K, .slice (some ⟨lb, lo, none⟩) m cap] 24) := (HK.out.below hb1).only hon (by have := HGB.out; omega)
          have HO2 : Hid (w2.ownsRow (g + 1) 3 1 (.slice fa q fc) q (ivL (brL K ts k))) := own_onlyI (own_below HO.out hb1) (Nat.lt_succ_self _) hon
          have HG2 := Lib.hid hnb
          have HB2 : Hid (Below w.heap.size w w2) := (HB.out.trans (hb1.mono HB.out.size)).trans (hbl _ (by have := HGB.out; have := HBB.out; omega))
          clear hnb hon hbl hb1 a28 a30 a32 hk hN hC HT HK HO HG HB HOWD h1
          refine ⟨_, rfl, .bool true, clOld w2, [], rfl, Below.refl _ _, fun _ _ h hb => Old.step h hb, fun p hp => (by cases hp), ?_⟩
          have HOX : Hid (∀ w1, (clOld w2).C w1 → Below w2.heap.size w2 w1) := fun w1 hC => hC
          simp only [List.take_succ_cons, List.take_zero, List.drop_succ_cons, List.drop_zero, List.drop_nil, envB, List.map_cons, List.map_nil, List.nil_append, List.cons_append, weak, weak1]
          refine chain_pick (.bool true) _ _ _ true (fun _ _ => Below.refl _ _) rfl rfl (by kernel_rfl) (by kernel_rfl) rfl rfl ?_
          refine chain_move (.bool true) _ (fun _ _ => Below.refl _ _) rfl rfl (by kernel_rfl) (by kernel_rfl) rfl ?_
          refine chain_load (.agg #[.int .i64 K, .slice (some ⟨lb, lo, none⟩) m cap]) _ _ _ (fun _ _ => Below.refl _ _) rfl rfl (by kernel_rfl) (by kernel_rfl) rfl (fun w1 hC => load_g ((HK3.out.below (HOX.out w1 hC)).cell rfl) ((HK3.out.below (HOX.out w1 hC)).cell rfl)) ?_
          refine chain_move (.int .i64 k) _ (fun _ _ => Below.refl _ _) rfl rfl (by kernel_rfl) (by kernel_rfl) rfl ?_
          refine chain_call_re (grW K (ts.eraseIdx k)) 44 [.agg #[.int .i64 K, .slice (some ⟨lb, lo, none⟩) m cap], .int .i64 k] _ _ (grW_lasts _ _) (enters_of Tryz.func44 (by kernel_rfl) rfl) rfl rfl rfl (by kernel_rfl) (by kernel_rfl) rfl rfl (fun w1 hC => (HLV.out w1 (HB2.out.trans ((HOX.out w1 hC).mono HB2.out.size))).mono fun e w' ⟨a', c', he, hT, hb⟩ => ⟨_, he, hb, a', c', rfl, hT⟩) ?_
          refine chain_call_use_re (wkgW K GE) (wkgW_lasts _ _) 38 _ 43 (fun x => [x]) _ _ (enters_of Tryz.func43 (by kernel_rfl) rfl) rfl rfl rfl (by kernel_rfl) rfl rfl (fun _ => rfl) rfl (fun _ => rfl) (fun x w1 hC ⟨a', c', hx, hT⟩ => by subst hx; exact (HBV.out w1 a' c' hT).mono fun e w' ⟨g', he, _, hn, hb⟩ => ⟨_, he, hb, a', _, c', g', rfl, hn⟩) ?_
          refine chain_use_re (nbW K GE) (nbW_lasts _ _) 39 (wkgW K GE) (fun _ _ => Below.refl _ _) rfl (by intro cs b h; cases h) (by kernel_rfl) rfl (by kernel_rfl) (fun _ => rfl) (fun x w1 ⟨a', m', c', g', hx, hn⟩ => ⟨.slice (some ⟨g', 0, none⟩) K K, by subst hx; simp [execOp, evE, lk_cons, lk_nil, wkV, field_wk, Sem.run_bind, Result.andThen], g', rfl, hn⟩) ?_
          refine chain_val (.pointer (some ⟨bt, 0, none⟩)) (fun _ _ => Below.refl _ _) rfl (by intro cs b h; cases h) (by kernel_rfl) (by kernel_rfl) (fun w1 _ => by simp [execOp, evE, lk_cons, lk_nil, slotL, go_sem]) ?_
          refine chain_load (.int .i64 pa) _ _ _ (fun _ _ => Below.refl _ _) rfl rfl (by kernel_rfl) (by kernel_rfl) rfl (fun w1 hC => load_i64 (HT2.out.below (HOX.out w1 hC)).c0) ?_
          refine chain_val (.pointer (some ⟨bt, 1, none⟩)) (fun _ _ => Below.refl _ _) rfl (by intro cs b h; cases h) (by kernel_rfl) (by kernel_rfl) (fun w1 _ => by simp [execOp, evE, lk_cons, lk_nil, slotL, go_sem]) ?_
          refine chain_load (.int .i64 pb) _ _ _ (fun _ _ => Below.refl _ _) rfl rfl (by kernel_rfl) (by kernel_rfl) rfl (fun w1 hC => load_i64 (HT2.out.below (HOX.out w1 hC)).c1) ?_
          refine chain_call_use (.bool false) 40 _ 45 (fun x => [x, .int .i64 pa, .int .i64 pb]) _ _ (enters_of Tryz.func45 (by kernel_rfl) rfl) rfl rfl rfl (by kernel_rfl) rfl rfl (fun _ => rfl) rfl (fun _ => rfl) (fun x w1 hC ⟨g', hx, hn⟩ => by subst hx; exact (HJD.out w1 g' hn).mono fun e w' ⟨he, hb⟩ => ⟨by rw [he, h2], hb⟩) ?_
          refine chain_un (.bool true) _ _ _ (.bool false) (fun _ _ => Below.refl _ _) rfl rfl (by kernel_rfl) (by kernel_rfl) rfl (fun w => un_not _ w) ?_
          refine chain_pick (.bool true) _ _ _ true (fun _ _ => Below.refl _ _) rfl rfl (by kernel_rfl) (by kernel_rfl) rfl rfl ?_
          refine ⟨fun i hi => (by cases hi), chain_end (by rfl) ?_⟩
          intro xs w9 hC9 hre
          have HY : Hid (Below w2.heap.size w2 w9) := hC9
          simp only [layE, List.foldr_cons, List.foldr_nil, List.set_cons_succ, List.set_cons_zero]
          clear hre hC9
          have HN : Hid (brL K ts (k + 1) = brL K ts k ++ [(k : Int)]) := HST1.out h3
          clear h3 h2 HLV HBV HJD HOX
          have HO3 : Hid ((w9.alloc (.cells #[.int .i64 k] 3)).ownsRow (g + 1) 3 1 (.slice fa q fc) q (ivL (brL K ts k))) := (own_below HO2.out HY.out).alloc _
          have HG3 : Hid (NB (w9.alloc (.cells #[.int .i64 k] 3)) g GN) := (HG2.out.block (HY.out.block g HG2.out.lt)).block (Below.heap_alloc _ _ _ (Nat.lt_of_lt_of_le HG2.out.lt HY.out.size))
          have HK4 : Hid (Blk (w9.alloc (.cells #[.int .i64 k] 3)) b1 [.int .i64 K, .slice (some ⟨lb, lo, none⟩) m cap] 24) := (HK3.out.below HY.out).block (Below.heap_alloc _ _ _ (Nat.lt_of_lt_of_le HK3.out.lt HY.out.size))
          have HB3 : Hid (Below w.heap.size w (w9.alloc (.cells #[.int .i64 k] 3))) := (HB2.out.trans (HY.out.mono HB2.out.size)).alloc (Nat.le_trans HB2.out.size HY.out.size) _
          have HNEW : Hid ((w9.alloc (.cells #[.int .i64 k] 3)).cell? ⟨w9.heap.size, 0, none⟩ = some (.int .i64 k)) := (Blk.new w9 [.int .i64 k] 3).cell rfl
          have HGSZ : Hid (g + 1 ≤ (w9.alloc (.cells #[.int .i64 k] 3)).heap.size) := by have := HG3.out.lt; exact this
          go_wp2_with (first | (at_builtin; go_loud (obtain ⟨f2, c2, w6, hr, hown, hgrow⟩ := own_int (w9.alloc (.cells #[.int .i64 k] 3)) (g + 1) q 27 fa fc (ivL (brL K ts k)) w9.heap.size k HO3.out HNEW.out (by omega) HGSZ.out; refine Lib.wpList_append_run _ rfl _ _ _ _ rfl _ _ rfl rfl _ _ hr ?_; clear hr; have KO := Lib.hid hown; have KG : Hid (NB w6 g GN) := HG3.out.block (hgrow.block g HG3.out.lt (fun e => by have h9 := (World.ownsRow.lt HO3.out g e.symm).1; omega)); have KK : Hid (Blk w6 b1 [.int .i64 K, .slice (some ⟨lb, lo, none⟩) m cap] 24) := HK4.out.block (hgrow.block _ HK4.out.lt (fun e => own_neI HO3.out HK4.out (by decide) e.symm)); have KB : Hid (Below w.heap.size w w6) := HB3.out.grown hgrow HB3.out.size (fun q' hq' => by have h9 := (World.ownsRow.lt HO3.out q' hq').1; have h8 := HGB.out; have h7 := HBB.out; omega); clear hown hgrow)))
          go_roundg (gk - 1)
          case measure => omega
          case rel => exact ⟨k + 1, by omega, by simp, by rw [HN.out, List.length_append, ← HQ.out, ivL_snoc]; exact KO.out, by rw [← HGN.out]; exact KG.out, KK.out, KB.out⟩
    · have e : m = k := by omega
      subst e
      have t1 : decide (m < m) = false := by simp
      have HIA : Hid (IntsAt wr fa (brL K ts m)) := (own_intsB HO.out).2
      clear HO HG HK HLO HBE
      go_wp2_with fail
      refine bodyPost_ret (v := .tuple #[.slice fa (brL K ts m).length fc, .int .i64 0]) (by simp [results, Tryz.results12, go_sem]) rfl ?_
      exact ⟨fa, fc, rfl, HIA.out, HB.out⟩
end Go.Proofs.YthjeiaildabadaaGreat
