/- Layer 4: Rests of the program. / Layer 4: the law TiesRests, where it speaks. / Layer 4: the law TiesRests, for all arguments. -/
import Derived.Test.YthjeiaildabadaaGreatKe
import Derived.Test.YthjeiaildabadaaGreatK3
import Derived.Test.YthjeiaildabadaaGreatBh
import Derived.Deep.DeepCutAuto
import Derived.Test.YthjeiaildabadaaGreatKd
/- Layer 4: Rests of the program. -/
namespace Go.Proofs.YthjeiaildabadaaGreat
set_option linter.unusedSimpArgs false
set_option linter.unusedVariables false
open Go Go.RowKit

theorem rst_step {n : Nat} {ts : List TieD} {x y : Int} {l : List Int} {j : Nat} (hj : j < l.length) {t : TieD} (ht : ts[l[j].toNat]? = some t) : rstL n ts x y (l.take (j + 1)) = rstL n ts x y (l.take j) ++ (if told n (wo ts t.src) x y then [] else [t.src]) := by
  unfold rstL
  rw [← List.take_append_getElem hj, List.map_append, List.filter_append]
  have e : srcA ts l[j] = t.src := by unfold srcA; rw [ht]; rfl
  congr 1
  simp only [List.map_cons, List.map_nil, e]
  cases h : told n (wo ts t.src) x y <;> simp [h]
/-- What Rests answers. -/
def RsA (k : Nat) (ts : List TieD) (x y : Int) (e : Ending) (w : World) : Prop := (told k ts x y = false ∧ e = .returned (.tuple #[.slice none 0 0, .int .i64 4])) ∨ (told k ts x y = true ∧ ∃ (R : List Int) (r : Option Addr) (c : Nat), e = .returned (.tuple #[.slice r R.length c, .int .i64 0]) ∧ R.length ≤ 64 ∧ RstR k ts x y R ∧ IntsAt w r R)
set_option maxRecDepth 100000 in
set_option maxHeartbeats 8000000 in
theorem rests_any (k p z : Nat) (a : Option Addr) (cap : Nat) (ts : List TieD) (w : World) (h0 : errA k ts p z = 0) (hs : TiesAt w a ts) :
    Calls Tryz.prog 22 #[gV k a ts.length cap, .int .i64 p, .int .i64 z] w fun e w' => RsA k ts p z e w' ∧ Below w.heap.size w w' := by
  obtain ⟨hok, hxy⟩ := errA_ok h0
  obtain ⟨k', hk', hk1, hk2, hl, hv⟩ := okG_parts hok
  obtain rfl : k = k' := by omega
  have hxy' := hxy
  unfold ftB at hxy
  simp only [Bool.and_eq_true, decide_eq_true_eq] at hxy
  have hp : p < k := by omega
  have hz : z < k := by omega
  have HP : Hid (∀ W, Below w.heap.size w W → Calls Tryz.prog 50 #[gV k a ts.length cap, .int .i64 p, .int .i64 z] W fun e w' => e = .returned (.int .i64 0) ∧ Below W.heap.size W w') := fun W hb => by
    have h := tPair_any k a cap ts p z W (by omega) (hs.below hb); rw [h0] at h; exact h
  have HBE : Hid (∀ W, Below w.heap.size w W → Calls Tryz.prog 43 #[gV k a ts.length cap] W fun e w' => ∃ g, e = .returned (wkV k a ts.length cap g k) ∧ W.heap.size ≤ g ∧ NB w' g (grpL k ts) ∧ Below W.heap.size W w') := fun W hb => begin_any k a cap ts W hk2 hl hv (hs.below hb)
  have HSH : Hid (∀ W gv (cuts : Nat), cuts ≤ 1 → Below w.heap.size w W → Calls Tryz.prog 65 #[.agg #[.int .i64 k, .slice a ts.length cap, gv], .int .i64 p, .int .i64 z, .int .i64 cuts] W fun e w' => ∃ u v, e = .returned (.tuple #[u, .bool v]) ∧ WP ts cuts p z W.heap.size u v w' ∧ Below W.heap.size W w') := fun W gv cuts hc hb => shortest_wp k a cap ts gv p z cuts W hl hk2 hv hxy' hc (hs.below hb)
  have HWO : Hid (∀ W (s : Int), Below w.heap.size w W → Calls Tryz.prog 66 #[.agg #[.int .i64 k, .slice a ts.length cap], .int .i64 s] W fun e w' => ∃ a' c', e = .returned (.agg #[.int .i64 k, .slice a' (wo ts s).length c']) ∧ TiesAt w' a' (wo ts s) ∧ Below W.heap.size W w') := fun W s hb => (without_any s k a cap ts W (by omega) (hs.below hb)).mono fun e w' ⟨a', c', h1, h2, h3⟩ => ⟨a', c', h1, h2.1, h3⟩
  have HBW : Hid (∀ W a' c' (s : Int), TiesAt W a' (wo ts s) → Calls Tryz.prog 43 #[.agg #[.int .i64 k, .slice a' (wo ts s).length c']] W fun e w' => ∃ g, e = .returned (wkV k a' (wo ts s).length c' g k) ∧ NB w' g (grpL k (wo ts s)) ∧ Below W.heap.size W w') := fun W a' c' s h => (begin_any k a' c' (wo ts s) W hk2 (Nat.le_trans (List.length_filter_le _ _) hl) (wo_valid hv) h).mono fun e w' ⟨g, h1, _, h3, h4⟩ => ⟨g, h1, h3, h4⟩
  have HTO : Hid (∀ W a' c' g (s : Int), TiesAt W a' (wo ts s) → NB W g (grpL k (wo ts s)) → Calls Tryz.prog 67 #[wkV k a' (wo ts s).length c' g k, .int .i64 p, .int .i64 z] W fun e w' => e = .returned (.bool (told k (wo ts s) p z)) ∧ Below W.heap.size W w') := fun W a' c' g s h1 h2 => isTold_any a' c' (wo ts s) g k p z W (Nat.le_trans (List.length_filter_le _ _) hl) h1 hk2 hp hz (wo_valid hv) h2
  have HNT : Hid ((∀ l : List Int, leadF ts l ((p : Int), 0) ≠ some ((z : Int), ((0 : Nat) : Int))) → (∀ l : List Int, leadF ts l ((p : Int), 0) ≠ some ((z : Int), ((1 : Nat) : Int))) → told k ts p z = false) := fun h1 h2 => not_told hv hp hz h1 h2
  have HLT : Hid (∀ (l : List Int) (cuts : Nat), cuts ≤ 1 → leadF ts l ((p : Int), 0) = some ((z : Int), (cuts : Int)) → told k ts p z = true ∧ RstR k ts p z (Lib.compact ((rstL k ts p z l).mergeSort fun x y => decide (x ≤ y)))) := fun l cuts hc h => ⟨lead_told hv hc (by simpa using hp) (by simpa using hz) h, rst_done hv hc (by simpa using hp) (by simpa using hz) h⟩
  have HS := Lib.hid hs
  obtain ⟨m, hm⟩ : ∃ m, m = ts.length := ⟨_, rfl⟩
  have HM := Lib.hid hm
  rw [← hm] at HP HBE HSH HWO ⊢
  have FB := Lib.hid (FA.new w [.int .i64 k, .slice a m cap])
  clear h0 hs hok hxy hxy' hk' hk1 hk2 hl hv hp hz hm
  simp only [gV, wkV] at HP HBE ⊢
  go_enter Tryz.func22, Tryz.ntmps22
  go_upto_region 4 with (first | (go_at_call 50; go_loud (refine (HP.out _ FB.out.2).mono ?_; rintro e w1 ⟨rfl, hb⟩; clear HP; replace FB := Lib.hid (FB.out.below hb); clear hb)))
  have c0 := FB.out.1.cell (i := 0) rfl
  have c1 := FB.out.1.cell (i := 1) rfl
  go_upto_region 5 with (first | (go_at_call 43; go_loud (refine (HBE.out _ FB.out.2).mono ?_; rintro e w2 ⟨g, rfl, _, _, hb⟩; clear HBE c0 c1; replace FB := Lib.hid (FB.out.below hb); clear hb)))
  refine named (fun V => Hid (Blk V w2.heap.size [.int .i64 k, .slice a m cap, .slice (some ⟨g, 0, none⟩) k k] 65) ∧ Hid (FA w V [.int .i64 k, .slice a m cap])) ⟨Blk.new w2 [.int .i64 k, .slice a m cap, .slice (some ⟨g, 0, none⟩) k k] _, FB.out.below ((Below.refl _ _).alloc (Nat.le_refl _) _)⟩ ?_
  rintro V ⟨HW9, FV⟩
  clear FB
  have FB := Lib.hid FV.out
  clear FV
  generalize hb9 : w2.heap.size = b9 at HW9 ⊢
  clear hb9
  have d0 := HW9.out.cell (i := 0) rfl
  have d1 := HW9.out.cell (i := 1) rfl
  have d2 := HW9.out.cell (i := 2) rfl
  go_upto_region 6 with (first | (go_at_call 65; go_loud (refine (HSH.out _ _ 0 (by omega) FB.out.2).mono ?_; rintro e w3 ⟨u1, v1, rfl, hwp, hb⟩; clear d0 d1 d2; replace FB := Lib.hid (FB.out.below hb); replace HW9 := Lib.hid (HW9.out.below hb); have HWP := Lib.hid hwp; clear hb hwp)))
  have d0 := HW9.out.cell (i := 0) rfl
  have d1 := HW9.out.cell (i := 1) rfl
  have d2 := HW9.out.cell (i := 2) rfl
  go_upto_if 33 with (fail)
  go_cut [10, 11] (fun t10 t11 wx => FA w wx [.int .i64 k, .slice a m cap] ∧ ((t11 = .bool false ∧ told k ts p z = false) ∨ (t11 = .bool true ∧ ∃ (l : List Int) (r : Option Addr) (c cuts : Nat), t10 = .slice r l.length c ∧ cuts ≤ 1 ∧ leadF ts l ((p : Int), 0) = some ((z : Int), (cuts : Int)) ∧ l.length < 64 ∧ IntsAt wx r l)))
  case first =>
    rcases HWP.out with ⟨rfl, rfl, hn0⟩ | ⟨rfl, l, r, c, h1, h2, h3, rfl, h4⟩
    · have HN0 := Lib.hid hn0
      clear HWP hn0
      go_wp2_with (first | (go_at_call 65; go_loud (refine (HSH.out _ _ 1 (by omega) FB.out.2).mono ?_; rintro e w4 ⟨u2, v2, rfl, hwp, hb⟩; clear d0 d1 d2; replace FB := Lib.hid (FB.out.below hb); have HWP := Lib.hid hwp; clear hb hwp)))
      go_meet
      refine ⟨FB.out, ?_⟩
      rcases HWP.out with ⟨rfl, rfl, hn1⟩ | ⟨rfl, l, r, c, h1, h2, h3, rfl, h4⟩
      · exact .inl ⟨rfl, HNT.out HN0.out hn1⟩
      · exact .inr ⟨rfl, l, r, c, 1, rfl, by omega, h2, h3, (own_intsB h4).2⟩
    · have HR : Hid (leadF ts l ((p : Int), 0) = some ((z : Int), ((0 : Nat) : Int)) ∧ l.length < 64 ∧ IntsAt w3 r l) := ⟨h2, h3, (own_intsB h4).2⟩
      clear HWP h1 h2 h3 h4
      go_wp2_with fail
      go_meet
      exact ⟨FB.out, .inr ⟨rfl, l, r, c, 0, rfl, by omega, HR.out⟩⟩
  case rest =>
  obtain ⟨hfa, hcs⟩ := hcut
  clear FB HWP HSH HW9 d0 d1 d2 HNT
  have FB := Lib.hid hfa
  clear hfa
  rcases hcs with ⟨rfl, htf⟩ | ⟨rfl, l, r, c, cuts, rfl, hcu, hle, h64, hI⟩
  · have HTF := Lib.hid htf
    clear htf
    go_wp2_with fail
    refine bodyPost_ret (v := .tuple #[.slice none 0 0, .int .i64 4]) (by simp [results, Tryz.results22, go_sem]) rfl ?_
    exact ⟨.inl ⟨HTF.out, rfl⟩, FB.out.2⟩
  · have HI := Lib.hid hI
    obtain ⟨htt, hrr⟩ := HLT.out l cuts hcu hle
    have HTT := Lib.hid htt
    have HRR := Lib.hid hrr
    have HVA : Hid (∀ i ∈ l, 0 ≤ i ∧ ∃ t, ts[i.toNat]? = some t) := lead_valid hle
    obtain ⟨q, hq⟩ : ∃ q, q = l.length := ⟨_, rfl⟩
    have HQ := Lib.hid hq
    rw [← hq] at h64 ⊢
    clear htt hrr hcu hle hI hq HLT
    go_wp2_with fail
    have HO0 : Hid (wc.ownsRow wc.heap.size 3 1 (.slice none 0 0) 0 (ivL (rstL k ts p z (l.take 0)))) := World.ownsRow_nil _ _ _ _
    go_loopg [12, 14, 15, 45] q (fun gk t12 t14 t15 t45 wr => ∃ (j : Nat) (fa : Option Addr) (sl fc : Nat), j + gk = q ∧ t45 = .int .i64 j ∧ t12 = .slice fa sl fc ∧ Hid (wr.ownsRow wc.heap.size 3 1 (.slice fa sl fc) sl (ivL (rstL k ts p z (l.take j)))) ∧ Hid (sl ≤ j) ∧ Hid (Below wc.heap.size wc wr))
    case atStart => exact ⟨0, none, 0, 0, by omega, rfl, rfl, HO0, Nat.le_refl _, Below.refl _ _⟩
    case round =>
      clear HO0
      obtain ⟨j, fa, sl, fc, hjg, rfl, rfl, HO, HSL, HB⟩ := hrel
      by_cases hlt : j < q
      · have hjl : j < l.length := by rw [← HQ.out]; exact hlt
        have FBW := Lib.hid (FB.out.below HB.out)
        have c0 := FBW.out.1.cell (i := 0) rfl
        have c1 := FBW.out.1.cell (i := 1) rfl
        obtain ⟨rb, ro, rfl, hrb, x0⟩ := (HI.out.below HB.out).at hjl
        obtain ⟨hv0, t, ht⟩ := HVA.out _ (List.getElem_mem hjl)
        have hst := rst_step (n := k) (x := p) (y := z) hjl ht
        obtain ⟨v, hv⟩ : ∃ v, v = l[j] := ⟨_, rfl⟩
        rw [← hv] at x0 hv0 ht
        clear hv
        obtain ⟨i, rfl⟩ := Int.eq_ofNat_of_zero_le hv0
        rw [Int.toNat_natCast] at ht
        obtain ⟨hil, hti⟩ := List.getElem?_eq_some_iff.1 ht
        obtain ⟨lb, lo, rfl, hlb, y0, y1, y2, y3, y4⟩ := (HS.out.below FBW.out.2).at hil
        rw [hti] at y4
        have him : i < m := by rw [HM.out]; exact hil
        have HST := Lib.hid hst
        clear hst hv0 ht hil hti y0 y1 y2 y3
        obtain ⟨s, hs'⟩ : ∃ s, s = t.src := ⟨_, rfl⟩
        rw [← hs'] at y4
        rw [← hs'] at HST
        clear hs'
        obtain ⟨TT, hTT⟩ : ∃ TT, TT = told k (wo ts s) p z := ⟨_, rfl⟩
        have HTJ : Hid (∀ W a' c' g, TiesAt W a' (wo ts s) → NB W g (grpL k (wo ts s)) → Calls Tryz.prog 67 #[wkV k a' (wo ts s).length c' g k, .int .i64 p, .int .i64 z] W fun e w' => e = .returned (.bool TT) ∧ Below W.heap.size W w') := fun W a' c' g h1 h2 => by rw [hTT]; exact HTO.out W a' c' g s h1 h2
        rw [← hTT] at HST
        clear hTT
        simp only [wkV] at HTJ
        cases TT
        · go_upto_region 16 with (first | (go_at_call 66; go_loud (refine (HWO.out _ s FBW.out.2).mono ?_; rintro e w4 ⟨a4, k4, rfl, ht4, hb⟩; have HX4 := Lib.hid ht4; have HB4 := Lib.hid (HB.out.trans (hb.mono HB.out.size)); have HO4 := Lib.hid (own_below HO.out hb); clear hb ht4 c0 c1 x0 y4 FBW hrb hlb)) | (go_at_call 43; go_loud (refine (HBW.out _ _ _ _ HX4.out).mono ?_; rintro e w5 ⟨g5, rfl, hg5, hb⟩; have HX5 := Lib.hid (HX4.out.below hb); have HB5 := Lib.hid (HB4.out.trans (hb.mono HB4.out.size)); have HO5 := Lib.hid (own_below HO4.out hb); have HG5 := Lib.hid hg5; clear hb hg5; simp only [wkV])) | (go_at_call 67; go_loud (refine (HTJ.out _ _ _ _ HX5.out HG5.out).mono ?_; rintro e w6 ⟨rfl, hb⟩; have HB6 := Lib.hid (HB5.out.trans (hb.mono HB5.out.size)); have HO6 := Lib.hid (own_below HO5.out hb); clear hb)))
          have hsl := HSL.out
          have HO7 : Hid ((w6.alloc (.cells #[.int .i64 s] 3)).ownsRow wc.heap.size 3 1 (.slice fa sl fc) sl (ivL (rstL k ts p z (l.take j)))) := HO6.out.alloc _
          have HB7 : Hid (Below wc.heap.size wc (w6.alloc (.cells #[.int .i64 s] 3))) := HB6.out.alloc HB6.out.size _
          have HNEW : Hid ((w6.alloc (.cells #[.int .i64 s] 3)).cell? ⟨w6.heap.size, 0, none⟩ = some (.int .i64 s)) := (Blk.new w6 [.int .i64 s] 3).cell rfl
          go_wp2_with (first | (at_builtin; go_loud (obtain ⟨f2, c2, w8, hr, hown, hgrow⟩ := own_int (w6.alloc (.cells #[.int .i64 s] 3)) wc.heap.size sl 27 fa fc (ivL (rstL k ts p z (l.take j))) w6.heap.size s HO7.out HNEW.out (by omega) HB7.out.size; refine Lib.wpList_append_run _ rfl _ _ _ _ rfl _ _ rfl rfl _ _ hr ?_; clear hr; have KO := Lib.hid hown; have KB : Hid (Below wc.heap.size wc w8) := HB7.out.grown hgrow HB7.out.size (fun q' hq' => (World.ownsRow.lt HO7.out q' hq').1); clear hown hgrow)))
          go_roundg (gk - 1)
          case measure => omega
          case rel => exact ⟨j + 1, f2, sl + 1, c2, by omega, by simp, rfl, (by rw [HST.out]; simp only [Bool.false_eq_true, if_false]; rw [ivL_snoc]; exact KO.out), (by rw [Hid]; omega), KB⟩
        · go_wp2_with (first | (go_at_call 66; go_loud (refine (HWO.out _ s FBW.out.2).mono ?_; rintro e w4 ⟨a4, k4, rfl, ht4, hb⟩; have HX4 := Lib.hid ht4; have HB4 := Lib.hid (HB.out.trans (hb.mono HB.out.size)); have HO4 := Lib.hid (own_below HO.out hb); clear hb ht4 c0 c1 x0 y4 FBW hrb hlb)) | (go_at_call 43; go_loud (refine (HBW.out _ _ _ _ HX4.out).mono ?_; rintro e w5 ⟨g5, rfl, hg5, hb⟩; have HX5 := Lib.hid (HX4.out.below hb); have HB5 := Lib.hid (HB4.out.trans (hb.mono HB4.out.size)); have HO5 := Lib.hid (own_below HO4.out hb); have HG5 := Lib.hid hg5; clear hb hg5; simp only [wkV])) | (go_at_call 67; go_loud (refine (HTJ.out _ _ _ _ HX5.out HG5.out).mono ?_; rintro e w6 ⟨rfl, hb⟩; have HB6 := Lib.hid (HB5.out.trans (hb.mono HB5.out.size)); have HO6 := Lib.hid (own_below HO5.out hb); clear hb)))
          have hsl := HSL.out
          go_roundg (gk - 1)
          case measure => omega
          case rel => exact ⟨j + 1, fa, sl, fc, by omega, by simp, rfl, (by rw [HST.out]; simp only [if_true, List.append_nil]; exact HO6.out), (by rw [Hid]; omega), HB6⟩
      · have e : j = q := by omega
        have hts : l.take j = l := List.take_of_length_le (by rw [← HQ.out]; omega)
        rw [hts] at HO
        clear hts e
        obtain ⟨hsl, _⟩ := own_intsB HO.out
        obtain ⟨S, hS⟩ : ∃ S, S = rstL k ts p z l := ⟨_, rfl⟩
        rw [← hS] at HO HRR hsl
        clear hS
        subst hsl
        have hs1 := HSL.out
        have HSO : Hid (Calls Tryz.prog 68 #[.slice fa S.length fc] wr fun e w' => (∃ u, e = .returned u) ∧ w'.ownsRow wc.heap.size 3 1 (.slice fa S.length fc) S.length (ivL (S.mergeSort fun x y => decide (x ≤ y))) ∧ Below wc.heap.size wr w') := sort_any wr wc.heap.size fa fc S (by omega) HB.out.size HO.out
        obtain ⟨Z, hZ⟩ : ∃ Z, Z = S.mergeSort fun x y => decide (x ≤ y) := ⟨_, rfl⟩
        have hzl : S.length = Z.length := by rw [hZ]; simp
        rw [← hZ] at HSO HRR
        rw [hzl] at HSO hs1 ⊢
        have HCO : Hid (∀ W, wc.heap.size ≤ W.heap.size → W.ownsRow wc.heap.size 3 1 (.slice fa Z.length fc) Z.length (ivL Z) → Calls Tryz.prog 69 #[.slice fa Z.length fc] W fun e w' => (∃ c, e = .returned (.slice fa (Lib.compact Z).length c)) ∧ IntsAt w' fa (Lib.compact Z) ∧ Below wc.heap.size W w') := fun W h1 h2 => compact_any W wc.heap.size fa fc Z (by omega) h1 h2
        have HCL : Hid ((Lib.compact Z).length ≤ 64) := by have := compact_len Z; rw [Hid]; omega
        clear hZ hzl HO
        generalize hZL : Z.length = zl at *
        go_wp2_with (first | (go_at_call 68; go_loud (refine HSO.out.mono ?_; rintro e w4 ⟨⟨us, rfl⟩, ho, hb⟩; have HO4 := Lib.hid ho; have HB4 := Lib.hid (HB.out.trans hb); clear ho hb)) | (go_at_call 69; go_loud (refine (HCO.out _ HB4.out.size HO4.out).mono ?_; rintro e w5 ⟨⟨c5, rfl⟩, hi, hb⟩; have HI5 := Lib.hid hi; have HB5 := Lib.hid (HB4.out.trans hb); clear hi hb)))
        refine bodyPost_ret (v := .tuple #[.slice fa (Lib.compact Z).length c5, .int .i64 0]) (by simp [results, Tryz.results22, go_sem]) rfl ?_
        exact ⟨.inr ⟨HTT.out, _, fa, c5, rfl, HCL.out, HRR.out, HI5.out⟩, FB.out.2.trans (HB5.out.mono FB.out.2.size)⟩
end Go.Proofs.YthjeiaildabadaaGreat
/- Layer 4: the law TiesRests, where it speaks. -/
namespace Go.Proofs.YthjeiaildabadaaGreat
set_option linter.unusedSimpArgs false
set_option linter.unusedVariables false
open Go Go.RowKit

/-- The answer of Rests, apart from the graph. -/
def RsB (S A : Bool) (RR : List Int → Prop) (u : Value) (E : Int) (w : World) : Prop := (S = false ∧ A = false ∧ E = 4 ∧ u = .slice none 0 0) ∨ ((S || A) = true ∧ E = 0 ∧ ∃ (R : List Int) (r : Option Addr) (c : Nat), u = .slice r R.length c ∧ R.length ≤ 64 ∧ RR R ∧ IntsAt w r R)
theorem RsB.below {S A : Bool} {RR : List Int → Prop} {u : Value} {E : Int} {w w' : World} (h : RsB S A RR u E w) (hb : Below w.heap.size w w') : RsB S A RR u E w' := by
  rcases h with h | ⟨h1, h2, R, r, c, h3, h4, h5, h6⟩
  · exact .inl h
  · exact .inr ⟨h1, h2, R, r, c, h3, h4, h5, h6.below hb⟩
set_option maxRecDepth 100000 in
set_option maxHeartbeats 8000000 in
theorem tiesRests_yes (k p z s : Nat) (a : Option Addr) (cap m ul : Nat) (us : List TieD) (w : World) (S A S2 A2 : Bool) (RR : List Int → Prop) (hp : p < k) (hz : z < k) (hs95 : s ≤ 4095) (hul : ul ≤ m) (hm9 : m ≤ 600) (HUL : Hid (ul = us.length)) (HSRC : Hid (∀ t ∈ us, t.src ≠ (s : Int)))
    (HSA : Hid (∀ W, Calls Tryz.prog 10 #[] W fun e w' => e = .returned (.bool true) ∧ Below W.heap.size W w'))
    (HF : Hid (∀ W, Calls Tryz.prog 11 #[.agg #[.int .i64 k, .slice a m cap]] W fun e w' => e = .returned (.bool true) ∧ Below W.heap.size W w'))
    (HC : Hid (∀ W, Below w.heap.size w W → Calls Tryz.prog 24 #[.agg #[.int .i64 k, .slice a m cap]] W fun e w' => e = .returned (.int .i64 0) ∧ Below W.heap.size W w'))
    (HRE : Hid (∀ W, Below w.heap.size w W → Calls Tryz.prog 22 #[.agg #[.int .i64 k, .slice a m cap], .int .i64 p, .int .i64 z] W fun e w' => ∃ u E, e = .returned (.tuple #[u, .int .i64 E]) ∧ RsB S A RR u E w' ∧ Below W.heap.size W w'))
    (HS : Hid (∀ W, Below w.heap.size w W → Calls Tryz.prog 25 #[.agg #[.int .i64 k, .slice a m cap], .int .i64 p, .int .i64 z] W fun e w' => e = .returned (.tuple #[.bool S, .int .i64 0]) ∧ Below W.heap.size W w'))
    (HA : Hid (∀ W, Below w.heap.size w W → Calls Tryz.prog 31 #[.agg #[.int .i64 k, .slice a m cap], .int .i64 p, .int .i64 z] W fun e w' => e = .returned (.tuple #[.bool A, .int .i64 0]) ∧ Below W.heap.size W w'))
    (HWO : Hid (∀ W, Below w.heap.size w W → Calls Tryz.prog 32 #[.agg #[.int .i64 k, .slice a m cap], .int .i64 s] W fun e w' => ∃ a2 c2, e = .returned (.tuple #[.agg #[.int .i64 k, .slice a2 ul c2], .int .i64 0]) ∧ TiesAt w' a2 us ∧ Below W.heap.size W w'))
    (HS2 : Hid (∀ W a2 c2, TiesAt W a2 us → Calls Tryz.prog 25 #[.agg #[.int .i64 k, .slice a2 ul c2], .int .i64 p, .int .i64 z] W fun e w' => e = .returned (.tuple #[.bool S2, .int .i64 0]) ∧ Below W.heap.size W w'))
    (HA2 : Hid (∀ W a2 c2, TiesAt W a2 us → Calls Tryz.prog 31 #[.agg #[.int .i64 k, .slice a2 ul c2], .int .i64 p, .int .i64 z] W fun e w' => e = .returned (.tuple #[.bool A2, .int .i64 0]) ∧ Below W.heap.size W w'))
    (HHA : Hid (∀ W (R : List Int) r c, R.length ≤ 64 → RR R → IntsAt W r R → Calls Tryz.prog 33 #[.slice r R.length c, .int .i64 s] W fun e w' => e = .returned (.bool (!S2 && !A2)) ∧ Below W.heap.size W w'))
    (HINC : Hid (∀ R, RR R → R.Pairwise (· < ·))) (HSS : Hid (S2 = true → S = true)) (HAA : Hid (A2 = true → A = true))
    : Calls Tryz.prog 9 #[.agg #[.int .i64 k, .slice a m cap], .int .i64 p, .int .i64 z, .int .i64 s] w fun e w' => e = .returned (.bool true) ∧ Below w.heap.size w w' := by
  have FB := Lib.hid (FA.new w [.int .i64 k, .slice a m cap])
  have t1 : decide ((k : Int) ≤ (p : Int)) = false := decide_eq_false (by omega)
  have t2 : decide (k ≤ p) = false := decide_eq_false (by omega)
  have t3 : decide ((k : Int) ≤ (z : Int)) = false := decide_eq_false (by omega)
  have t4 : decide (k ≤ z) = false := decide_eq_false (by omega)
  have t5 : decide ((p : Int) < 0) = false := decide_eq_false (by omega)
  have t6 : decide ((z : Int) < 0) = false := decide_eq_false (by omega)
  have t7 : decide ((s : Int) < 0) = false := decide_eq_false (by omega)
  have t8 : decide ((4095 : Int) < (s : Int)) = false := decide_eq_false (by omega)
  have t9 : decide (4095 < s) = false := decide_eq_false (by omega)
  have HLM : Hid (ul ≤ m ∧ m ≤ 600) := ⟨hul, hm9⟩
  clear hp hz hs95 hul
  go_enter Tryz.func9, Tryz.ntmps9
  go_upto_region 5 with (first | (go_at_call 10; refine (HSA.out _).mono ?_; rintro e w1 ⟨rfl, hb⟩; clear HSA; replace FB := Lib.hid (FB.out.below hb); clear hb; have c0 := FB.out.1.cell (i := 0) rfl; have c1 := FB.out.1.cell (i := 1) rfl) | (go_at_call 11; refine (HF.out _).mono ?_; rintro e w2 ⟨rfl, hb⟩; clear HF c0 c1; replace FB := Lib.hid (FB.out.below hb); clear hb; have c0 := FB.out.1.cell (i := 0) rfl; have c1 := FB.out.1.cell (i := 1) rfl) | (go_at_call 24; refine (HC.out _ FB.out.2).mono ?_; rintro e w3 ⟨rfl, hb⟩; clear HC c0 c1; replace FB := Lib.hid (FB.out.below hb); clear hb; have c0 := FB.out.1.cell (i := 0) rfl; have c1 := FB.out.1.cell (i := 1) rfl))
  clear t1 t2 t3 t4 t5 t6 t7 t8 t9
  go_upto_region 6 with (first | (go_at_call 22; go_loud (refine (HRE.out _ FB.out.2).mono ?_; rintro e w4 ⟨u, E, rfl, hu, hb⟩; clear HRE c0 c1; replace FB := Lib.hid (FB.out.below hb); have HU := Lib.hid hu; clear hb hu)))
  have c0 := FB.out.1.cell (i := 0) rfl
  have c1 := FB.out.1.cell (i := 1) rfl
  go_upto_region 7 with (first | (go_at_call 25; go_loud (refine (HS.out _ FB.out.2).mono ?_; rintro e w5 ⟨rfl, hb⟩; clear HS c0 c1; replace FB := Lib.hid (FB.out.below hb); replace HU := Lib.hid (HU.out.below hb); clear hb)))
  have c0 := FB.out.1.cell (i := 0) rfl
  have c1 := FB.out.1.cell (i := 1) rfl
  go_upto_region 8 with (first | (go_at_call 31; go_loud (refine (HA.out _ FB.out.2).mono ?_; rintro e w6 ⟨rfl, hb⟩; clear HA c0 c1; replace FB := Lib.hid (FB.out.below hb); replace HU := Lib.hid (HU.out.below hb); clear hb)))
  have c0 := FB.out.1.cell (i := 0) rfl
  have c1 := FB.out.1.cell (i := 1) rfl
  go_upto_region 9 with (first | (go_at_call 32; go_loud (refine (HWO.out _ FB.out.2).mono ?_; rintro e w7 ⟨a2, c2, rfl, ht, hb⟩; clear HWO c0 c1; replace FB := Lib.hid (FB.out.below hb); replace HU := Lib.hid (HU.out.below hb); have HTU := Lib.hid ht; clear hb ht)))
  refine named (fun V => Hid (Blk V w7.heap.size [.int .i64 k, .slice a2 ul c2] 24) ∧ Hid (Below w7.heap.size w7 V)) ⟨Blk.new w7 [.int .i64 k, .slice a2 ul c2] _, (Below.refl _ _).alloc (Nat.le_refl _) _⟩ ?_
  rintro V ⟨H15, HBV⟩
  replace FB := Lib.hid (FB.out.below HBV.out)
  replace HU := Lib.hid (HU.out.below HBV.out)
  replace HTU := Lib.hid (HTU.out.below HBV.out)
  generalize hb15 : w7.heap.size = b15 at H15 ⊢
  clear hb15 HBV
  have c1 := FB.out.1.cell (i := 1) rfl
  have d1 := H15.out.cell (i := 1) rfl
  have t1 : decide ((m : Int) < (ul : Int)) = false := decide_eq_false (by have := HLM.out; omega)
  have t2 : decide (m < ul) = false := decide_eq_false (by have := HLM.out; omega)
  go_cut [117] (fun s117 wx => s117 = .bool false ∧ FA w wx [.int .i64 k, .slice a m cap] ∧ Blk wx b15 [.int .i64 k, .slice a2 ul c2] 24 ∧ RsB S A RR u E wx ∧ TiesAt wx a2 us)
  case first =>
    rcases HU.out with ⟨h1, h2, h3, h4⟩ | ⟨h1, h2, h3⟩
    · have HX : Hid (RsB S A RR u E V) := HU.out
      subst h1 h2 h3
      clear HU h4
      go_wp2_with fail
      go_meet
      exact ⟨rfl, FB.out, H15.out, HX.out, HTU.out⟩
    · have HX : Hid (RsB S A RR u E V) := HU.out
      subst h2
      clear HU h3
      cases S <;> cases A
      · cases h1
      all_goals (
        clear h1
        go_wp2_with fail
        go_meet
        exact ⟨rfl, FB.out, H15.out, HX.out, HTU.out⟩)
  case rest =>
  obtain ⟨rfl, hf, h15, hu, htu⟩ := hcut
  clear FB H15 HU HTU c1 d1 t1 t2
  have FB := Lib.hid hf
  have H15 := Lib.hid h15
  have HU := Lib.hid hu
  have HTU := Lib.hid htu
  clear hf h15 hu htu
  have d1 := H15.out.cell (i := 1) rfl
  go_wp2_with fail
  clear d1
  have hu9 : ul ≤ 600 := by have := HLM.out; omega
  go_loopg [17] ul (fun gk t17 wr => ∃ j : Nat, j + gk = ul ∧ t17 = .int .i64 j ∧ Hid (FA w wr [.int .i64 k, .slice a m cap]) ∧ Hid (Blk wr b15 [.int .i64 k, .slice a2 ul c2] 24) ∧ Hid (RsB S A RR u E wr) ∧ Hid (TiesAt wr a2 us))
  case atStart => exact ⟨0, by omega, rfl, FB, H15, HU, HTU⟩
  case round =>
    clear FB H15 HU HTU
    obtain ⟨j, hjg, rfl, FB, H15, HU, HTU⟩ := hrel
    have d0 := H15.out.cell (i := 0) rfl
    have d1 := H15.out.cell (i := 1) rfl
    by_cases hlt : j < ul
    · have hjl : j < us.length := by rw [← HUL.out]; exact hlt
      obtain ⟨lb, lo, rfl, hlb, y0, y1, y2, y3, y4⟩ := HTU.out.at hjl
      have hne := HSRC.out us[j] (List.getElem_mem hjl)
      obtain ⟨x, hx⟩ : ∃ x, x = us[j].src := ⟨_, rfl⟩
      rw [← hx] at y4 hne
      have u1 : (x == (s : Int)) = false := by simpa using hne
      clear hjl hlb y0 y1 y2 y3 hne hx d0
      go_wp2_with fail
      go_roundg (gk - 1)
      case measure => omega
      case rel => exact ⟨j + 1, by omega, by simp, FB, H15, HU, HTU⟩
    · have t1 : decide ((j : Int) < (ul : Int)) = false := decide_eq_false (by omega)
      have t2 : decide (j < ul) = false := decide_eq_false (by omega)
      clear hlt
      go_upto_region 17 with (first | (go_at_call 25; go_loud (refine (HS2.out _ _ _ HTU.out).mono ?_; rintro e w8 ⟨rfl, hb⟩; clear HS2 d0 d1; replace FB := Lib.hid (FB.out.below hb); replace H15 := Lib.hid (H15.out.below hb); replace HU := Lib.hid (HU.out.below hb); replace HTU := Lib.hid (HTU.out.below hb); clear hb)))
      clear t1 t2
      have d0 := H15.out.cell (i := 0) rfl
      have d1 := H15.out.cell (i := 1) rfl
      go_upto_region 18 with (first | (go_at_call 31; go_loud (refine (HA2.out _ _ _ HTU.out).mono ?_; rintro e w9 ⟨rfl, hb⟩; clear HA2 d0 d1; replace FB := Lib.hid (FB.out.below hb); replace HU := Lib.hid (HU.out.below hb); clear hb)))
      clear H15 HTU
      go_cut [166] (fun s166 wx => s166 = .bool false ∧ FA w wx [.int .i64 k, .slice a m cap] ∧ RsB S A RR u E wx)
      case first =>
        cases S <;> cases A <;> cases S2 <;> cases A2
        all_goals (first
          | exact absurd (HSS.out rfl) (by decide)
          | exact absurd (HAA.out rfl) (by decide)
          | (go_wp2_with fail
             go_meet
             exact ⟨rfl, FB.out, HU.out⟩))
      case rest =>
      obtain ⟨rfl, hf, hu⟩ := hcut
      clear FB HU HSS HAA
      have FB := Lib.hid hf
      clear hf
      rcases hu with ⟨rfl, rfl, rfl, rfl⟩ | ⟨_, rfl, R, r, rc, rfl, hr64, hrr, hi⟩
      · clear HHA HINC
        go_wp2_with fail
        go_ret
        exact ⟨rfl, FB.out.2⟩
      · have HI := Lib.hid hi
        have HIN := Lib.hid (HINC.out R hrr)
        replace HHA := Lib.hid (fun W => HHA.out W R r rc hr64 hrr)
        obtain ⟨rl, hrl⟩ : ∃ rl, rl = R.length := ⟨_, rfl⟩
        have HRL := Lib.hid hrl
        rw [← hrl] at HHA hr64 ⊢
        clear hi hrr hrl HINC
        go_wp2_with fail
        go_loopg [22] rl (fun gk t22 wr => ∃ j : Nat, j + gk = rl ∧ t22 = .int .i64 j ∧ Hid (FA w wr [.int .i64 k, .slice a m cap]) ∧ Hid (IntsAt wr r R))
        case atStart => exact ⟨0, by omega, rfl, FB, HI⟩
        case round =>
          clear FB HI
          obtain ⟨j, hjg, rfl, FB, HI⟩ := hrel
          by_cases hlt : j < rl
          · have hjl : j < R.length := by rw [← HRL.out]; exact hlt
            obtain ⟨rb, ro, rfl, hrb, x0h⟩ := HI.out.at hjl
            have HJQ := Lib.hid hlt
            have HRB := Lib.hid hrb
            have HJB : Hid (j ≤ 100000) := by rw [Hid]; omega
            have HOWD : Hid (∀ w1, (clOld wr.drew).C w1 → Below wr.heap.size wr w1) := fun w1 hC => old_end (Below.refl _ _) hC (Nat.le_refl _)
            have HPX : Hid (∀ w1 x y, (clOld wr.drew).C w1 → wr.cell? ⟨rb, x, none⟩ = some y → w1.cell? ⟨rb, x, none⟩ = some y) := fun w1 x y hC h => by rw [Below.cell (HOWD.out w1 hC) (by exact HRB.out)]; exact h
            by_cases hj0 : j = 0
            · have HJ0 := Lib.hid hj0
              clear hj0 x0h hrb hjl
              go_upto_region 25 with (fail)
              refine wp_region_old 14 206 (by kernel_rfl) (by kernel_rfl) (by rfl) ?_
              simp only [List.take_succ_cons, List.take_zero, List.drop_succ_cons, List.drop_zero, List.drop_nil]
              refine chain_move (.int .i64 j) _ (fun _ _ => Below.refl _ _) rfl rfl (by kernel_rfl) (by kernel_rfl) rfl ?_
              refine chain_val (.bool false) (fun _ _ => Below.refl _ _) rfl (by intro cs b h; cases h) (by kernel_rfl) (by kernel_rfl) (fun w1 _ => by have := HJ0.out; subst this; simp [execOp, evE, lk_cons, lk_nil, slotL, go_sem]) ?_
              refine chain_move (.bool false) _ (fun _ _ => Below.refl _ _) rfl rfl (by kernel_rfl) (by kernel_rfl) rfl ?_
              refine chain_skip rfl (by kernel_rfl) ?_
              refine chain_skip rfl (by kernel_rfl) ?_
              refine chain_skip rfl (by kernel_rfl) ?_
              refine chain_skip rfl (by kernel_rfl) ?_
              refine chain_skip rfl (by kernel_rfl) ?_
              refine chain_skip rfl (by kernel_rfl) ?_
              refine chain_skip rfl (by kernel_rfl) ?_
              refine chain_skip rfl (by kernel_rfl) ?_
              refine chain_skip rfl (by kernel_rfl) ?_
              refine chain_skip rfl (by kernel_rfl) ?_
              refine chain_pick (.bool false) _ _ _ false (fun _ _ => Below.refl _ _) rfl rfl (by kernel_rfl) (by kernel_rfl) rfl rfl ?_
              refine chain_end (by rfl) ?_
              intro xs w5 hCw5 hrew5
              simp only [layE, List.foldr_cons, List.foldr_nil, List.set_cons_succ, List.set_cons_zero]
              have HY := Lib.hid (HOWD.out w5 hCw5)
              clear hCw5 hrew5 HOWD HPX
              go_wp2_with fail
              go_roundg (gk - 1)
              case measure => omega
              case rel => exact ⟨j + 1, by omega, by simp, FB.out.below HY.out, HI.out.below HY.out⟩
            · obtain ⟨j1, hj1⟩ : ∃ j1, j = j1 + 1 := ⟨j - 1, by omega⟩
              have HJ1 := Lib.hid hj1
              have hj1l : j1 < R.length := by omega
              obtain ⟨_, _, e2, _, x1h⟩ := HI.out.at hj1l
              cases e2
              have HJQ1 : Hid (j1 < rl) := by rw [Hid]; omega
              have hlt2 : R[j1] < R[j] := (List.pairwise_iff_getElem.1 HIN.out) j1 j hj1l hjl (by omega)
              obtain ⟨x1, hx1⟩ : ∃ x1, x1 = R[j1] := ⟨_, rfl⟩
              obtain ⟨x0, hx0⟩ : ∃ x0, x0 = R[j] := ⟨_, rfl⟩
              rw [← hx1] at x1h hlt2
              rw [← hx0] at x0h hlt2
              have HP0 := Lib.hid x0h
              have HP1 := Lib.hid x1h
              have HLT := Lib.hid hlt2
              clear hj0 x0h x1h hrb hjl hj1l hlt2 hx0 hx1 hj1
              go_upto_region 25 with (fail)
              refine wp_region_old 14 206 (by kernel_rfl) (by kernel_rfl) (by rfl) ?_
              simp only [List.take_succ_cons, List.take_zero, List.drop_succ_cons, List.drop_zero, List.drop_nil]
              refine chain_move (.int .i64 j) _ (fun _ _ => Below.refl _ _) rfl rfl (by kernel_rfl) (by kernel_rfl) rfl ?_
              refine chain_val (.bool true) (fun _ _ => Below.refl _ _) rfl (by intro cs b h; cases h) (by kernel_rfl) (by kernel_rfl) (fun w1 _ => by have := HJ1.out; simp [execOp, evE, lk_cons, lk_nil, slotL, go_sem]; omega) ?_
              refine chain_move (.bool true) _ (fun _ _ => Below.refl _ _) rfl rfl (by kernel_rfl) (by kernel_rfl) rfl ?_
              refine chain_move (.slice (some ⟨rb, ro, none⟩) rl rc) _ (fun _ _ => Below.refl _ _) rfl rfl (by kernel_rfl) (by kernel_rfl) rfl ?_
              refine chain_move (.int .i64 j) _ (fun _ _ => Below.refl _ _) rfl rfl (by kernel_rfl) (by kernel_rfl) rfl ?_
              refine chain_bin (.int .i64 (j1 : Int)) _ _ _ _ _ (.int .i64 j) (.int .i64 1) (fun _ _ => Below.refl _ _) rfl rfl (by kernel_rfl) (by kernel_rfl) rfl rfl (fun w1 => by rw [show (j1 : Int) = (j : Int) - 1 by have := HJ1.out; omega]; exact sub_1 _ _ _ _ HJB.out w1) ?_
              refine chain_idx (.pointer (some ⟨rb, ro + j1, none⟩)) _ _ _ (.slice (some ⟨rb, ro, none⟩) rl rc) (.int .i64 (j1 : Int)) (fun _ _ => Below.refl _ _) rfl rfl (by kernel_rfl) (by kernel_rfl) rfl rfl (fun w1 => idx_i64 _ _ _ _ _ HJQ1.out w1) ?_
              refine chain_load (.int .i64 x1) _ _ _ (fun _ _ => Below.refl _ _) rfl rfl (by kernel_rfl) (by kernel_rfl) rfl (fun w1 hC => load_i64 (HPX.out w1 _ _ hC HP1.out)) ?_
              refine chain_move (.slice (some ⟨rb, ro, none⟩) rl rc) _ (fun _ _ => Below.refl _ _) rfl rfl (by kernel_rfl) (by kernel_rfl) rfl ?_
              refine chain_move (.int .i64 j) _ (fun _ _ => Below.refl _ _) rfl rfl (by kernel_rfl) (by kernel_rfl) rfl ?_
              refine chain_idx (.pointer (some ⟨rb, ro + j, none⟩)) _ _ _ (.slice (some ⟨rb, ro, none⟩) rl rc) (.int .i64 j) (fun _ _ => Below.refl _ _) rfl rfl (by kernel_rfl) (by kernel_rfl) rfl rfl (fun w1 => idx_i64 _ _ _ _ _ HJQ.out w1) ?_
              refine chain_load (.int .i64 x0) _ _ _ (fun _ _ => Below.refl _ _) rfl rfl (by kernel_rfl) (by kernel_rfl) rfl (fun w1 hC => load_i64 (HPX.out w1 _ _ hC HP0.out)) ?_
              refine chain_val (.bool false) (fun _ _ => Below.refl _ _) rfl (by intro cs b h; cases h) (by kernel_rfl) (by kernel_rfl) (fun w1 _ => by have := HLT.out; simp [execOp, evE, lk_cons, lk_nil, slotL, go_sem]; omega) ?_
              refine chain_pick (.bool false) _ _ _ true (fun _ _ => Below.refl _ _) rfl rfl (by kernel_rfl) (by kernel_rfl) rfl rfl ?_
              refine chain_end (by rfl) ?_
              intro xs w5 hCw5 hrew5
              simp only [layE, List.foldr_cons, List.foldr_nil, List.set_cons_succ, List.set_cons_zero]
              have HY := Lib.hid (HOWD.out w5 hCw5)
              clear hCw5 hrew5 HOWD HPX
              go_wp2_with fail
              go_roundg (gk - 1)
              case measure => omega
              case rel => exact ⟨j + 1, by omega, by simp, FB.out.below HY.out, HI.out.below HY.out⟩
          · have t1 : decide ((j : Int) < (rl : Int)) = false := decide_eq_false (by omega)
            have t2 : decide (j < rl) = false := decide_eq_false (by omega)
            clear hlt
            cases S2 <;> cases A2
            all_goals (
              go_wp2_with (first | (go_at_call 33; go_loud (refine (HHA.out _ HI.out).mono ?_; rintro e w8 ⟨rfl, hb⟩; replace FB := Lib.hid (FB.out.below hb); clear hb HHA)))
              go_ret
              exact ⟨rfl, FB.out.2⟩)
end Go.Proofs.YthjeiaildabadaaGreat
/- Layer 4: the law TiesRests, for all arguments. -/
namespace Go.Proofs.YthjeiaildabadaaGreat
set_option linter.unusedSimpArgs false
set_option linter.unusedVariables false
open Go Go.RowKit

set_option maxRecDepth 100000 in
set_option maxHeartbeats 8000000 in
theorem tiesRests_no (n : Int) (a : Option Addr) (cap m : Nat) (ts : List TieD) (x y s : Int) (w : World) (hl : m = ts.length) (hl1 : m ≤ 9223372036854775807) (hs : TiesAt w a ts)
    (hno : fewB m = false ∨ errA n ts x y ≠ 0 ∨ s < 0 ∨ 4095 < s)
    (hsane : ∀ W, Calls Tryz.prog 10 #[] W fun e w' => e = .returned (.bool true) ∧ Below W.heap.size W w') :
    Calls Tryz.prog 9 #[gV n a m cap, .int .i64 x, .int .i64 y, .int .i64 s] w fun e w' => e = .returned (.bool true) ∧ Below w.heap.size w w' := by
  have HSA := Lib.hid hsane
  have HC : Hid (∀ W, Below w.heap.size w W → Calls Tryz.prog 24 #[gV n a m cap] W fun e w' => e = .returned (.int .i64 (errG n ts)) ∧ Below W.heap.size W w') := fun W hb => by rw [hl]; exact tCheck_any n a cap ts W (by rw [← hl]; exact hl1) (hs.below hb)
  have HF : Hid (∀ W, Calls Tryz.prog 11 #[gV n a m cap] W fun e w' => e = .returned (.bool (fewB m)) ∧ Below W.heap.size W w') := fun W => few_any n a m cap W hl1
  have hcs : fewB m = false ∨ (fewB m = true ∧ errG n ts = 40) ∨ (fewB m = true ∧ errG n ts = 0 ∧ x < 0) ∨ (fewB m = true ∧ errG n ts = 0 ∧ ¬ x < 0 ∧ y < 0) ∨ (fewB m = true ∧ errG n ts = 0 ∧ ¬ x < 0 ∧ ¬ y < 0 ∧ n ≤ x) ∨ (fewB m = true ∧ errG n ts = 0 ∧ ¬ x < 0 ∧ ¬ y < 0 ∧ ¬ n ≤ x ∧ n ≤ y) ∨ (fewB m = true ∧ errG n ts = 0 ∧ ¬ x < 0 ∧ ¬ y < 0 ∧ ¬ n ≤ x ∧ ¬ n ≤ y ∧ s < 0) ∨ (fewB m = true ∧ errG n ts = 0 ∧ ¬ x < 0 ∧ ¬ y < 0 ∧ ¬ n ≤ x ∧ ¬ n ≤ y ∧ ¬ s < 0 ∧ 4095 < s) := by
    cases h1 : fewB m with
    | false => exact .inl rfl
    | true =>
      unfold errA at hno
      unfold errG
      cases hok : okG n ts with
      | false => exact .inr (.inl ⟨rfl, rfl⟩)
      | true =>
        rw [hok] at hno
        simp only [if_true] at hno ⊢
        by_cases g1 : x < 0
        · exact .inr (.inr (.inl ⟨by trivial, by trivial, g1⟩))
        by_cases g2 : y < 0
        · exact .inr (.inr (.inr (.inl ⟨by trivial, by trivial, g1, g2⟩)))
        by_cases g3 : n ≤ x
        · exact .inr (.inr (.inr (.inr (.inl ⟨by trivial, by trivial, g1, g2, g3⟩))))
        by_cases g4 : n ≤ y
        · exact .inr (.inr (.inr (.inr (.inr (.inl ⟨by trivial, by trivial, g1, g2, g3, g4⟩)))))
        by_cases g5 : s < 0
        · exact .inr (.inr (.inr (.inr (.inr (.inr (.inl ⟨by trivial, by trivial, g1, g2, g3, g4, g5⟩))))))
        refine .inr (.inr (.inr (.inr (.inr (.inr (.inr ⟨by trivial, by trivial, g1, g2, g3, g4, g5, ?_⟩))))))
        rcases hno with h | h | h | h
        · rw [h1] at h; cases h
        · exact absurd (if_pos (by unfold ftB; simp only [Bool.and_eq_true, decide_eq_true_eq]; omega)) h
        · omega
        · exact h
  have HK := Lib.hid (Blk.new w [.int .i64 n, .slice a m cap] 24)
  have HB0 : Hid (Below w.heap.size w (w.alloc (.cells #[.int .i64 n, .slice a m cap] 24))) := (Below.refl _ _).alloc (Nat.le_refl _) _
  simp only [gV] at HC HF ⊢
  clear hsane hl hs hno
  generalize errG n ts = E at *
  generalize fewB m = F at *
  rcases hcs with rfl | ⟨rfl, rfl⟩ | ⟨rfl, rfl, h3⟩ | ⟨rfl, rfl, h3, h4⟩ | ⟨rfl, rfl, h3, h4, h5⟩ | ⟨rfl, rfl, h3, h4, h5, h6⟩ | ⟨rfl, rfl, h3, h4, h5, h6, h7⟩ | ⟨rfl, rfl, h3, h4, h5, h6, h7, h8⟩
  all_goals (
    go_enter Tryz.func9, Tryz.ntmps9
    go_wp2_with (first | (go_at_call 10; refine (HSA.out _).mono ?_; rintro e w1 ⟨rfl, hb⟩; have HK1 := Lib.hid (HK.out.below hb); have HB1 := Lib.hid (HB0.out.trans (hb.mono HB0.out.size)); clear hb HSA HK HB0; have c0 := HK1.out.cell (i := 0) rfl; have c1 := HK1.out.cell (i := 1) rfl) | (go_at_call 11; refine (HF.out _).mono ?_; rintro e w2 ⟨rfl, hb⟩; have HK2 := Lib.hid (HK1.out.below hb); have HB2 := Lib.hid (HB1.out.trans (hb.mono HB1.out.size)); clear hb HF c0 c1; have c0 := HK2.out.cell (i := 0) rfl; have c1 := HK2.out.cell (i := 1) rfl) | (go_at_call 24; refine (HC.out _ HB2.out).mono ?_; rintro e w3 ⟨rfl, hb⟩; have HK3 := Lib.hid (HK2.out.below hb); have HB3 := Lib.hid (HB2.out.trans (hb.mono HB2.out.size)); clear hb HC c0 c1; have c0 := HK3.out.cell (i := 0) rfl; have c1 := HK3.out.cell (i := 1) rfl))
    go_ret
    exact ⟨rfl, by first | exact HB3.out | exact HB2.out⟩)
theorem told_or {k : Nat} {ts : List TieD} {x y : Int} (h0 : errA k ts x y = 0) : told k ts x y = (sameR k ts x y || apartR k ts x y) := by
  unfold told sameR apartR
  rw [if_pos h0, if_pos h0, Int.toNat_natCast]
set_option maxRecDepth 100000 in
set_option maxHeartbeats 4000000 in
theorem tiesRests_any (n : Int) (a : Option Addr) (cap : Nat) (ts : List TieD) (x y s : Int) (w : World) (hl : ts.length ≤ 9223372036854775807) (hs : TiesAt w a ts)
    (hsane : ∀ W, Calls Tryz.prog 10 #[] W fun e w' => e = .returned (.bool true) ∧ Below W.heap.size W w') :
    Calls Tryz.prog 9 #[gV n a ts.length cap, .int .i64 x, .int .i64 y, .int .i64 s] w fun e w' => e = .returned (.bool true) ∧ Below w.heap.size w w' := by
  by_cases hno : fewB ts.length = false ∨ errA n ts x y ≠ 0 ∨ s < 0 ∨ 4095 < s
  · exact tiesRests_no n a cap ts.length ts x y s w rfl hl hs hno hsane
  have hf : fewB ts.length = true := by cases h : fewB ts.length with | true => rfl | false => exact absurd (.inl h) hno
  have h0 : errA n ts x y = 0 := Classical.byContradiction fun h => hno (.inr (.inl h))
  have hs1 : ¬ s < 0 := fun h => hno (.inr (.inr (.inl h)))
  have hs2 : ¬ 4095 < s := fun h => hno (.inr (.inr (.inr h)))
  clear hno
  obtain ⟨hok, hxy⟩ := errA_ok h0
  obtain ⟨k, rfl, hk1, hk2, hl5, hv⟩ := okG_parts hok
  have hxy' := hxy
  unfold ftB at hxy
  simp only [Bool.and_eq_true, decide_eq_true_eq] at hxy
  obtain ⟨p, rfl⟩ := Int.eq_ofNat_of_zero_le hxy.1.1
  obtain ⟨z, rfl⟩ := Int.eq_ofNat_of_zero_le hxy.2.1
  obtain ⟨s, rfl⟩ := Int.eq_ofNat_of_zero_le (by omega : 0 ≤ s)
  have hp : p < k := by omega
  have hz : z < k := by omega
  have hG : errG (k : Int) ts = 0 := by unfold errG; rw [hok]; rfl
  have hwl : (wo ts s).length ≤ ts.length := List.length_filter_le _ _
  have hokw : okG (k : Int) (wo ts s) = true := okG_mk hk1 hk2 (by omega) (wo_valid hv)
  have h0w : errA k (wo ts s) p z = 0 := errA_of hokw hxy'
  have htl := told_less (us := wo ts s) hv (fun t ht => (wo_mem.1 ht).1) (x := p) (y := z) (by simpa using hp) (by simpa using hz)
  refine tiesRests_yes k p z s a cap ts.length (wo ts s).length (wo ts s) w (sameR k ts p z) (apartR k ts p z) (sameR k (wo ts s) p z) (apartR k (wo ts s) p z) (RstR k ts p z) hp hz (by omega) hwl (by omega) rfl (fun t ht => (wo_mem.1 ht).2) (Lib.hid hsane) ?_ ?_ ?_ ?_ ?_ ?_ ?_ ?_ ?_ (fun R h => h.inc) ?_ ?_
  · intro W; have h := few_any (k : Int) a ts.length cap W hl; rw [hf] at h; exact h
  · intro W hb; have h := tCheck_any (k : Int) a cap ts W hl (hs.below hb); rw [hG] at h; exact h
  · intro W hb
    refine (rests_any k p z a cap ts W h0 (hs.below hb)).mono fun e w' ⟨h1, h2⟩ => ?_
    rcases h1 with ⟨ht, rfl⟩ | ⟨ht, R, r, c, rfl, h3, h4, h5⟩
    · rw [told_or h0, Bool.or_eq_false_iff] at ht
      exact ⟨_, _, rfl, .inl ⟨ht.1, ht.2, rfl, rfl⟩, h2⟩
    · rw [told_or h0] at ht
      exact ⟨_, _, rfl, .inr ⟨ht, rfl, R, r, c, rfl, h3, h4, h5⟩, h2⟩
  · intro W hb; have h := tSame_any (k : Int) a cap ts p z W hl (hs.below hb); rw [h0] at h; exact h
  · intro W hb; have h := tApart_any (k : Int) a cap ts p z W hl (hs.below hb); rw [h0] at h; exact h
  · intro W hb
    have h := Without_any s (k : Int) a cap ts W hl (hs.below hb)
    have e : wioR k ts s = ⟨k, wo ts s, 0⟩ := by unfold wioR; rw [hok, if_pos rfl, if_pos (by unfold ftB; simp only [Bool.and_eq_true, decide_eq_true_eq]; omega)]; rfl
    rw [e] at h
    exact h.mono fun e w' ⟨a', c', h1, h2, h3⟩ => ⟨a', c', h1, h2.1, h3⟩
  · intro W a2 c2 h; have h := tSame_any (k : Int) a2 c2 (wo ts s) p z W (by omega) h; rw [h0w] at h; exact h
  · intro W a2 c2 h; have h := tApart_any (k : Int) a2 c2 (wo ts s) p z W (by omega) h; rw [h0w] at h; exact h
  · intro W R r c hR hr hi
    have h := has_any r c R s W (by omega) hi
    have e : decide ((s : Int) ∈ R) = (!sameR k (wo ts s) p z && !apartR k (wo ts s) p z) := by
      rw [← Bool.not_or, ← told_or h0w]
      cases ht : told k (wo ts s) p z with
      | true => exact decide_eq_false fun hm => by have := (hr.mem s).1 hm; rw [ht] at this; cases this
      | false => exact decide_eq_true ((hr.mem s).2 ht)
    rw [e] at h; exact h
  · intro h
    rw [same_dec h0w, decide_eq_true_eq] at h
    rw [same_dec h0]; exact decide_eq_true (htl.1 h)
  · intro h
    rw [apart_dec h0w] at h
    rw [apart_dec h0]; exact htl.2 h
end Go.Proofs.YthjeiaildabadaaGreat
