/- Layer 2: joins of finds. -/
import Derived.Test.YtilfiadkhohfiaaGreatDoorP9
/- Layer 2: joins of finds, in runs. -/
set_option linter.unusedVariables false
set_option maxRecDepth 100000
namespace Go.Proofs.YtilfiadkhohfiaaGreatDoor
set_option linter.unusedSimpArgs false
set_option linter.unusedVariables false
open Go Go.RowKit Go.Clo
variable {W : World}

theorem sxR_eq {s s' : Int} (h : 0 ≤ s ∧ s ≤ 4) (h' : 0 ≤ s' ∧ s' ≤ 4) : sxR s s' = oI (sxI s s') := by
  have a : s = 0 ∨ s = 1 ∨ s = 2 ∨ s = 3 ∨ s = 4 := by omega
  have b : s' = 0 ∨ s' = 1 ∨ s' = 2 ∨ s' = 3 ∨ s' = 4 := by omega
  rcases a with rfl | rfl | rfl | rfl | rfl <;> rcases b with rfl | rfl | rfl | rfl | rfl <;> rfl
theorem sexR_calls (hmix : Tryz.prog.follows .mixedOrders = true) (hs0 : 0 < W.heap.size) {s s' : Int} (h : 0 ≤ s ∧ s ≤ 4) (h' : 0 ≤ s' ∧ s' ≤ 4) : Calls Tryz.prog 175 #[.int .i64 s, .int .i64 s'] W fun e w' => e = .returned (.int .i64 (sxI s s')) ∧ Below W.heap.size W w' := by
  have hM : MeaAt W (.slice none 0 0) none [] := ⟨hs0, rfl, rfl⟩
  obtain ⟨ρ1, _, hR1, _⟩ := hM.add (Rel.start' (Below.refl W.heap.size W))
  obtain ⟨ρ2, _, hR2, _⟩ := hM.add hR1
  have hv : valG Tryz.prog (semN Tryz.prog W vfN noTbN) 60 175 [i64 s, i64 s'] (st2 [] []) (fun v _ => v) = some (i64 (sxI s s')) := (sr175 W s s').trans (sxR_eq h h')
  refine (valG_stepH hmix semN_ok hv (sr175A W s s') hR2 (us := [_, _]) (EL.cons (E_i64 s) (EL.cons (E_i64 s') EL.nil))).mono ?_
  rintro e w' ⟨ρ', v', st', u, rfl, hst, hE, rfl⟩
  exact ⟨by rw [E_i64_inv hE], Step.belowOf hR2 hst pair_noImg⟩
theorem good175 (hmix : Tryz.prog.follows .mixedOrders = true) (hs0 : 0 < W.heap.size) {vf : FuncId → St → List (Option Blk)} {vw : List (Option Blk)} {s s' : Int} (h : 0 ≤ s ∧ s ≤ 4) (h' : 0 ≤ s' ∧ s' ≤ 4) : goodN Tryz.prog W vf 175 [i64 s, i64 s'] vw 0 (i64 (sxI s s')) none = true := goodN_true fun st _ _ => GoodM.same fun ρ w us hR he => by
  obtain ⟨u, r, rfl, e1, h2⟩ := EL.cons_inv he
  obtain ⟨u', r', rfl, e2, h3⟩ := EL.cons_inv h2
  obtain rfl := EL.nil_inv h3
  rw [E_i64_inv e1, E_i64_inv e2]
  exact ⟨_, E_i64 _, sexR_calls hmix (Nat.lt_of_lt_of_le hs0 hR.below.size) h h'⟩
theorem Fd.Valid.sexB {f : Fd} (h : f.Valid) : 0 ≤ f.sex ∧ f.sex ≤ 4 := h.2.2.2.2.1
/-- The list as far as a kind. -/
def upTo (a b : List Mea) (j : Nat) : List Mea := (List.range j).filterMap fun (k : Nat) => oneM a b (k : Int)
theorem upTo_succ (a b : List Mea) (j : Nat) : upTo a b (j + 1) = upTo a b j ++ (oneM a b (j : Int)).toList := by
  unfold upTo
  rw [List.range_succ, List.filterMap_append]
  cases h : oneM a b (j : Int) <;> simp [h]
theorem upTo_len (a b : List Mea) : ∀ {i j : Nat}, i ≤ j → (upTo a b i).length ≤ (upTo a b j).length
  | i, 0, h => by rw [show i = 0 by omega]; exact Nat.le_refl _
  | i, j + 1, h => by
    by_cases e : i = j + 1
    · subst e; exact Nat.le_refl _
    · rw [upTo_succ, List.length_append]
      exact Nat.le_trans (upTo_len a b (show i ≤ j by omega)) (Nat.le_add_right _ _)
theorem rounds125 (hmix : Tryz.prog.follows .mixedOrders = true) {Q : Exit → Act → World → Prop} {f g q : Fd} (hf : f.OK) (hg : g.OK) (hvf : f.Valid) (hvg : g.Valid) (hok : ∀ k : Nat, k < 16 → badM f.l g.l k = false) (hlen : (upTo f.l g.l 16).length ≤ 8) {msf msg pa pb p6 po : Value}
    (hmf : MeaAt W msf f.oc f.l) (hmg : MeaAt W msg g.oc g.l) (hbf : BoxF W pa (f.cs msf)) (hbg : BoxF W pb (g.cs msg)) (hb6 : BoxF W p6 [])
    (hend : ∀ a' w', Below W.heap.size W w' → a'.defers = [] → a'.tmps.size = 138 → a'.tmps.getD 6 undef = p6 → a'.tmps.getD 7 undef = po → OutAt W.heap.size w' po q (upTo f.l g.l 16) → Q (.exit 0) a' w') :
    ∀ (n j : Nat) (w : World) (act : Act), j + n = 16 → Below W.heap.size W w → Head125 act.tmps pa pb p6 po j → act.defers = [] → OutAt W.heap.size w po q (upTo f.l g.l j) → Code.rounds Tryz.prog body125 Q (n + 1) act w
  | 0, j, w, act, hj, hw, hh, hd, ho => by
    have hj : j = 16 := by omega
    subst hj
    refine wp_mono (round125 hmix hf hg hvf hvg hok hw hmf hmg hbf hbg hb6 (by omega) hh hd _ ho hlen) ?_
    rintro e a' w' ⟨hb, hd', ⟨_, rfl, hs, h6, h7, ho'⟩ | ⟨h, _⟩⟩
    · exact hend a' w' hb hd' hs h6 h7 ho'
    · omega
  | n + 1, j, w, act, hj, hw, hh, hd, ho => by
    refine wp_mono (round125 hmix hf hg hvf hvg hok hw hmf hmg hbf hbg hb6 (by omega) hh hd _ ho (Nat.le_trans (upTo_len _ _ (by omega)) hlen)) ?_
    rintro e a' w' ⟨hb, hd', ⟨h, _⟩ | ⟨_, rfl, hh', ho'⟩⟩
    · omega
    · refine rounds125 hmix hf hg hvf hvg hok hlen hmf hmg hbf hbg hb6 hend n (j + 1) w' a' (by omega) hb hh' hd' ?_
      rw [upTo_succ]
      exact ho'
/-- Behind the loop: the find is copied to the result. -/
theorem end125 (hmix : Tryz.prog.follows .mixedOrders = true) {w : World} {act : Act} {q : Fd} {l : List Mea} {N : Nat} {p6 po : Value} (hb : Below W.heap.size W w) (hN : W.heap.size ≤ N) (hs : act.tmps.size = 138) (h6 : act.tmps.getD 6 undef = p6) (h7 : act.tmps.getD 7 undef = po)
    (hd : act.defers = []) {b6 : Nat} (e6 : p6 = .pointer (some ⟨b6, 0, none⟩)) (hW6 : W.heap.size ≤ b6) (hN6 : b6 < N) (hh6 : w.heap[b6]? = some (.cells (zFd.cs (.slice none 0 0)).toArray 29 (0, 0))) (ho : OutAt N w po q l) :
    e125.wp Tryz.prog (fun e a' w' => e = .ret ∧ Below W.heap.size W w' ∧ a'.defers = [] ∧ ∃ mr, (results f125 a'.tmps).run Tryz.prog w' = .ok (q.U mr) w' ∧ ((l = [] ∧ mr = .slice none 0 0) ∨ (l ≠ [] ∧ NewAt W.heap.size w' mr l))) act w := by
  have hR0 : Rel W (fun _ => none) ⟨.nil, 0⟩ w := Rel.start' hb
  have hno0 : ∀ r, ¬ Img (fun _ => none) (⟨.nil, 0⟩ : St) r := fun r ⟨b, x, l, hb, _⟩ => by cases hb
  have hR1 := rel_addAp hR0 (l := ⟨b6, 0, 0⟩) (x := .cells zeroF 29) trivial hW6 (get_lt hh6) (hno0 _) ⟨rfl, _, hh6, EL_fin (by simp only [E])⟩
  have q6 : E (Rho.upd (fun _ => none) 0 ⟨b6, 0, 0⟩) (.ptr 0 0) p6 := by
    simp only [E]
    exact ⟨_, Rho.upd_same _ _ _, e6⟩
  have hno1 : ∀ r, N ≤ r → ¬ Img (Rho.upd (fun _ => none) 0 ⟨b6, 0, 0⟩) ((⟨.nil, 0⟩ : St).alloc (.cells zeroF 29)) r := by
    rintro r hr ⟨b, y, m, hb', ha, hm, hmr⟩
    rw [St.get_alloc] at hb'
    by_cases e : b = 0
    · subst e
      rw [Rho.upd_same] at hm; injection hm with hm; subst hm
      have : b6 = r := hmr
      omega
    · rw [if_neg e] at hb'; cases hb'
  by_cases hl : l = []
  · subst hl
    obtain ⟨ρ, le, hR, qo⟩ := ho.add0 hN hR1 hno1
    have hch : ∃ d : Nat → V, ∀ i, E ρ (d i) (act.tmps.getD i undef) := ⟨fun i => Classical.choose (E.some ρ (act.tmps.getD i undef)), fun i => Classical.choose_spec (E.some ρ (act.tmps.getD i undef))⟩
    obtain ⟨d, hdd⟩ := hch
    refine wp_mono (codeG_stepH hmix semN_ok (er125_0 W q.no q.el q.sd q.a q.b q.d q.e q.lo q.hi q.sex q.wear q.layer q.square d) (er125_0A W q.no q.el q.sd q.a q.b q.d q.e q.lo q.hi q.sex q.wear q.layer q.square d) hR (he125_ok hs (by rw [h6]; exact E.mono le _ q6) (by rw [h7]; exact qo) hdd) hd) ?_
    rintro e a' w' ⟨x, t', s', ⟨rfl, hd', ρ', hst, hf⟩, hg⟩
    simp only [eg125, Prod.mk.injEq] at hg
    obtain ⟨rfl, hres, hrow⟩ := hg
    obtain ⟨u, hu, hrun⟩ := run_results hst.rel hf hres
    obtain ⟨mr, rfl, em⟩ := Fd.im_of (f := q) (mv := .nils) hu
    exact ⟨rfl, hst.rel.below, hd', mr, hrun, .inl ⟨rfl, nils_inv em⟩⟩
  · obtain ⟨ρ, le, hR, qo⟩ := ho.add1 hl hN hR1 hno1
    have hch : ∃ d : Nat → V, ∀ i, E ρ (d i) (act.tmps.getD i undef) := ⟨fun i => Classical.choose (E.some ρ (act.tmps.getD i undef)), fun i => Classical.choose_spec (E.some ρ (act.tmps.getD i undef))⟩
    obtain ⟨d, hdd⟩ := hch
    refine wp_mono (codeG_stepH hmix semN_ok (er125_1 W (meaC l) l.length q.no q.el q.sd q.a q.b q.d q.e q.lo q.hi q.sex q.wear q.layer q.square d) (er125_1A W (meaC l) l.length q.no q.el q.sd q.a q.b q.d q.e q.lo q.hi q.sex q.wear q.layer q.square d) hR (he125_ok hs (by rw [h6]; exact E.mono le _ q6) (by rw [h7]; exact qo) hdd) hd) ?_
    rintro e a' w' ⟨x, t', s', ⟨rfl, hd', ρ', hst, hf⟩, hg⟩
    simp only [eg125, Prod.mk.injEq] at hg
    obtain ⟨rfl, hres, hrow⟩ := hg
    obtain ⟨u, hu, hrun⟩ := run_results hst.rel hf hres
    obtain ⟨mr, rfl, em⟩ := Fd.im_of (f := q) (mv := .sl 1 0 l.length (.open_ 0)) hu
    exact ⟨rfl, hst.rel.below, hd', mr, hrun, .inr ⟨hl, row_new hst.rel hl em (rowOf_row hrow)⟩⟩
end Go.Proofs.YtilfiadkhohfiaaGreatDoor
/- Layer 2: joins of finds, in runs. -/
set_option linter.unusedVariables false
set_option maxRecDepth 100000
namespace Go.Proofs.YtilfiadkhohfiaaGreatDoor
set_option linter.unusedSimpArgs false
set_option linter.unusedVariables false
open Go Go.RowKit Go.Clo
variable {W : World}

theorem upTo_all {f g : Fd} (hvf : f.Valid) (hvg : g.Valid) {L : List Mea} (hJ : joinM f.l f.l g.l = some L) : (∀ k : Nat, k < 16 → badM f.l g.l k = false) ∧ upTo f.l g.l 16 = L := by
  rw [joinM_byKind hvf.list.2.1 hvg.list.2.1] at hJ
  split at hJ
  · cases hJ
  · rename_i h
    injection hJ with hJ
    refine ⟨fun k hk => ?_, hJ⟩
    cases hb : badM f.l g.l (k : Int) with
    | false => rfl
    | true => exact absurd (List.any_eq_true.2 ⟨k, List.mem_range.2 hk, hb⟩) h
/-- What Become comes to. -/
def BRes (W : World) (f g : Fd) (num : Int) (e : Ending) (w' : World) : Prop := Below W.heap.size W w' ∧ ∃ mr, e = .returned ((jFd f g num).U mr) ∧ ∃ l, joinM f.l f.l g.l = some l ∧ l.length ≤ 8 ∧ ((l = [] ∧ mr = .slice none 0 0) ∨ (l ≠ [] ∧ NewAt W.heap.size w' mr l))
theorem become_calls (hmix : Tryz.prog.follows .mixedOrders = true) (hs0 : 0 < W.heap.size) {f g : Fd} (hf : f.OK) (hg : g.OK) (hvf : f.Valid) (hvg : g.Valid) (hag : agB f g = true) (num : Int) {ms ms' : Value} (hm : MeaAt W ms f.oc f.l) (hm' : MeaAt W ms' g.oc g.l) :
    Calls Tryz.prog 125 #[f.U ms, g.U ms', .int .i64 num] W (BRes W f g num) := by
  obtain ⟨L, hJ, hL8⟩ := agB_some hag
  obtain ⟨hok, hup⟩ := upTo_all hvf hvg hJ
  have e1 := hvf.fin (mvOf 0 f.oc f.l)
  have e2 := hvg.fin (mvOf 1 g.oc g.l)
  obtain ⟨_, _, wf1, wf2, wf3⟩ := hvf.words
  obtain ⟨_, _, wg1, wg2, wg3⟩ := hvg.words
  obtain ⟨ρ, hR, x1, x2⟩ := pair_rel hm hm'
  have hF : FrE ρ (enterF [f.iv 0, g.iv 1, i64 num] 138) (#[f.U ms, g.U ms', .int .i64 num] ++ Array.replicate (138 - 3) undef) := enterF_ok (EL.cons (Fd.im_E x1) (EL.cons (Fd.im_E x2) (EL.cons (E_i64 num) EL.nil))) 138
  have hr := ar125 W (meaC f.l) (meaC g.l) num (mvOf 0 f.oc f.l) (mvOf 1 g.oc g.l) f.no f.el f.sd f.a f.lo f.hi f.sex f.wear f.layer f.square g.no g.el g.sd g.a g.lo g.hi g.sex g.wear g.layer g.square
  have ha := ar125A W (meaC f.l) (meaC g.l) num (mvOf 0 f.oc f.l) (mvOf 1 g.oc g.l) f.no f.el f.sd f.a f.lo f.hi f.sex f.wear f.layer f.square g.no g.el g.sd g.a g.lo g.hi g.sex g.wear g.layer g.square
  rw [← e1, ← e2] at hr ha
  refine calls_of_wp f125_get f125_body ?_
  rw [b125_eq, f125_tmps]
  refine wp_seq (wp_mono (codeG_stepH hmix semN_ok hr ha hR hF rfl) ?_)
  rintro e a1 w1 ⟨x, t1, s1, ⟨rfl, hd1, ρ1, hst, hf1⟩, hg1⟩
  simp only [ag125, Prod.mk.injEq, List.cons.injEq] at hg1
  obtain ⟨rfl, gn, ⟨g2, g3, g4, g6, _⟩, ⟨p3, p4, _⟩, p6⟩ := hg1
  have hb1 := Step.belowOf hR hst pair_noImg
  have hs1 : a1.tmps.size = 138 := hf1.1.trans gn
  have q2 := hf1.2 2
  have q3 := hf1.2 3
  have q4 := hf1.2 4
  have q6 := hf1.2 6
  rw [g2] at q2; rw [g3] at q3 p3; rw [g4] at q4 p4; rw [g6] at q6 p6
  obtain ⟨msf, bf, ef⟩ := box_of hst.rel q3 p3
  obtain ⟨msg, bg, eg⟩ := box_of hst.rel q4 p4
  obtain rfl := mv_fun ef (E.mono hst.le _ x1)
  obtain rfl := mv_fun eg (E.mono hst.le _ x2)
  have bf : BoxF w1 (a1.tmps.getD 3 undef) (f.cs msf) := by unfold Fd.cs; rw [wf1, wf2, wf3]; exact bf
  have bg : BoxF w1 (a1.tmps.getD 4 undef) (g.cs msg) := by unfold Fd.cs; rw [wg1, wg2, wg3]; exact bg
  have ho6 : OutAt W.heap.size w1 (a1.tmps.getD 6 undef) zFd [] := OutAt.of (m := .nils) hst.rel q6 p6 (.inl ⟨rfl, rfl⟩)
  obtain ⟨b6, ms6, e6, hW6, hh6, hms6⟩ := ho6
  obtain rfl : ms6 = .slice none 0 0 := hms6.elim (fun h => h.2) fun h => absurd rfl h.1
  have b6' : BoxF w1 (a1.tmps.getD 6 undef) [] := ⟨b6, e6, get_lt hh6, fun i u hu => by simp at hu⟩
  show (seqs pre125 (.seq (.seq r125 (.block 0 (.loop body125))) e125)).wp _ _ a1 w1
  -- the find is made
  have hmw := hm.below hb1
  have hmw' := hm'.below hb1
  obtain ⟨ρa, _, hRa, ea⟩ := hmw.add (Rel.start' (Below.refl w1.heap.size w1))
  obtain ⟨ρb, leb, hRb, eb⟩ := hmw'.add hRa
  have ea : E ρb (mvOf 0 f.oc f.l) msf := E.mono leb _ ea
  have eb : E ρb (mvOf 1 g.oc g.l) msg := eb
  obtain ⟨ρc, lec, hRc, r2⟩ := bf.add' hRb (vs := f.vs (mvOf 0 f.oc f.l)) (EL_fin ea)
  obtain ⟨ρd, led, hRd, r3⟩ := bg.add' hRc (vs := g.vs (mvOf 1 g.oc g.l)) (EL_fin (E.mono lec _ eb))
  obtain ⟨ρe, lee, hRe, r4⟩ := b6'.add' hRd (vs := []) EL.nil
  have r2 : E ρe (.ptr 2 0) (a1.tmps.getD 3 undef) := E.mono lee _ (E.mono led _ r2)
  have r3 : E ρe (.ptr 3 0) (a1.tmps.getD 4 undef) := E.mono lee _ r3
  have r4 : E ρe (.ptr 4 0) (a1.tmps.getD 6 undef) := r4
  have hRe : Rel w1 ρe (st5 (meaC f.l) (meaC g.l) (f.vs (mvOf 0 f.oc f.l)) (g.vs (mvOf 1 g.oc g.l))) w1 := hRe
  have hch : ∃ d : Nat → V, ∀ i, E ρe (d i) (a1.tmps.getD i undef) := ⟨fun i => Classical.choose (E.some ρe (a1.tmps.getD i undef)), fun i => Classical.choose_spec (E.some ρe (a1.tmps.getD i undef))⟩
  obtain ⟨d, hdd⟩ := hch
  have hFe : FrE ρe (frL (hp125 num d)) a1.tmps := hp125_ok hs1 (by rw [E_i64_inv q2]; exact E_i64 num) r2 r3 r4 hdd
  have hr2 := pr125 w1 (meaC f.l) (meaC g.l) num (sxI f.sex g.sex) (mvOf 0 f.oc f.l) (mvOf 1 g.oc g.l) f.no f.el f.sd f.a f.b f.d f.e f.lo f.hi f.sex f.wear f.layer f.square g.no g.el g.sd g.a g.b g.d g.e g.lo g.hi g.sex g.wear g.layer g.square d
  have hA2 := pr125A w1 (meaC f.l) (meaC g.l) num (sxI f.sex g.sex) (mvOf 0 f.oc f.l) (mvOf 1 g.oc g.l) f.no f.el f.sd f.a f.b f.d f.e f.lo f.hi f.sex f.wear f.layer f.square g.no g.el g.sd g.a g.b g.d g.e g.lo g.hi g.sex g.wear g.layer g.square d
  rw [bleT_of hf hg, good175 hmix (Nat.lt_of_lt_of_le hs0 hb1.size) hvf.sexB hvg.sexB] at hr2
  have hr3 := hr2.trans (show _ = leafB .normal 48 0 ((jFd f g num).vs .nils) [] by
    show cond (intBeq f.sd 3) _ _ = leafB .normal 48 0 (finL num f.el (cond (intBeq f.sd 3) g.sd f.sd) _ _ _ _ _ _ _ _ _ _ _) []
    cases intBeq f.sd 3 <;> rfl)
  obtain ⟨x, t', s', hx, hgx⟩ := codeG_ok hr3 hA2
  simp only [rnd125, Prod.mk.injEq, List.cons.injEq] at hgx
  obtain ⟨rfl, gn', ⟨k3, k4, k6, k7, k8, _⟩, hc⟩ := hgx
  refine seqs_wp hmix semN_ok (t' := t') (s' := s') (ρ0 := ρe) (s0 := st5 (meaC f.l) (meaC g.l) (f.vs (mvOf 0 f.oc f.l)) (g.vs (mvOf 1 g.oc g.l))) (w0 := w1) ?_ pre125 60 _ _ hx ρe w1 a1 (Step.refl hRe) hFe hd1
  rintro a2 w2 ⟨_, hd2, ρ', hst2, hf2⟩
  have c3 := hf2.2 3
  have c4 := hf2.2 4
  have c6 := hf2.2 6
  have c7 := hf2.2 7
  have c8 := hf2.2 8
  rw [k3] at c3; rw [k4] at c4; rw [k6] at c6; rw [k7] at c7 hc; rw [k8] at c8
  have hoq : OutAt w1.heap.size w2 (a2.tmps.getD 7 undef) (jFd f g num) [] := OutAt.of (m := .nils) hst2.rel c7 hc (.inl ⟨rfl, rfl⟩)
  refine wp_block (wp_loop_rounds 17 ?_)
  refine rounds125 hmix hf hg hvf hvg hok (by rw [hup]; exact hL8) hmw hmw' bf bg b6' ?_ 16 0 w2 a2 rfl hst2.rel.below ⟨hf2.1.trans gn', ptr_fun c3 (E.mono hst2.le _ r2), ptr_fun c4 (E.mono hst2.le _ r3), ptr_fun c6 (E.mono hst2.le _ r4), rfl, by rw [E_i64_inv c8]; rfl⟩ hd2 hoq
  intro a3 w3 hb3 hd3 hs3 h6 h7 ho3
  unfold Exit.inBlock
  simp only [if_true]
  show e125.wp _ _ a3 w3
  rw [hup] at ho3
  refine wp_mono (end125 (W := W) hmix (below_tr hb1 hb3) hb1.size hs3 h6 h7 hd3 e6 hW6 (get_lt hh6) ((hb3.block b6 (get_lt hh6)).trans hh6) ho3) ?_
  rintro e a4 w4 ⟨rfl, hb4, hd4, mr, hrun, hmr⟩
  exact ⟨hd4, _, hrun, hb4, mr, rfl, L, hJ, hL8, hmr⟩
end Go.Proofs.YtilfiadkhohfiaaGreatDoor
/- Layer 2: joins of finds, in runs. -/
set_option linter.unusedVariables false
set_option maxRecDepth 100000
namespace Go.Proofs.YtilfiadkhohfiaaGreatDoor
set_option linter.unusedSimpArgs false
set_option linter.unusedVariables false
open Go Go.RowKit Go.Clo
noncomputable section
def tb49 (ov : List V → Bool) (j : Bool) (r : V) (bk : Option Blk) : Tb := fun f => cond (Nat.beq f 89) (some fun a _ => (.bool (ov a), none)) (cond (Nat.beq f 124) (some fun _ _ => (.bool j, none)) (cond (Nat.beq f 125) (some fun _ _ => (r, bk)) none))
def jT49 (gf gg gj gb : Bool) (v v' j : Bool) (num : Int) (res : Option (V × Option Blk)) : Option (V × Option Blk) :=
  let no : Int → Option (V × Option Blk) := fun e => some (.tup [zFind, i64 e], none)
  cond gf (cond (!v) (no 20) (cond gg (cond (!v') (no 20) (cond (!intLt num 0) (cond (!!intLt 4095 num) (no 1) (cond gj (cond (!j) (no 22) (cond gb res none)) none)) (no 1))) none)) none
def oT51 (gf gg : Bool) (v v' : Bool) (el sd : Int) (a : Nat) (el' sd' : Int) (a' : Nat) : Option V :=
  let no : Int → Option V := fun e => tup2 (.bool false) (i64 e)
  cond gf (cond (!v) (no 20) (cond gg (cond (!v') (no 20) (cond (intBeq el el') (cond (bleT a a') (cond (!intBeq (.ofNat (Nat.land a a')) 0) (cond (intBeq sd sd') (tup2 (.bool (!intBeq sd 3)) (i64 0)) (no 0)) (no 0)) none) (no 0))) none)) none
end
section
variable (W0 : World) (ov : List V → Bool) (j : Bool) (l : List Mea) (c c' : List V) (ma mb : V) (no el sd : Int) (a b d e : Nat) (lo hi sex wear layer square : Int) (no' el' sd' : Int) (a' b' d' e' : Nat) (lo' hi' sex' wear' layer' square' : Int) (num : Int) (no2 el2 sd2 : Int) (a2 b2 d2 e2 : Nat) (lo2 hi2 sex2 wear2 layer2 square2 : Int)
theorem k49_r : valG Tryz.prog (semN Tryz.prog W0 vfA (tb49 ov j (.agg (finL no2 el2 sd2 a2 b2 d2 e2 (slN 5 l) lo2 hi2 sex2 wear2 layer2 square2)) (rowB l))) 60 49 [(.agg (finL no el sd a b d e ma lo hi sex wear layer square)), (.agg (finL no' el' sd' a' b' d' e' mb lo' hi' sex' wear' layer' square')), i64 num] (st2 c c') (fun v s => (v, s.get 5)) = jT49 (goodN Tryz.prog W0 vfA 89 [(.agg (finL no el sd a b d e ma lo hi sex wear layer square))] (vwA c c') 0 (.bool (ov [(.agg (finL no el sd a b d e ma lo hi sex wear layer square))])) none) (goodN Tryz.prog W0 vfA 89 [(.agg (finL no' el' sd' a' b' d' e' mb lo' hi' sex' wear' layer' square'))] (vwA c c') 0 (.bool (ov [(.agg (finL no' el' sd' a' b' d' e' mb lo' hi' sex' wear' layer' square'))])) none) (goodN Tryz.prog W0 vfA 124 [(.agg (finL no el sd a b d e ma lo hi sex wear layer square)), (.agg (finL no' el' sd' a' b' d' e' mb lo' hi' sex' wear' layer' square'))] (vwA c c') 0 (.bool j) none) (goodN Tryz.prog W0 vfA 125 [(.agg (finL no el sd a b d e ma lo hi sex wear layer square)), (.agg (finL no' el' sd' a' b' d' e' mb lo' hi' sex' wear' layer' square')), i64 num] (vwA c c') 5 ((.agg (finL no2 el2 sd2 a2 b2 d2 e2 (slN 5 l) lo2 hi2 sex2 wear2 layer2 square2))) (rowB l)) (ov [(.agg (finL no el sd a b d e ma lo hi sex wear layer square))]) (ov [(.agg (finL no' el' sd' a' b' d' e' mb lo' hi' sex' wear' layer' square'))]) j num (some (.tup [(.agg (finL no2 el2 sd2 a2 b2 d2 e2 (slN 5 l) lo2 hi2 sex2 wear2 layer2 square2)), i64 0], (rowB l))) := by kernel_rfl
theorem k49A_r : askK Tryz.prog (semN Tryz.prog W0 vfA (tb49 ov j (.agg (finL no2 el2 sd2 a2 b2 d2 e2 (slN 5 l) lo2 hi2 sex2 wear2 layer2 square2)) (rowB l))) 60 49 [(.agg (finL no el sd a b d e ma lo hi sex wear layer square)), (.agg (finL no' el' sd' a' b' d' e' mb lo' hi' sex' wear' layer' square')), i64 num] (st2 c c') false = askK Tryz.prog (semN Tryz.prog W0 vfA (tb49 ov j (.agg (finL no2 el2 sd2 a2 b2 d2 e2 (slN 5 l) lo2 hi2 sex2 wear2 layer2 square2)) (rowB l))) 60 49 [(.agg (finL no el sd a b d e ma lo hi sex wear layer square)), (.agg (finL no' el' sd' a' b' d' e' mb lo' hi' sex' wear' layer' square')), i64 num] (st2 c c') true := by kernel_rfl
theorem k49_n : valG Tryz.prog (semN Tryz.prog W0 vfA (tb49 ov j (.agg (finL no2 el2 sd2 a2 b2 d2 e2 .nils lo2 hi2 sex2 wear2 layer2 square2)) none)) 60 49 [(.agg (finL no el sd a b d e ma lo hi sex wear layer square)), (.agg (finL no' el' sd' a' b' d' e' mb lo' hi' sex' wear' layer' square')), i64 num] (st2 c c') (fun v s => (v, s.get 5)) = jT49 (goodN Tryz.prog W0 vfA 89 [(.agg (finL no el sd a b d e ma lo hi sex wear layer square))] (vwA c c') 0 (.bool (ov [(.agg (finL no el sd a b d e ma lo hi sex wear layer square))])) none) (goodN Tryz.prog W0 vfA 89 [(.agg (finL no' el' sd' a' b' d' e' mb lo' hi' sex' wear' layer' square'))] (vwA c c') 0 (.bool (ov [(.agg (finL no' el' sd' a' b' d' e' mb lo' hi' sex' wear' layer' square'))])) none) (goodN Tryz.prog W0 vfA 124 [(.agg (finL no el sd a b d e ma lo hi sex wear layer square)), (.agg (finL no' el' sd' a' b' d' e' mb lo' hi' sex' wear' layer' square'))] (vwA c c') 0 (.bool j) none) (goodN Tryz.prog W0 vfA 125 [(.agg (finL no el sd a b d e ma lo hi sex wear layer square)), (.agg (finL no' el' sd' a' b' d' e' mb lo' hi' sex' wear' layer' square')), i64 num] (vwA c c') 0 ((.agg (finL no2 el2 sd2 a2 b2 d2 e2 .nils lo2 hi2 sex2 wear2 layer2 square2))) none) (ov [(.agg (finL no el sd a b d e ma lo hi sex wear layer square))]) (ov [(.agg (finL no' el' sd' a' b' d' e' mb lo' hi' sex' wear' layer' square'))]) j num (some (.tup [(.agg (finL no2 el2 sd2 a2 b2 d2 e2 .nils lo2 hi2 sex2 wear2 layer2 square2)), i64 0], none)) := by kernel_rfl
theorem k49A_n : askK Tryz.prog (semN Tryz.prog W0 vfA (tb49 ov j (.agg (finL no2 el2 sd2 a2 b2 d2 e2 .nils lo2 hi2 sex2 wear2 layer2 square2)) none)) 60 49 [(.agg (finL no el sd a b d e ma lo hi sex wear layer square)), (.agg (finL no' el' sd' a' b' d' e' mb lo' hi' sex' wear' layer' square')), i64 num] (st2 c c') false = askK Tryz.prog (semN Tryz.prog W0 vfA (tb49 ov j (.agg (finL no2 el2 sd2 a2 b2 d2 e2 .nils lo2 hi2 sex2 wear2 layer2 square2)) none)) 60 49 [(.agg (finL no el sd a b d e ma lo hi sex wear layer square)), (.agg (finL no' el' sd' a' b' d' e' mb lo' hi' sex' wear' layer' square')), i64 num] (st2 c c') true := by kernel_rfl
theorem k51 : valK Tryz.prog (semN Tryz.prog W0 vfA (tb49 ov true .nils none)) 60 51 [(.agg (finL no el sd a b d e ma lo hi sex wear layer square)), (.agg (finL no' el' sd' a' b' d' e' mb lo' hi' sex' wear' layer' square'))] (st2 c c') = oT51 (goodN Tryz.prog W0 vfA 89 [(.agg (finL no el sd a b d e ma lo hi sex wear layer square))] (vwA c c') 0 (.bool (ov [(.agg (finL no el sd a b d e ma lo hi sex wear layer square))])) none) (goodN Tryz.prog W0 vfA 89 [(.agg (finL no' el' sd' a' b' d' e' mb lo' hi' sex' wear' layer' square'))] (vwA c c') 0 (.bool (ov [(.agg (finL no' el' sd' a' b' d' e' mb lo' hi' sex' wear' layer' square'))])) none) (ov [(.agg (finL no el sd a b d e ma lo hi sex wear layer square))]) (ov [(.agg (finL no' el' sd' a' b' d' e' mb lo' hi' sex' wear' layer' square'))]) el sd a el' sd' a' := by kernel_rfl
theorem k51A : askK Tryz.prog (semN Tryz.prog W0 vfA (tb49 ov true .nils none)) 60 51 [(.agg (finL no el sd a b d e ma lo hi sex wear layer square)), (.agg (finL no' el' sd' a' b' d' e' mb lo' hi' sex' wear' layer' square'))] (st2 c c') false = askK Tryz.prog (semN Tryz.prog W0 vfA (tb49 ov true .nils none)) 60 51 [(.agg (finL no el sd a b d e ma lo hi sex wear layer square)), (.agg (finL no' el' sd' a' b' d' e' mb lo' hi' sex' wear' layer' square'))] (st2 c c') true := by kernel_rfl
end
end Go.Proofs.YtilfiadkhohfiaaGreatDoor
/- Layer 2: joins of finds, in runs. -/
set_option linter.unusedVariables false
set_option maxRecDepth 100000
namespace Go.Proofs.YtilfiadkhohfiaaGreatDoor
set_option linter.unusedSimpArgs false
set_option linter.unusedVariables false
open Go Go.RowKit Go.Clo
variable {W : World}

/-- What the specification's Valid answers. -/
def ChecksR (W : World) (f : Fd) (z : Int) : Prop := ∀ (w : World) (ms : Value), Below W.heap.size W w → MeaAt w ms f.oc f.l → Calls Tryz.prog 89 #[f.U ms] w fun e w' => e = .returned (.bool (intBeq z 0)) ∧ Below w.heap.size w w'
theorem ChecksR.world {f : Fd} {z : Int} {w : World} (h : ChecksR W f z) (hb : Below W.heap.size W w) : ChecksR w f z := fun w' ms hb' hm => h w' ms (below_tr hb hb') hm
theorem good89 (hs0 : 0 < W.heap.size) {f : Fd} {z : Int} (hf : f.OK) (hz : ChecksR W f z) {i : Nat} {s : St} (hg : s.get i = some (.ro (meaC f.l))) : GoodM Tryz.prog W 89 [f.iv i] s (.bool (intBeq z 0)) s := GoodM.same fun ρ w us hR he => by
  obtain ⟨u, r, rfl, h1, h2⟩ := EL.cons_inv he
  obtain rfl := EL.nil_inv h2
  obtain ⟨ms, rfl, hm⟩ := Fd.im_of h1
  exact ⟨_, by simp only [E], hz w ms hR.below ((meaAt_of hR hs0 hf.ho hg hm).below hR.below)⟩
theorem two_args {ρ : Rho} {s : St} {w : World} {f g : Fd} (hs0 : 0 < W.heap.size) (hf : f.OK) (hg : g.OK) {i j : Nat} (hi : s.get i = some (.ro (meaC f.l))) (hj : s.get j = some (.ro (meaC g.l))) (hR : Rel W ρ s w) {xs : List V} {us : List Value} (he : EL ρ (f.iv i :: g.iv j :: xs) us) :
    ∃ ms ms' ys, us = f.U ms :: g.U ms' :: ys ∧ EL ρ xs ys ∧ MeaAt w ms f.oc f.l ∧ MeaAt w ms' g.oc g.l := by
  obtain ⟨u, r, rfl, e1, h2⟩ := EL.cons_inv he
  obtain ⟨u', r', rfl, e2, h3⟩ := EL.cons_inv h2
  obtain ⟨ms, rfl, hm⟩ := Fd.im_of e1
  obtain ⟨ms', rfl, hm'⟩ := Fd.im_of e2
  have hb := hR.below
  exact ⟨ms, ms', r', rfl, h3, (meaAt_of hR hs0 hf.ho hi hm).below hb, (meaAt_of hR hs0 hg.ho hj hm').below hb⟩
theorem good124 (hmix : Tryz.prog.follows .mixedOrders = true) (hs0 : 0 < W.heap.size) {f g : Fd} (hf : f.OK) (hg : g.OK) (hvf : f.Valid) (hvg : g.Valid) {i j : Nat} {s : St} (hi : s.get i = some (.ro (meaC f.l))) (hj : s.get j = some (.ro (meaC g.l))) :
    GoodM Tryz.prog W 124 [f.iv i, g.iv j] s (.bool (jC f g (agB f g))) s := GoodM.same fun ρ w us hR he => by
  obtain ⟨ms, ms', ys, rfl, h3, hm, hm'⟩ := two_args hs0 hf hg hi hj hR he
  obtain rfl := EL.nil_inv h3
  exact ⟨_, by simp only [E], joinable_calls hmix (Nat.lt_of_lt_of_le hs0 hR.below.size) hf hg hvf hvg hm hm'⟩
theorem run125 (hmix : Tryz.prog.follows .mixedOrders = true) (hs0 : 0 < W.heap.size) {f g : Fd} (hf : f.OK) (hg : g.OK) (hvf : f.Valid) (hvg : g.Valid) (hag : agB f g = true) {num : Int} {i j : Nat} {s : St} (hi : s.get i = some (.ro (meaC f.l))) (hj : s.get j = some (.ro (meaC g.l)))
    (ρ : Rho) (w : World) (us : List Value) (hR : Rel W ρ s w) (he : EL ρ [f.iv i, g.iv j, i64 num] us) : Calls Tryz.prog 125 us.toArray w (BRes w f g num) := by
  obtain ⟨ms, ms', ys, rfl, h3, hm, hm'⟩ := two_args hs0 hf hg hi hj hR he
  obtain ⟨u3, r3, rfl, e3, h4⟩ := EL.cons_inv h3
  obtain rfl := EL.nil_inv h4
  obtain rfl := E_i64_inv e3
  exact become_calls hmix (Nat.lt_of_lt_of_le hs0 hR.below.size) hf hg hvf hvg hag num hm hm'
theorem good125 (hmix : Tryz.prog.follows .mixedOrders = true) (hs0 : 0 < W.heap.size) {f g : Fd} (hf : f.OK) (hg : g.OK) (hvf : f.Valid) (hvg : g.Valid) (hag : agB f g = true) {num : Int} {l : List Mea} (hJ : joinM f.l f.l g.l = some l) {i j : Nat} {s : St} (hi : s.get i = some (.ro (meaC f.l))) (hj : s.get j = some (.ro (meaC g.l))) :
    GoodM Tryz.prog W 125 [f.iv i, g.iv j, i64 num] s ((jFd f g num).im (mvK l.isEmpty s.size l)) (addB s (bkK l.isEmpty l)) := by
  have run := run125 hmix hs0 hf hg hvf hvg hag (num := num) hi hj
  cases hn : l.isEmpty with
  | true =>
    rw [List.isEmpty_iff] at hn
    refine GoodM.same' fun ρ w us hR hE => (run ρ w us hR hE).mono ?_
    rintro e w' ⟨hb, mr, rfl, l', hl', _, ⟨_, rfl⟩ | ⟨h, _⟩⟩
    · exact ⟨_, rfl, Fd.im_E (show E ρ .nils _ by simp only [E]), hb⟩
    · rw [hJ] at hl'; injection hl' with hl'; subst hl'; exact absurd hn h
  | false =>
    have hne : l ≠ [] := fun h => by rw [h] at hn; cases hn
    refine GoodM.rowIn (len := l.length) (g := fun u => (jFd f g num).U u) (fun ρ u hu => Fd.im_E hu) fun ρ w us hR hE => (run ρ w us hR hE).mono ?_
    rintro e w' ⟨hb, mr, rfl, l', hl', _, ⟨h, _⟩ | ⟨_, h⟩⟩
    · rw [hJ] at hl'; injection hl' with hl'; subst hl'; exact absurd h hne
    · rw [hJ] at hl'; injection hl' with hl'; subst hl'
      obtain ⟨blk, off, cap, xs, ty, rfl, k1, k2, k3, k4, k5⟩ := h
      exact ⟨blk, off, cap, xs, ty, rfl, k1, k2, k3, k4, k5, hb⟩
/-- The answers of Valid, told apart by the argument. -/
noncomputable def ovV (f : Fd) (z z' : Int) (args : List V) : Bool := @ite _ (args = [f.iv 0]) (Classical.propDecidable _) (intBeq z 0) (intBeq z' 0)
theorem ovV_f (f : Fd) (z z' : Int) : ovV f z z' [f.iv 0] = intBeq z 0 := if_pos rfl
theorem ovV_g {f g : Fd} {z z' : Int} (hf : f.OK) (hg : g.OK) (hz : Checks W f z) (hz' : Checks W g z') : ovV f z z' [g.iv 1] = intBeq z' 0 := by
  show @ite _ ([g.iv 1] = [f.iv 0]) (Classical.propDecidable _) (intBeq z 0) (intBeq z' 0) = _
  by_cases h : [g.iv 1] = [f.iv 0]
  · rw [if_pos h]
    obtain ⟨_, _, _, _, hv⟩ := Fd.iv_inj hg hf (by omega) (List.cons.inj h).1
    rcases hz.1 with ⟨h1, rfl⟩ | ⟨h1, rfl⟩ <;> rcases hz'.1 with ⟨h2, rfl⟩ | ⟨h2, rfl⟩
    · rfl
    · exact absurd (hv.2 h1) h2
    · exact absurd (hv.1 h2) h1
    · rfl
  · rw [if_neg h]
theorem goodV (hs0 : 0 < W.heap.size) {f g : Fd} {z z' : Int} (hf : f.OK) (hg : g.OK) (hz : Checks W f z) (hz' : Checks W g z') (hr : ChecksR W f z) (hr' : ChecksR W g z') :
    goodN Tryz.prog W vfA 89 [f.iv 0] (vwA (meaC f.l) (meaC g.l)) 0 (.bool (ovV f z z' [f.iv 0])) none = true ∧ goodN Tryz.prog W vfA 89 [g.iv 1] (vwA (meaC f.l) (meaC g.l)) 0 (.bool (ovV f z z' [g.iv 1])) none = true := by
  constructor
  · rw [ovV_f]
    exact goodN_true fun s hvw _ => good89 hs0 hf hr (seen (vf := vfA) (fn := 89) rfl hvw).1
  · rw [ovV_g hf hg hz hz']
    exact goodN_true fun s hvw _ => good89 hs0 hg hr' (seen (vf := vfA) (fn := 89) rfl hvw).2
/-- ref.Joined, where it fails. -/
theorem joinedR_fail (hmix : Tryz.prog.follows .mixedOrders = true) (hs0 : 0 < W.heap.size) {f g : Fd} {z z' : Int} (hf : f.OK) (hg : g.OK) (hz : Checks W f z) (hz' : Checks W g z') (hr : ChecksR W f z) (hr' : ChecksR W g z') {num : Int} (hfail : failJ f g z z' num) {ms ms' : Value} (hm : MeaAt W ms f.oc f.l) (hm' : MeaAt W ms' g.oc g.l) :
    Calls Tryz.prog 49 #[f.U ms, g.U ms', .int .i64 num] W fun e w' => e = .returned (.tuple #[zFd.U (.slice none 0 0), .int .i64 (errJ f g z z' num)]) ∧ Below W.heap.size W w' := by
  obtain ⟨gf, gg⟩ := goodV hs0 hf hg hz hz' hr hr'
  have hv : valG Tryz.prog (semN Tryz.prog W vfA (tb49 (ovV f z z') (jC f g (agB f g)) (zFd.im .nils) none)) 60 49 [f.iv 0, g.iv 1, i64 num] (st2 (meaC f.l) (meaC g.l)) (fun v s => (v, s.get 5)) = jT49 (goodN Tryz.prog W vfA 89 [f.iv 0] (vwA (meaC f.l) (meaC g.l)) 0 (.bool (ovV f z z' [f.iv 0])) none) (goodN Tryz.prog W vfA 89 [g.iv 1] (vwA (meaC f.l) (meaC g.l)) 0 (.bool (ovV f z z' [g.iv 1])) none) (goodN Tryz.prog W vfA 124 [f.iv 0, g.iv 1] (vwA (meaC f.l) (meaC g.l)) 0 (.bool (jC f g (agB f g))) none) (goodN Tryz.prog W vfA 125 [f.iv 0, g.iv 1, i64 num] (vwA (meaC f.l) (meaC g.l)) 0 (zFd.im .nils) none) (ovV f z z' [f.iv 0]) (ovV f z z' [g.iv 1]) (jC f g (agB f g)) num (some (.tup [zFd.im .nils, i64 0], none)) :=
    k49_n W (ovV f z z') (jC f g (agB f g)) (meaC f.l) (meaC g.l) (mvOf 0 f.oc f.l) (mvOf 1 g.oc g.l) f.no f.el f.sd f.a f.b f.d f.e f.lo f.hi f.sex f.wear f.layer f.square g.no g.el g.sd g.a g.b g.d g.e g.lo g.hi g.sex g.wear g.layer g.square num 0 0 0 0 0 0 0 0 0 0 0 0 0
  have ha : askK Tryz.prog (semN Tryz.prog W vfA (tb49 (ovV f z z') (jC f g (agB f g)) (zFd.im .nils) none)) 60 49 [f.iv 0, g.iv 1, i64 num] (st2 (meaC f.l) (meaC g.l)) false = askK Tryz.prog (semN Tryz.prog W vfA (tb49 (ovV f z z') (jC f g (agB f g)) (zFd.im .nils) none)) 60 49 [f.iv 0, g.iv 1, i64 num] (st2 (meaC f.l) (meaC g.l)) true :=
    k49A_n W (ovV f z z') (jC f g (agB f g)) (meaC f.l) (meaC g.l) (mvOf 0 f.oc f.l) (mvOf 1 g.oc g.l) f.no f.el f.sd f.a f.b f.d f.e f.lo f.hi f.sex f.wear f.layer f.square g.no g.el g.sd g.a g.b g.d g.e g.lo g.hi g.sex g.wear g.layer g.square num 0 0 0 0 0 0 0 0 0 0 0 0 0
  rw [gf, gg, ovV_f, ovV_g hf hg hz hz'] at hv
  have hv2 : valG Tryz.prog (semN Tryz.prog W vfA (tb49 (ovV f z z') (jC f g (agB f g)) (zFd.im .nils) none)) 60 49 [f.iv 0, g.iv 1, i64 num] (st2 (meaC f.l) (meaC g.l)) (fun v s => (v, s.get 5)) = some (.tup [zFind, i64 (errJ f g z z' num)], none) := by
    rw [hv]
    rcases bothZ_20 hz.z hz'.z with h20 | ⟨rfl, rfl, h0⟩
    · have he : errJ f g z z' num = 20 := by unfold errJ; rw [h20]; rfl
      rw [he]
      unfold bothZ at h20
      rcases hz.z with rfl | rfl
      · rw [if_pos rfl] at h20
        subst h20
        rfl
      · rfl
    · have g124 : goodN Tryz.prog W vfA 124 [f.iv 0, g.iv 1] (vwA (meaC f.l) (meaC g.l)) 0 (.bool (jC f g (agB f g))) none = true := goodN_true fun s hvw _ => good124 hmix hs0 hf hg hz.valid hz'.valid (seen (vf := vfA) (fn := 124) rfl hvw).1 (seen (vf := vfA) (fn := 124) rfl hvw).2
      rw [g124]
      have he : errJ f g 0 0 num = jErr f g (agB f g) num := by unfold errJ; rw [h0]; rfl
      have hno : (inB num && jC f g (agB f g)) = false := hfail.elim (fun h => by rw [h0] at h; omega) fun h => h.2
      rw [he]
      unfold jErr jT49 inB at *
      cases h1 : intLt num 0 <;> cases h2 : intLt 4095 num <;> rw [h1, h2] at hno
      · have hno : jC f g (agB f g) = false := hno
        rw [hno]; rfl
      all_goals rfl
  obtain ⟨ρ, hR, x1, x2⟩ := pair_rel hm hm'
  refine (valG_stepH hmix semN_ok hv2 ha hR (us := [_, _, _]) (EL.cons (Fd.im_E x1) (EL.cons (Fd.im_E x2) (EL.cons (E_i64 num) EL.nil)))).mono ?_
  rintro e w' ⟨ρ', v', st', u, rfl, hst, hE, hg⟩
  simp only [Prod.mk.injEq] at hg
  obtain ⟨rfl, _⟩ := hg
  obtain ⟨x, y, rfl, h1, h2⟩ := E_tup2 hE
  obtain ⟨mr, rfl, h3⟩ := Fd.im_of (f := zFd) (mv := .nils) h1
  exact ⟨by rw [E_i64_inv h2, nils_inv h3], Step.belowOf hR hst pair_noImg⟩
end Go.Proofs.YtilfiadkhohfiaaGreatDoor
/- Layer 2: joins of finds, in runs. -/
set_option linter.unusedVariables false
set_option maxRecDepth 100000
namespace Go.Proofs.YtilfiadkhohfiaaGreatDoor
set_option linter.unusedSimpArgs false
set_option linter.unusedVariables false
open Go Go.RowKit Go.Clo
variable {W : World}

/-- ref.Joined, where it succeeds. -/
theorem joinedR_ok (hmix : Tryz.prog.follows .mixedOrders = true) (hs0 : 0 < W.heap.size) {f g : Fd} (hf : f.OK) (hg : g.OK) (hz : Checks W f 0) (hz' : Checks W g 0) (hr : ChecksR W f 0) (hr' : ChecksR W g 0) {num : Int} (hok : (inB num && jC f g (agB f g)) = true) {l : List Mea} (hJ : joinM f.l f.l g.l = some l) {ms ms' : Value} (hm : MeaAt W ms f.oc f.l) (hm' : MeaAt W ms' g.oc g.l) :
    Calls Tryz.prog 49 #[f.U ms, g.U ms', .int .i64 num] W fun e w' => ∃ mr, e = .returned (.tuple #[(jFd f g num).U mr, .int .i64 0]) ∧ Below W.heap.size W w' ∧ ((l.isEmpty = true ∧ mr = .slice none 0 0) ∨ (l.isEmpty = false ∧ NewAt W.heap.size w' mr l)) := by
  obtain ⟨gf, gg⟩ := goodV hs0 hf hg hz hz' hr hr'
  have hvf := hz.valid
  have hvg := hz'.valid
  have hok2 := hok
  rw [Bool.and_eq_true] at hok2
  obtain ⟨hi, hc⟩ := hok2
  have hag := jC_ag hc
  have g124 : goodN Tryz.prog W vfA 124 [f.iv 0, g.iv 1] (vwA (meaC f.l) (meaC g.l)) 0 (.bool (jC f g (agB f g))) none = true := goodN_true fun s hvw _ => good124 hmix hs0 hf hg hz.valid hz'.valid (seen (vf := vfA) (fn := 124) rfl hvw).1 (seen (vf := vfA) (fn := 124) rfl hvw).2
  have hin : (!intLt num 0) = true ∧ (!!intLt 4095 num) = false := by
    unfold inB at hi
    cases h1 : intLt num 0 <;> cases h2 : intLt 4095 num <;> rw [h1, h2] at hi <;> first | exact ⟨rfl, rfl⟩ | cases hi
  have tree : ∀ {gb : Bool} {res : Option (V × Option Blk)}, gb = true → jT49 true true true gb (intBeq 0 0) (intBeq 0 0) (jC f g (agB f g)) num res = res := fun {gb res} h => by
    unfold jT49
    rw [hin.1, hin.2, hc, h]; rfl
  obtain ⟨ρ, hR, x1, x2⟩ := pair_rel hm hm'
  cases hn : l.isEmpty with
  | true =>
    have g125 : goodN Tryz.prog W vfA 125 [f.iv 0, g.iv 1, i64 num] (vwA (meaC f.l) (meaC g.l)) 0 ((jFd f g num).im .nils) none = true := goodN_true fun s hvw _ => by
      obtain ⟨k0, k1⟩ := seen (vf := vfA) (fn := 125) rfl hvw
      have h := good125 hmix hs0 hf hg hvf hvg hag (num := num) hJ k0 k1
      rw [hn] at h
      exact h
    have hv : valG Tryz.prog (semN Tryz.prog W vfA (tb49 (ovV f 0 0) (jC f g (agB f g)) ((jFd f g num).im .nils) none)) 60 49 [f.iv 0, g.iv 1, i64 num] (st2 (meaC f.l) (meaC g.l)) (fun v s => (v, s.get 5)) = jT49 (goodN Tryz.prog W vfA 89 [f.iv 0] (vwA (meaC f.l) (meaC g.l)) 0 (.bool (ovV f 0 0 [f.iv 0])) none) (goodN Tryz.prog W vfA 89 [g.iv 1] (vwA (meaC f.l) (meaC g.l)) 0 (.bool (ovV f 0 0 [g.iv 1])) none) (goodN Tryz.prog W vfA 124 [f.iv 0, g.iv 1] (vwA (meaC f.l) (meaC g.l)) 0 (.bool (jC f g (agB f g))) none) (goodN Tryz.prog W vfA 125 [f.iv 0, g.iv 1, i64 num] (vwA (meaC f.l) (meaC g.l)) 0 ((jFd f g num).im .nils) none) (ovV f 0 0 [f.iv 0]) (ovV f 0 0 [g.iv 1]) (jC f g (agB f g)) num (some (.tup [(jFd f g num).im .nils, i64 0], none)) :=
      k49_n W (ovV f 0 0) (jC f g (agB f g)) (meaC f.l) (meaC g.l) (mvOf 0 f.oc f.l) (mvOf 1 g.oc g.l) f.no f.el f.sd f.a f.b f.d f.e f.lo f.hi f.sex f.wear f.layer f.square g.no g.el g.sd g.a g.b g.d g.e g.lo g.hi g.sex g.wear g.layer g.square num (jFd f g num).no (jFd f g num).el (jFd f g num).sd (jFd f g num).a (jFd f g num).b (jFd f g num).d (jFd f g num).e (jFd f g num).lo (jFd f g num).hi (jFd f g num).sex (jFd f g num).wear (jFd f g num).layer (jFd f g num).square
    have ha : askK Tryz.prog (semN Tryz.prog W vfA (tb49 (ovV f 0 0) (jC f g (agB f g)) ((jFd f g num).im .nils) none)) 60 49 [f.iv 0, g.iv 1, i64 num] (st2 (meaC f.l) (meaC g.l)) false = askK Tryz.prog (semN Tryz.prog W vfA (tb49 (ovV f 0 0) (jC f g (agB f g)) ((jFd f g num).im .nils) none)) 60 49 [f.iv 0, g.iv 1, i64 num] (st2 (meaC f.l) (meaC g.l)) true :=
      k49A_n W (ovV f 0 0) (jC f g (agB f g)) (meaC f.l) (meaC g.l) (mvOf 0 f.oc f.l) (mvOf 1 g.oc g.l) f.no f.el f.sd f.a f.b f.d f.e f.lo f.hi f.sex f.wear f.layer f.square g.no g.el g.sd g.a g.b g.d g.e g.lo g.hi g.sex g.wear g.layer g.square num (jFd f g num).no (jFd f g num).el (jFd f g num).sd (jFd f g num).a (jFd f g num).b (jFd f g num).d (jFd f g num).e (jFd f g num).lo (jFd f g num).hi (jFd f g num).sex (jFd f g num).wear (jFd f g num).layer (jFd f g num).square
    rw [gf, gg, g124, ovV_f, ovV_g hf hg hz hz', tree g125] at hv
    refine (valG_stepH hmix semN_ok hv ha hR (us := [_, _, _]) (EL.cons (Fd.im_E x1) (EL.cons (Fd.im_E x2) (EL.cons (E_i64 num) EL.nil)))).mono ?_
    rintro e w' ⟨ρ', v', st', u, rfl, hst, hE, hg⟩
    simp only [Prod.mk.injEq] at hg
    obtain ⟨rfl, _⟩ := hg
    obtain ⟨x, y, rfl, h1, h2⟩ := E_tup2 hE
    obtain ⟨mr, rfl, h3⟩ := Fd.im_of (f := jFd f g num) (mv := .nils) h1
    exact ⟨mr, by rw [E_i64_inv h2], Step.belowOf hR hst pair_noImg, .inl ⟨rfl, nils_inv h3⟩⟩
  | false =>
    have hne : l ≠ [] := fun h => by rw [h] at hn; cases hn
    have g125 : goodN Tryz.prog W vfA 125 [f.iv 0, g.iv 1, i64 num] (vwA (meaC f.l) (meaC g.l)) 5 ((jFd f g num).im (slN 5 l)) (rowB l) = true := goodN_true fun s hvw hsz => by
      obtain ⟨k0, k1⟩ := seen (vf := vfA) (fn := 125) rfl hvw
      have h := good125 hmix hs0 hf hg hvf hvg hag (num := num) hJ k0 k1
      rw [hn, hsz rfl] at h
      exact h
    have hv : valG Tryz.prog (semN Tryz.prog W vfA (tb49 (ovV f 0 0) (jC f g (agB f g)) ((jFd f g num).im (slN 5 l)) (rowB l))) 60 49 [f.iv 0, g.iv 1, i64 num] (st2 (meaC f.l) (meaC g.l)) (fun v s => (v, s.get 5)) = jT49 (goodN Tryz.prog W vfA 89 [f.iv 0] (vwA (meaC f.l) (meaC g.l)) 0 (.bool (ovV f 0 0 [f.iv 0])) none) (goodN Tryz.prog W vfA 89 [g.iv 1] (vwA (meaC f.l) (meaC g.l)) 0 (.bool (ovV f 0 0 [g.iv 1])) none) (goodN Tryz.prog W vfA 124 [f.iv 0, g.iv 1] (vwA (meaC f.l) (meaC g.l)) 0 (.bool (jC f g (agB f g))) none) (goodN Tryz.prog W vfA 125 [f.iv 0, g.iv 1, i64 num] (vwA (meaC f.l) (meaC g.l)) 5 ((jFd f g num).im (slN 5 l)) (rowB l)) (ovV f 0 0 [f.iv 0]) (ovV f 0 0 [g.iv 1]) (jC f g (agB f g)) num (some (.tup [(jFd f g num).im (slN 5 l), i64 0], rowB l)) :=
      k49_r W (ovV f 0 0) (jC f g (agB f g)) l (meaC f.l) (meaC g.l) (mvOf 0 f.oc f.l) (mvOf 1 g.oc g.l) f.no f.el f.sd f.a f.b f.d f.e f.lo f.hi f.sex f.wear f.layer f.square g.no g.el g.sd g.a g.b g.d g.e g.lo g.hi g.sex g.wear g.layer g.square num (jFd f g num).no (jFd f g num).el (jFd f g num).sd (jFd f g num).a (jFd f g num).b (jFd f g num).d (jFd f g num).e (jFd f g num).lo (jFd f g num).hi (jFd f g num).sex (jFd f g num).wear (jFd f g num).layer (jFd f g num).square
    have ha : askK Tryz.prog (semN Tryz.prog W vfA (tb49 (ovV f 0 0) (jC f g (agB f g)) ((jFd f g num).im (slN 5 l)) (rowB l))) 60 49 [f.iv 0, g.iv 1, i64 num] (st2 (meaC f.l) (meaC g.l)) false = askK Tryz.prog (semN Tryz.prog W vfA (tb49 (ovV f 0 0) (jC f g (agB f g)) ((jFd f g num).im (slN 5 l)) (rowB l))) 60 49 [f.iv 0, g.iv 1, i64 num] (st2 (meaC f.l) (meaC g.l)) true :=
      k49A_r W (ovV f 0 0) (jC f g (agB f g)) l (meaC f.l) (meaC g.l) (mvOf 0 f.oc f.l) (mvOf 1 g.oc g.l) f.no f.el f.sd f.a f.b f.d f.e f.lo f.hi f.sex f.wear f.layer f.square g.no g.el g.sd g.a g.b g.d g.e g.lo g.hi g.sex g.wear g.layer g.square num (jFd f g num).no (jFd f g num).el (jFd f g num).sd (jFd f g num).a (jFd f g num).b (jFd f g num).d (jFd f g num).e (jFd f g num).lo (jFd f g num).hi (jFd f g num).sex (jFd f g num).wear (jFd f g num).layer (jFd f g num).square
    rw [gf, gg, g124, ovV_f, ovV_g hf hg hz hz', tree g125] at hv
    refine (valG_stepH hmix semN_ok hv ha hR (us := [_, _, _]) (EL.cons (Fd.im_E x1) (EL.cons (Fd.im_E x2) (EL.cons (E_i64 num) EL.nil)))).mono ?_
    rintro e w' ⟨ρ', v', st', u, rfl, hst, hE, hg⟩
    simp only [Prod.mk.injEq] at hg
    obtain ⟨rfl, hrow⟩ := hg
    obtain ⟨x, y, rfl, h1, h2⟩ := E_tup2 hE
    obtain ⟨mr, rfl, h3⟩ := Fd.im_of (f := jFd f g num) (mv := slN 5 l) h1
    exact ⟨mr, by rw [E_i64_inv h2], Step.belowOf hR hst pair_noImg, .inr ⟨rfl, row_new hst.rel hne h3 (rowOf_row hrow)⟩⟩
theorem good49e (hmix : Tryz.prog.follows .mixedOrders = true) (hs0 : 0 < W.heap.size) {f g : Fd} {z z' : Int} (hf : f.OK) (hg : g.OK) (hz : Checks W f z) (hz' : Checks W g z') (hr : ChecksR W f z) (hr' : ChecksR W g z') {num : Int} (hfail : failJ f g z z' num) {i j : Nat} {s : St} (hi : s.get i = some (.ro (meaC f.l))) (hj : s.get j = some (.ro (meaC g.l))) :
    GoodM Tryz.prog W 49 [f.iv i, g.iv j, i64 num] s (.tup [zFind, i64 (errJ f g z z' num)]) s := GoodM.same fun ρ w us hR he => by
  obtain ⟨ms, ms', ys, rfl, h3, hm, hm'⟩ := two_args hs0 hf hg hi hj hR he
  obtain ⟨u3, r3, rfl, e3, h4⟩ := EL.cons_inv h3
  obtain rfl := EL.nil_inv h4
  obtain rfl := E_i64_inv e3
  have hb := hR.below
  refine ⟨_, ?_, joinedR_fail hmix (Nat.lt_of_lt_of_le hs0 hb.size) hf hg (hz.world hb) (hz'.world hb) (hr.world hb) (hr'.world hb) hfail hm hm'⟩
  simp only [E]
  exact ⟨[_, _], rfl, EL.cons (Fd.im_E (f := zFd) (show E ρ .nils _ by simp only [E])) (EL.cons (E_i64 _) EL.nil)⟩
theorem good49s (hmix : Tryz.prog.follows .mixedOrders = true) (hs0 : 0 < W.heap.size) {f g : Fd} (hf : f.OK) (hg : g.OK) (hz : Checks W f 0) (hz' : Checks W g 0) (hr : ChecksR W f 0) (hr' : ChecksR W g 0) {num : Int} {l : List Mea} (hok : (inB num && jC f g (agB f g)) = true) (hJ : joinM f.l f.l g.l = some l) {i j : Nat} {s : St} (hi : s.get i = some (.ro (meaC f.l))) (hj : s.get j = some (.ro (meaC g.l))) :
    GoodM Tryz.prog W 49 [f.iv i, g.iv j, i64 num] s (.tup [(jFd f g num).im (mvK l.isEmpty s.size l), i64 0]) (addB s (bkK l.isEmpty l)) := by
  have run : ∀ (ρ : Rho) (w : World) (us : List Value), Rel W ρ s w → EL ρ [f.iv i, g.iv j, i64 num] us → Calls Tryz.prog 49 us.toArray w fun e w' => ∃ mr, e = .returned (.tuple #[(jFd f g num).U mr, .int .i64 0]) ∧ Below w.heap.size w w' ∧ ((l.isEmpty = true ∧ mr = .slice none 0 0) ∨ (l.isEmpty = false ∧ NewAt w.heap.size w' mr l)) := by
    intro ρ w us hR he
    obtain ⟨ms, ms', ys, rfl, h3, hm, hm'⟩ := two_args hs0 hf hg hi hj hR he
    obtain ⟨u3, r3, rfl, e3, h4⟩ := EL.cons_inv h3
    obtain rfl := EL.nil_inv h4
    obtain rfl := E_i64_inv e3
    have hb := hR.below
    exact joinedR_ok hmix (Nat.lt_of_lt_of_le hs0 hb.size) hf hg (hz.world hb) (hz'.world hb) (hr.world hb) (hr'.world hb) hok hJ hm hm'
  cases hn : l.isEmpty with
  | true =>
    refine GoodM.same' fun ρ w us hR hE => (run ρ w us hR hE).mono ?_
    rintro e w' ⟨mr, rfl, hb, ⟨_, rfl⟩ | ⟨h, _⟩⟩
    · refine ⟨_, rfl, ?_, hb⟩
      simp only [E]
      exact ⟨[_, _], rfl, EL.cons (Fd.im_E (show E ρ .nils _ by simp only [E])) (EL.cons (E_i64 _) EL.nil)⟩
    · rw [hn] at h; cases h
  | false =>
    refine GoodM.rowIn (len := l.length) (g := fun u => .tuple #[(jFd f g num).U u, .int .i64 0]) (fun ρ u hu => ?_) fun ρ w us hR hE => (run ρ w us hR hE).mono ?_
    · simp only [E]
      exact ⟨[_, _], rfl, EL.cons (Fd.im_E hu) (EL.cons (E_i64 _) EL.nil)⟩
    · rintro e w' ⟨mr, rfl, hb, ⟨h, _⟩ | ⟨_, h⟩⟩
      · rw [hn] at h; cases h
      · obtain ⟨blk, off, cap, xs, ty, rfl, k1, k2, k3, k4, k5⟩ := h
        exact ⟨blk, off, cap, xs, ty, rfl, k1, k2, k3, k4, k5, hb⟩
/-- ref.Overlap. -/
theorem overlapR_calls (hmix : Tryz.prog.follows .mixedOrders = true) (hs0 : 0 < W.heap.size) {f g : Fd} {z z' : Int} (hf : f.OK) (hg : g.OK) (hz : Checks W f z) (hz' : Checks W g z') (hr : ChecksR W f z) (hr' : ChecksR W g z') {ms ms' : Value} (hm : MeaAt W ms f.oc f.l) (hm' : MeaAt W ms' g.oc g.l) :
    Calls Tryz.prog 51 #[f.U ms, g.U ms'] W fun e w' => e = .returned (.tuple #[.bool (ovR f g z z'), .int .i64 (bothZ z z')]) ∧ Below W.heap.size W w' := by
  obtain ⟨gf, gg⟩ := goodV hs0 hf hg hz hz' hr hr'
  have hv : valK Tryz.prog (semN Tryz.prog W vfA (tb49 (ovV f z z') true .nils none)) 60 51 [f.iv 0, g.iv 1] (st2 (meaC f.l) (meaC g.l)) = oT51 (goodN Tryz.prog W vfA 89 [f.iv 0] (vwA (meaC f.l) (meaC g.l)) 0 (.bool (ovV f z z' [f.iv 0])) none) (goodN Tryz.prog W vfA 89 [g.iv 1] (vwA (meaC f.l) (meaC g.l)) 0 (.bool (ovV f z z' [g.iv 1])) none) (ovV f z z' [f.iv 0]) (ovV f z z' [g.iv 1]) f.el f.sd f.a g.el g.sd g.a :=
    k51 W (ovV f z z') (meaC f.l) (meaC g.l) (mvOf 0 f.oc f.l) (mvOf 1 g.oc g.l) f.no f.el f.sd f.a f.b f.d f.e f.lo f.hi f.sex f.wear f.layer f.square g.no g.el g.sd g.a g.b g.d g.e g.lo g.hi g.sex g.wear g.layer g.square
  have ha : askK Tryz.prog (semN Tryz.prog W vfA (tb49 (ovV f z z') true .nils none)) 60 51 [f.iv 0, g.iv 1] (st2 (meaC f.l) (meaC g.l)) false = askK Tryz.prog (semN Tryz.prog W vfA (tb49 (ovV f z z') true .nils none)) 60 51 [f.iv 0, g.iv 1] (st2 (meaC f.l) (meaC g.l)) true :=
    k51A W (ovV f z z') (meaC f.l) (meaC g.l) (mvOf 0 f.oc f.l) (mvOf 1 g.oc g.l) f.no f.el f.sd f.a f.b f.d f.e f.lo f.hi f.sex f.wear f.layer f.square g.no g.el g.sd g.a g.b g.d g.e g.lo g.hi g.sex g.wear g.layer g.square
  rw [gf, gg, ovV_f, ovV_g hf hg hz hz'] at hv
  have hv2 : valK Tryz.prog (semN Tryz.prog W vfA (tb49 (ovV f z z') true .nils none)) 60 51 [f.iv 0, g.iv 1] (st2 (meaC f.l) (meaC g.l)) = tup2 (.bool (ovR f g z z')) (i64 (bothZ z z')) := by
    rw [hv]
    rcases bothZ_20 hz.z hz'.z with h20 | ⟨rfl, rfl, h0⟩
    · unfold ovR
      rw [h20]
      unfold bothZ at h20
      rcases hz.z with rfl | rfl
      · rw [if_pos rfl] at h20
        subst h20
        rfl
      · rfl
    · unfold ovR ovB oT51
      rw [h0, bleT_of hf hg]
      have e : eqVs (setV4 (Nat.land f.a g.a)) (setV4 0) = intBeq (.ofNat (Nat.land f.a g.a)) 0 := by
        rw [Bool.eq_iff_iff, eqSet_iff, intBeq_iff]
        simp only [Int.ofNat_eq_natCast]
        omega
      rw [e]
      cases intBeq f.el g.el <;> cases intBeq f.sd g.sd <;> cases intBeq f.sd 3 <;> cases intBeq (.ofNat (Nat.land f.a g.a)) 0 <;> rfl
  refine (pair_calls hmix semN_ok (xs := []) (ys := []) (fun ρ => EL.nil) hv2 ha hm hm').mono ?_
  rintro e w' ⟨ρ', u, rfl, hb, hE⟩
  obtain ⟨x, y, rfl, h1, h2⟩ := E_tup2 hE
  exact ⟨by rw [E_bool_inv h1, E_i64_inv h2], hb⟩
theorem good51 (hmix : Tryz.prog.follows .mixedOrders = true) (hs0 : 0 < W.heap.size) {f g : Fd} {z z' : Int} (hf : f.OK) (hg : g.OK) (hz : Checks W f z) (hz' : Checks W g z') (hr : ChecksR W f z) (hr' : ChecksR W g z') {i j : Nat} {s : St} (hi : s.get i = some (.ro (meaC f.l))) (hj : s.get j = some (.ro (meaC g.l))) :
    GoodM Tryz.prog W 51 [f.iv i, g.iv j] s (.tup [.bool (ovR f g z z'), i64 (bothZ z z')]) s := GoodM.same fun ρ w us hR he => by
  obtain ⟨ms, ms', ys, rfl, h3, hm, hm'⟩ := two_args hs0 hf hg hi hj hR he
  obtain rfl := EL.nil_inv h3
  have hb := hR.below
  refine ⟨.tuple #[.bool (ovR f g z z'), .int .i64 (bothZ z z')], ?_, overlapR_calls hmix (Nat.lt_of_lt_of_le hs0 hb.size) hf hg (hz.world hb) (hz'.world hb) (hr.world hb) (hr'.world hb) hm hm'⟩
  simp only [E]
  exact ⟨[_, _], rfl, EL.cons (by simp only [E]) (EL.cons (E_i64 _) EL.nil)⟩
end Go.Proofs.YtilfiadkhohfiaaGreatDoor
