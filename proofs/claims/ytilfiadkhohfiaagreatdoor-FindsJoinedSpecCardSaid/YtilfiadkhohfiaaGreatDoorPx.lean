/- Layer 2: joins of finds. -/
import Derived.Test.YtilfiadkhohfiaaGreatDoorPw
/- Layer 2: joins of finds, in runs. -/
set_option linter.unusedVariables false
namespace Go.Proofs.YtilfiadkhohfiaaGreatDoor
set_option linter.unusedSimpArgs false
set_option linter.unusedVariables false
open Go Go.RowKit Go.Clo
noncomputable section
/-- A block without its type. -/
def noTy (x : Option Blk) : Option Blk := match x with | some (.cells c _) => some (.cells c 0) | x => x
/-- What Joined comes to, of valid finds, with any leaves. -/
def jTp {γ : Type} (g122 g169 g173 g76 ag : Bool) (el sd : Int) (a : Nat) (lo hi : Int) (el' sd' : Int) (a' : Nat) (lo' hi' : Int) (num : Int) (nv fin : Int → Option γ) : Option γ :=
  let last : Option γ := cond (intLt (hiA hi hi') (loA lo lo')) (nv 22) (cond (!ag) (nv 22) (cond (bleT a a') (cond g173 (cond (intBeq sd 3) (cond g76 (fin sd') none) (cond g76 (fin sd) none)) none) none))
  let meet : Option γ := cond (bleT a a') (cond (rngV (setV4 (Nat.land a a')) (setV4 0)) (cond (!eqVs (setV4 (Nat.land a a')) (setV4 0)) (nv 22) last) none) none
  cond g122 (cond (!intLt num 0) (cond (!!intLt 4095 num) (nv 1) (cond g169 (cond (!intBeq el el') (nv 22)
    (cond (intBeq sd sd') meet (cond (intBeq sd 3) meet (cond (!intBeq sd' 3) (nv 22) meet)))) none)) (nv 1)) none
end
set_option maxRecDepth 100000
section
variable (W0 : World) (sx : Int) (l : List Mea) (ag : Bool) (c c' : List V) (ma mb : V) (no el sd : Int) (a b d e : Nat) (lo hi sex wear layer square : Int) (no' el' sd' : Int) (a' b' d' e' : Nat) (lo' hi' sex' wear' layer' square' : Int) (num : Int) (cap n : Nat)
theorem js_3 : valG Tryz.prog (semN Tryz.prog W0 (vfJ 8) (tbJ sx (fun _ n => (.tup [slN n l, .bool ag], rowB l)) (some fun _ n => (slN n l, rowB l)))) 60 48 [fin1 no el sd a ma lo hi sex wear layer square, fin1 no' el' sd' a' mb lo' hi' sex' wear' layer' square', i64 num] (st2 c c') (fun v s => (v, s.get 125)) = jTp (goodN Tryz.prog W0 (vfJ 8) 122 [fin1 no el sd a ma lo hi sex wear layer square, fin1 no' el' sd' a' mb lo' hi' sex' wear' layer' square'] (vwA c c') 0 (i64 0) none) (goodN Tryz.prog W0 (vfJ 8) 169 [ma, mb] (vwA c c') 8 (.tup [slN 8 l, .bool ag]) (rowB l)) (goodN Tryz.prog W0 (vfJ 8) 173 [i64 sex, i64 sex'] (vwA c c') 0 (i64 sx) none) (goodN Tryz.prog W0 (vfJ 8) 76 [slN 8 l] [rowB l] 125 (slN 125 l) (rowB l)) (ag) el sd a lo hi el' sd' a' lo' hi' num (fun e => some (.tup [zFind, i64 e], none)) (fun s => some (.tup [.agg (finL num el s (Nat.lor a a') 0 0 0 (slN 125 l) (loA lo lo') (hiA hi hi') sx (cond (intLt wear wear') wear' wear) layer square), i64 0], rowB l)) := by kernel_rfl
theorem js_2 : valG Tryz.prog (semN Tryz.prog W0 (vfJ 0) (tbJ sx (fun _ _ => (.tup [.sl 0 0 n (.exact cap), .bool true], none)) (some fun _ n => (slN n l, rowB l)))) 60 48 [fin1 no el sd a (.sl 0 0 n (.exact cap)) lo hi sex wear layer square, fin1 no' el' sd' a' mb lo' hi' sex' wear' layer' square', i64 num] (st2 c c') (fun v s => (v, s.get 124)) = jTp (goodN Tryz.prog W0 (vfJ 0) 122 [fin1 no el sd a (.sl 0 0 n (.exact cap)) lo hi sex wear layer square, fin1 no' el' sd' a' mb lo' hi' sex' wear' layer' square'] (vwA c c') 0 (i64 0) none) (goodN Tryz.prog W0 (vfJ 0) 169 [.sl 0 0 n (.exact cap), mb] (vwA c c') 0 (.tup [.sl 0 0 n (.exact cap), .bool true]) none) (goodN Tryz.prog W0 (vfJ 0) 173 [i64 sex, i64 sex'] (vwA c c') 0 (i64 sx) none) (goodN Tryz.prog W0 (vfJ 0) 76 [.sl 0 0 n (.exact cap)] [some (.ro c)] 124 (slN 124 l) (rowB l)) (true) el sd a lo hi el' sd' a' lo' hi' num (fun e => some (.tup [zFind, i64 e], none)) (fun s => some (.tup [.agg (finL num el s (Nat.lor a a') 0 0 0 (slN 124 l) (loA lo lo') (hiA hi hi') sx (cond (intLt wear wear') wear' wear) layer square), i64 0], rowB l)) := by kernel_rfl
theorem js_2e : valG Tryz.prog (semN Tryz.prog W0 (vfJ 0) (tbJ sx (fun _ _ => (.tup [.sl 0 0 0 (.exact cap), .bool true], none)) none)) 60 48 [fin1 no el sd a (.sl 0 0 0 (.exact cap)) lo hi sex wear layer square, fin1 no' el' sd' a' mb lo' hi' sex' wear' layer' square', i64 num] (st2 [] c') (fun v s => (v, noTy (s.get 124))) = jTp (goodN Tryz.prog W0 (vfJ 0) 122 [fin1 no el sd a (.sl 0 0 0 (.exact cap)) lo hi sex wear layer square, fin1 no' el' sd' a' mb lo' hi' sex' wear' layer' square'] (vwA [] c') 0 (i64 0) none) (goodN Tryz.prog W0 (vfJ 0) 169 [.sl 0 0 0 (.exact cap), mb] (vwA [] c') 0 (.tup [.sl 0 0 0 (.exact cap), .bool true]) none) (goodN Tryz.prog W0 (vfJ 0) 173 [i64 sex, i64 sex'] (vwA [] c') 0 (i64 sx) none) (true) (true) el sd a lo hi el' sd' a' lo' hi' num (fun e => some (.tup [zFind, i64 e], none)) (fun s => some (.tup [.agg (finL num el s (Nat.lor a a') 0 0 0 (.sl 124 0 0 (.exact 0)) (loA lo lo') (hiA hi hi') sx (cond (intLt wear wear') wear' wear) layer square), i64 0], some (.cells [] 0))) := by kernel_rfl
theorem js_2f (hc : c = []) : valG Tryz.prog (semN Tryz.prog W0 (vfJ 0) (tbJ sx (fun _ _ => (.tup [.sl 0 0 0 (.exact cap), .bool true], none)) none)) 60 48 [fin1 no el sd a (.sl 0 0 0 (.exact cap)) lo hi sex wear layer square, fin1 no' el' sd' a' mb lo' hi' sex' wear' layer' square', i64 num] (st2 c c') (fun v s => (v, noTy (s.get 124))) = jTp (goodN Tryz.prog W0 (vfJ 0) 122 [fin1 no el sd a (.sl 0 0 0 (.exact cap)) lo hi sex wear layer square, fin1 no' el' sd' a' mb lo' hi' sex' wear' layer' square'] (vwA c c') 0 (i64 0) none) (goodN Tryz.prog W0 (vfJ 0) 169 [.sl 0 0 0 (.exact cap), mb] (vwA c c') 0 (.tup [.sl 0 0 0 (.exact cap), .bool true]) none) (goodN Tryz.prog W0 (vfJ 0) 173 [i64 sex, i64 sex'] (vwA c c') 0 (i64 sx) none) (true) (true) el sd a lo hi el' sd' a' lo' hi' num (fun e => some (.tup [zFind, i64 e], none)) (fun s => some (.tup [.agg (finL num el s (Nat.lor a a') 0 0 0 (.sl 124 0 0 (.exact 0)) (loA lo lo') (hiA hi hi') sx (cond (intLt wear wear') wear' wear) layer square), i64 0], some (.cells [] 0))) := by subst hc; apply js_2e
end
set_option maxHeartbeats 4000000 in
theorem jTp_eq {γ : Type} {f g : Fd} (hf : f.OK) (hg : g.OK) {g76 ag : Bool} (h76 : ag = true → g76 = true) (num : Int) (nv fin : Int → Option γ) :
    jTp true true true g76 ag f.el f.sd f.a f.lo f.hi g.el g.sd g.a g.lo g.hi num nv fin = cond (inB num) (cond (jC f g ag) (fin (cond (intBeq f.sd 3) g.sd f.sd)) (nv 22)) (nv 1) := by
  unfold jTp jC inB
  rw [bleT_of hf hg, rngSet (land_lt hf.a) (by omega)]
  cases ag with
  | false =>
    cases intLt num 0 <;> cases intLt 4095 num <;> cases intBeq f.el g.el <;> cases intBeq f.sd g.sd <;> cases intBeq f.sd 3 <;> cases intBeq g.sd 3 <;> cases eqVs (setV4 (Nat.land f.a g.a)) (setV4 0) <;> cases intLt (hiA f.hi g.hi) (loA f.lo g.lo) <;> rfl
  | true =>
    rw [h76 rfl]
    cases intLt num 0 <;> cases intLt 4095 num <;> cases intBeq f.el g.el <;> cases intBeq f.sd g.sd <;> cases intBeq f.sd 3 <;> cases intBeq g.sd 3 <;> cases eqVs (setV4 (Nat.land f.a g.a)) (setV4 0) <;> cases intLt (hiA f.hi g.hi) (loA f.lo g.lo) <;> rfl
end Go.Proofs.YtilfiadkhohfiaaGreatDoor
/- Layer 2: joins of finds, in runs. -/
set_option linter.unusedVariables false
namespace Go.Proofs.YtilfiadkhohfiaaGreatDoor
set_option linter.unusedSimpArgs false
set_option linter.unusedVariables false
open Go Go.RowKit Go.Clo
variable {W : World}

/-- Whether the joined list is nil. -/
def jNil (f g : Fd) : Bool := g.l.isEmpty && (match f.oc with | none => true | some _ => false)
/-- What Joined comes to, of valid finds. -/
def JRes (W : World) (f g : Fd) (num : Int) (e : Ending) (w' : World) : Prop := ∃ mr, Below W.heap.size W w' ∧ e = .returned (.tuple #[(jRes f g (agB f g) num).U mr, .int .i64 (jErr f g (agB f g) num)]) ∧
  (((inB num && jC f g (agB f g)) = false ∧ mr = .slice none 0 0) ∨ ((inB num && jC f g (agB f g)) = true ∧ ∃ l, joinM f.l f.l g.l = some l ∧ l.length ≤ 8 ∧ ((jNil f g = true ∧ mr = .slice none 0 0 ∧ l = []) ∨ (jNil f g = false ∧ NewAt W.heap.size w' mr l))))
theorem jC_ag {f g : Fd} {ag : Bool} (h : jC f g ag = true) : ag = true := by
  unfold jC at h
  simp only [Bool.and_eq_true] at h
  exact h.2.2.2.2
theorem agB_some {f g : Fd} (h : agB f g = true) : ∃ l, joinM f.l f.l g.l = some l ∧ l.length ≤ 8 := by
  unfold agB at h
  split at h
  · rename_i l hl; exact ⟨l, hl, of_decide_eq_true h⟩
  · cases h
theorem nils_inv {ρ : Rho} {u : Value} (h : E ρ .nils u) : u = .slice none 0 0 := by simpa only [E] using h
/-- A list without measurements that a run has made. -/
theorem row_empty {ρ : Rho} {s : St} {w : World} (hR : Rel W ρ s w) {b : Nat} {u : Value} (he : E ρ (.sl b 0 0 (.exact 0)) u) (h : noTy (s.get b) = some (.cells [] 0)) : NewAt W.heap.size w u [] := by
  have hb : ∃ ty, s.get b = some (.cells [] ty) := by
    unfold noTy at h
    split at h
    · rename_i c ty hc; injection h with h; injection h with h1 _; subst h1; exact ⟨ty, hc⟩
    · rename_i hx
      exact ⟨0, h⟩
  obtain ⟨ty, hb⟩ := hb
  simp only [E] at he
  obtain ⟨q, hq, rfl⟩ := he
  obtain ⟨_, q', hq', hside, _, e0, us, e1, e2⟩ := hR.blk b _ hb
  rw [hq] at hq'; injection hq' with hq'; subst hq'
  exact ⟨q.blk, q.off + 0, 0, us, ty, rfl, hside, e1, fun i v hv => by simp [meaC] at hv, by omega, by simp [meaC]⟩
theorem joined48s (hmix : Tryz.prog.follows .mixedOrders = true) (hs0 : 0 < W.heap.size) {f g : Fd} (hf : f.OK) (hg : g.OK) (hz : Checks W f 0) (hz' : Checks W g 0) (num : Int) {ms ms' : Value} (hm : MeaAt W ms f.oc f.l) (hm' : MeaAt W ms' g.oc g.l) :
    Calls Tryz.prog 48 #[f.U ms, g.U ms', .int .i64 num] W (JRes W f g num) := by
  have hvf := hz.valid
  have hvg := hz'.valid
  have e1 := hvf.fin (mvOf 0 f.oc f.l)
  have e2 := hvg.fin (mvOf 1 g.oc g.l)
  have g122 : ∀ n, goodN Tryz.prog W (vfJ n) 122 [f.iv 0, g.iv 1] (vwA (meaC f.l) (meaC g.l)) 0 (i64 0) none = true := fun n => good122 hmix hs0 hf hg hz hz' (vf := vfJ n) fun s => rfl
  have g173 : ∀ n, goodN Tryz.prog W (vfJ n) 173 [i64 f.sex, i64 g.sex] (vwA (meaC f.l) (meaC g.l)) 0 (i64 (sxI f.sex g.sex)) none = true := fun n => good173 hmix hs0 _ _
  -- a run whose list is nil
  have fin1 : ∀ {S : SHook}, HookOK Tryz.prog W (hookOf S) → (agB f g = true → joinM f.l f.l g.l = some [] ∧ jNil f g = true) → valK Tryz.prog S 60 48 [f.iv 0, g.iv 1, i64 num] (st2 (meaC f.l) (meaC g.l)) = some (.tup [(jRes f g (agB f g) num).im (jV f g (agB f g) .nils num), i64 (jErr f g (agB f g) num)]) →
      askK Tryz.prog S 60 48 [f.iv 0, g.iv 1, i64 num] (st2 (meaC f.l) (meaC g.l)) false = askK Tryz.prog S 60 48 [f.iv 0, g.iv 1, i64 num] (st2 (meaC f.l) (meaC g.l)) true → Calls Tryz.prog 48 #[f.U ms, g.U ms', .int .i64 num] W (JRes W f g num) := by
    intro S hS hnil hv ha
    refine (pair_calls hmix hS (xs := [i64 num]) (ys := [.int .i64 num]) (fun ρ => EL.cons (E_i64 _) EL.nil) hv ha hm hm').mono ?_
    rintro e w' ⟨ρ', u, rfl, hb, hE⟩
    obtain ⟨x, y, rfl, h1, h2⟩ := E_tup2 hE
    obtain ⟨mr, rfl, h3⟩ := Fd.im_of h1
    have h3 : mr = .slice none 0 0 := by
      unfold jV at h3
      cases hc : (inB num && jC f g (agB f g)) <;> (rw [hc] at h3; exact nils_inv h3)
    refine ⟨mr, hb, by rw [E_i64_inv h2], ?_⟩
    cases hc : (inB num && jC f g (agB f g)) with
    | false => exact .inl ⟨rfl, h3⟩
    | true =>
      rw [Bool.and_eq_true] at hc
      exact .inr ⟨rfl, [], (hnil (jC_ag hc.2)).1, by simp, .inl ⟨(hnil (jC_ag hc.2)).2, h3, rfl⟩⟩
  -- a run that makes a list
  have fin2 : ∀ {S : SHook} {G : St → Option Blk} {mv : V} {b : Option Blk} {l : List Mea}, HookOK Tryz.prog W (hookOf S) → jNil f g = false → joinM f.l f.l g.l = some l → (∀ {ρ' : Rho} {s' : St} {w' : World} {u : Value}, Rel W ρ' s' w' → E ρ' mv u → G s' = b → NewAt W.heap.size w' u l) →
      valG Tryz.prog S 60 48 [f.iv 0, g.iv 1, i64 num] (st2 (meaC f.l) (meaC g.l)) (fun v s => (v, G s)) = cond (inB num) (cond (jC f g (agB f g)) (some (.tup [(jFd f g num).im mv, i64 0], b)) (some (.tup [zFind, i64 22], none))) (some (.tup [zFind, i64 1], none)) →
      askK Tryz.prog S 60 48 [f.iv 0, g.iv 1, i64 num] (st2 (meaC f.l) (meaC g.l)) false = askK Tryz.prog S 60 48 [f.iv 0, g.iv 1, i64 num] (st2 (meaC f.l) (meaC g.l)) true → Calls Tryz.prog 48 #[f.U ms, g.U ms', .int .i64 num] W (JRes W f g num) := by
    intro S G mv b l hS hjn hJ hnew hv ha
    obtain ⟨ρ, hR, x1, x2⟩ := pair_rel hm hm'
    have run := fun y (hy : valG Tryz.prog S 60 48 [f.iv 0, g.iv 1, i64 num] (st2 (meaC f.l) (meaC g.l)) (fun v s => (v, G s)) = some y) => valG_stepH hmix hS hy ha hR (EL.cons (Fd.im_E x1) (EL.cons (Fd.im_E x2) (EL.cons (E_i64 num) EL.nil)))
    have bad : ∀ (z : Int), (inB num && jC f g (agB f g)) = false → jErr f g (agB f g) num = z → valG Tryz.prog S 60 48 [f.iv 0, g.iv 1, i64 num] (st2 (meaC f.l) (meaC g.l)) (fun v s => (v, G s)) = some (.tup [zFind, i64 z], none) → Calls Tryz.prog 48 #[f.U ms, g.U ms', .int .i64 num] W (JRes W f g num) := by
      intro z hc hz hy
      refine (run _ hy).mono ?_
      rintro e w' ⟨ρ', v, s', u, rfl, hst, hE, hq⟩
      injection hq with hq1 hq2
      subst hq1
      obtain ⟨x, y, rfl, h1, h2⟩ := E_tup2 hE
      obtain ⟨mr, rfl, h3⟩ := Fd.im_of (f := zFd) (mv := .nils) h1
      have hr : jRes f g (agB f g) num = zFd := by unfold jRes; rw [hc]; rfl
      exact ⟨mr, Step.belowOf hR hst pair_noImg, by rw [E_i64_inv h2, hr, hz], .inl ⟨hc, nils_inv h3⟩⟩
    cases hi : inB num with
    | false =>
      rw [hi] at hv
      exact bad 1 (by rw [hi]; rfl) (by unfold jErr; rw [hi]; rfl) hv
    | true =>
      rw [hi] at hv
      cases hc : jC f g (agB f g) with
      | false =>
        rw [hc] at hv
        exact bad 22 (by rw [hc, Bool.and_false]) (by unfold jErr; rw [hi, hc]; rfl) hv
      | true =>
        rw [hc] at hv
        refine (run _ hv).mono ?_
        rintro e w' ⟨ρ', v, s', u, rfl, hst, hE, hq⟩
        injection hq with hq1 hq2
        subst hq1
        obtain ⟨x, y, rfl, h1, h2⟩ := E_tup2 hE
        obtain ⟨mr, rfl, h3⟩ := Fd.im_of h1
        have hr : jRes f g (agB f g) num = jFd f g num := by unfold jRes; rw [hi, hc]; rfl
        have he : jErr f g (agB f g) num = 0 := by unfold jErr; rw [hi, hc]; rfl
        obtain ⟨l', hl', hlen⟩ := agB_some (jC_ag hc)
        rw [hJ] at hl'; injection hl' with hl'; subst hl'
        exact ⟨mr, Step.belowOf hR hst pair_noImg, by rw [E_i64_inv h2, hr, he], .inr ⟨by rw [hi, hc]; rfl, l, hJ, hlen, .inr ⟨hjn, hnew hst.rel h3 hq2⟩⟩⟩
  cases hJ : joinM f.l f.l g.l with
  | none =>
    have hag : agB f g = false := by unfold agB; rw [hJ]
    have hr := jr_1 W (sxI f.sex g.sex) (meaC f.l) (meaC g.l) (mvOf 0 f.oc f.l) (mvOf 1 g.oc g.l) f.no f.el f.sd f.a f.lo f.hi f.sex f.wear f.layer f.square g.no g.el g.sd g.a g.lo g.hi g.sex g.wear g.layer g.square num
    have ha := jr_1A W (sxI f.sex g.sex) (meaC f.l) (meaC g.l) (mvOf 0 f.oc f.l) (mvOf 1 g.oc g.l) f.no f.el f.sd f.a f.lo f.hi f.sex f.wear f.layer f.square g.no g.el g.sd g.a g.lo g.hi g.sex g.wear g.layer g.square num
    rw [← e1, ← e2] at hr ha
    refine fin1 semN_ok (fun h => by rw [hag] at h; cases h) (hr.trans ?_) ha
    rw [show goodN Tryz.prog W (vfJ 8) 122 [f.im (mvOf 0 f.oc f.l), g.im (mvOf 1 g.oc g.l)] (vwA (meaC f.l) (meaC g.l)) 0 (i64 0) none = true from g122 8, g173 8, good169_1 hs0 hf hg hvf hvg hmix hJ, hag]
    exact jT_eq hf hg (fun _ => rfl) .nils num
  | some l =>
    by_cases hne : g.l = []
    · have hl : f.l = l := by rw [hne] at hJ; unfold joinM at hJ; injection hJ
      subst hl
      have hlen : decide (f.l.length ≤ 8) = true := decide_eq_true hvf.list.1
      have hag : agB f g = true := by unfold agB; rw [hJ]; exact hlen
      have g2 := good169_2 hs0 hf hg hvf hvg hmix hne (k := 0)
      cases hoc : f.oc with
      | none =>
        have hfl := hf.ho hoc
        have hmv : mvOf 0 f.oc f.l = .nils := by rw [hoc]; rfl
        have hr := jr_2n W (sxI f.sex g.sex) (meaC f.l) (meaC g.l) (mvOf 1 g.oc g.l) f.no f.el f.sd f.a f.lo f.hi f.sex f.wear f.layer f.square g.no g.el g.sd g.a g.lo g.hi g.sex g.wear g.layer g.square num
        have ha := jr_2nA W (sxI f.sex g.sex) (meaC f.l) (meaC g.l) (mvOf 1 g.oc g.l) f.no f.el f.sd f.a f.lo f.hi f.sex f.wear f.layer f.square g.no g.el g.sd g.a g.lo g.hi g.sex g.wear g.layer g.square num
        rw [← hmv] at hr ha
        rw [← e1, ← e2] at hr ha
        refine fin1 semN_ok (fun _ => ⟨by rw [hJ, hfl], by unfold jNil; rw [hne, hoc]; rfl⟩) (hr.trans ?_) ha
        rw [show goodN Tryz.prog W (vfJ 0) 122 [f.im (mvOf 0 f.oc f.l), g.im (mvOf 1 g.oc g.l)] (vwA (meaC f.l) (meaC g.l)) 0 (i64 0) none = true from g122 0, g173 0, g2, hmv, hag]
        exact jT_eq hf hg (fun _ => rfl) .nils num
      | some cap =>
        have hmv : mvOf 0 f.oc f.l = .sl 0 0 f.l.length (.exact cap) := by rw [hoc]; rfl
        by_cases hfl : f.l = []
        · have hmv : mvOf 0 f.oc f.l = .sl 0 0 0 (.exact cap) := by rw [hmv, hfl]; rfl
          have hc : meaC f.l = [] := by rw [hfl]; rfl
          have hr := js_2f W (sxI f.sex g.sex) (meaC f.l) (meaC g.l) (mvOf 1 g.oc g.l) f.no f.el f.sd f.a f.lo f.hi f.sex f.wear f.layer f.square g.no g.el g.sd g.a g.lo g.hi g.sex g.wear g.layer g.square num cap hc
          have ha := jr_2fA W (sxI f.sex g.sex) (meaC f.l) (meaC g.l) (mvOf 1 g.oc g.l) f.no f.el f.sd f.a f.lo f.hi f.sex f.wear f.layer f.square g.no g.el g.sd g.a g.lo g.hi g.sex g.wear g.layer g.square num cap hc
          rw [← hmv] at hr ha
          rw [← e1, ← e2] at hr ha
          refine fin2 semN_ok (mv := .sl 124 0 0 (.exact 0)) (b := some (.cells [] 0)) (by unfold jNil; rw [hoc, Bool.and_false]) hJ (fun hR hE hG => by rw [hfl]; exact row_empty hR hE hG) (hr.trans ?_) ha
          rw [show goodN Tryz.prog W (vfJ 0) 122 [f.im (mvOf 0 f.oc f.l), g.im (mvOf 1 g.oc g.l)] (vwA (meaC f.l) (meaC g.l)) 0 (i64 0) none = true from g122 0, g173 0, g2, hag]
          exact jTp_eq hf hg (fun _ => rfl) num _ _
        · have hr := js_2 W (sxI f.sex g.sex) f.l (meaC f.l) (meaC g.l) (mvOf 1 g.oc g.l) f.no f.el f.sd f.a f.lo f.hi f.sex f.wear f.layer f.square g.no g.el g.sd g.a g.lo g.hi g.sex g.wear g.layer g.square num cap f.l.length
          have ha := jr_2A W (sxI f.sex g.sex) f.l (meaC f.l) (meaC g.l) (mvOf 1 g.oc g.l) f.no f.el f.sd f.a f.lo f.hi f.sex f.wear f.layer f.square g.no g.el g.sd g.a g.lo g.hi g.sex g.wear g.layer g.square num cap f.l.length
          have g76 := good76_2 (W := W) hmix hs0 (l := f.l) (cap := cap) hfl hvf.list.1 (m := 124)
          rw [← hmv] at hr ha g76
          rw [← e1, ← e2] at hr ha
          refine fin2 semN_ok (mv := slN 124 f.l) (b := rowB f.l) (by unfold jNil; rw [hoc, Bool.and_false]) hJ (fun hR hE hG => row_new hR hfl hE (rowOf_row hG)) (hr.trans ?_) ha
          rw [show goodN Tryz.prog W (vfJ 0) 122 [f.im (mvOf 0 f.oc f.l), g.im (mvOf 1 g.oc g.l)] (vwA (meaC f.l) (meaC g.l)) 0 (i64 0) none = true from g122 0, g173 0, g2, g76, hag]
          exact jTp_eq hf hg (fun _ => rfl) num _ _
    · have hag : agB f g = decide (l.length ≤ 8) := by unfold agB; rw [hJ]
      have hr := js_3 W (sxI f.sex g.sex) l (decide (l.length ≤ 8)) (meaC f.l) (meaC g.l) (mvOf 0 f.oc f.l) (mvOf 1 g.oc g.l) f.no f.el f.sd f.a f.lo f.hi f.sex f.wear f.layer f.square g.no g.el g.sd g.a g.lo g.hi g.sex g.wear g.layer g.square num
      have ha := jr_3A W (sxI f.sex g.sex) l (decide (l.length ≤ 8)) (meaC f.l) (meaC g.l) (mvOf 0 f.oc f.l) (mvOf 1 g.oc g.l) f.no f.el f.sd f.a f.lo f.hi f.sex f.wear f.layer f.square g.no g.el g.sd g.a g.lo g.hi g.sex g.wear g.layer g.square num
      rw [← e1, ← e2] at hr ha
      refine fin2 semN_ok (mv := slN 125 l) (b := rowB l) (by unfold jNil; rw [show g.l.isEmpty = false from by rw [← Bool.not_eq_true, List.isEmpty_iff]; exact hne]; rfl) hJ (fun hR hE hG => row_new hR (joinM_ne hJ (.inr hne)) hE (rowOf_row hG)) (hr.trans ?_) ha
      rw [show goodN Tryz.prog W (vfJ 8) 122 [f.im (mvOf 0 f.oc f.l), g.im (mvOf 1 g.oc g.l)] (vwA (meaC f.l) (meaC g.l)) 0 (i64 0) none = true from g122 8, g173 8, good169_3 hs0 hf hg hvf hvg hmix hJ hne, hag]
      exact jTp_eq hf hg (fun h => good76_3 hmix (joinM_ne hJ (.inr hne)) (of_decide_eq_true h)) num _ _
end Go.Proofs.YtilfiadkhohfiaaGreatDoor
