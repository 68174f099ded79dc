/- Layer 2: joins of finds. -/
import Derived.Test.YtilfiadkhohfiaaGreatDoorP6
/- Layer 2: joins of finds, in runs. -/
set_option linter.unusedVariables false
set_option maxRecDepth 100000
namespace Go.Proofs.YtilfiadkhohfiaaGreatDoor
set_option linter.unusedSimpArgs false
set_option linter.unusedVariables false
open Go Go.RowKit Go.Clo
noncomputable section
def bQ (np : Bool) : Nat := cond np 5 6
/-- What lies where a list would: the list, or the variable that holds the find. -/
def seenK (nil : Bool) (p : Fd) (l : List Mea) : Option Blk := cond nil (some (.cells (finL p.no p.el p.sd p.a 0 0 0 .nils p.lo p.hi p.sex p.wear p.layer p.square) 29)) (rowB l)
end
theorem pj_all {W : World} {f g : Fd} (hvf : f.Valid) (hvg : g.Valid) (num : Int) (l : List Mea) (np nq : Bool) : codeG Tryz.prog (semN Tryz.prog W (vfL 4 (bQ np)) (tbP ((jFd f g num).im (mvK np 4 l)) ((jFd g f num).im (mvK nq (bQ np) l)) (bkK np l) (bkK nq l))) 60 (seqs pre14 r14) (enterF [f.iv 0, g.iv 1, i64 num] 215) (st2 (meaC f.l) (meaC g.l)) preG = preT (goodN Tryz.prog W (vfL 4 (bQ np)) 18 [] (vwA (meaC f.l) (meaC g.l)) 0 (.bool true) none)
      (goodN Tryz.prog W (vfL 4 (bQ np)) 48 [f.iv 0, g.iv 1, i64 num] (vwA (meaC f.l) (meaC g.l)) (cond np 0 4) (.tup [(jFd f g num).im (mvK np 4 l), i64 0]) (bkK np l))
      (goodN Tryz.prog W (vfL 4 (bQ np)) 48 [g.iv 1, f.iv 0, i64 num] (vwA (meaC f.l) (meaC g.l)) (cond nq 0 (bQ np)) (.tup [(jFd g f num).im (mvK nq (bQ np) l), i64 0]) (bkK nq l))
      (goodN Tryz.prog W (vfL 4 (bQ np)) 19 [(jFd f g num).im (mvK np 4 l)] [seenK np (jFd f g num) l] 0 (i64 0) none)
      (goodN Tryz.prog W (vfL 4 (bQ np)) 33 [(jFd f g num).im (mvK np 4 l), fin1 (jFd g f num).no (jFd g f num).el (jFd g f num).sd (jFd g f num).a (mvK nq (bQ np) l) (jFd g f num).lo (jFd g f num).hi (jFd g f num).sex (jFd g f num).wear (jFd f g num).layer (jFd f g num).square] [seenK np (jFd f g num) l, seenK nq { (jFd g f num) with layer := (jFd f g num).layer, square := (jFd f g num).square } l] 0 (.bool true) none)
      f.layer f.square g.layer g.square (jFd f g num).layer (jFd f g num).square (jFd g f num).layer (jFd g f num).square (jFd f g num).no num (jFd f g num).lo (jFd f g num).hi f.lo f.hi g.lo g.hi f.a g.a (jFd f g num).a
      (some (some (215, [.ptr 2 0, .ptr 3 0, .ptr (cond np 4 5) 0, i64 0], [some (finL f.no f.el f.sd f.a 0 0 0 (mvOf 0 f.oc f.l) f.lo f.hi f.sex f.wear f.layer f.square), some (finL g.no g.el g.sd g.a 0 0 0 (mvOf 1 g.oc g.l) g.lo g.hi g.sex g.wear g.layer g.square), some ((jFd f g num).vs (mvK np 4 l))], seenK np (jFd f g num) l))) := by
  have e1 := hvf.fin (mvOf 0 f.oc f.l)
  have e2 := hvg.fin (mvOf 1 g.oc g.l)
  show codeG Tryz.prog (semN Tryz.prog W (vfL 4 (bQ np)) (tbP ((jFd f g num).im (mvK np 4 l)) ((jFd g f num).im (mvK nq (bQ np) l)) (bkK np l) (bkK nq l))) 60 (seqs pre14 r14) (enterF [f.im (mvOf 0 f.oc f.l), g.im (mvOf 1 g.oc g.l), i64 num] 215) (st2 (meaC f.l) (meaC g.l)) preG = _
  cases np <;> cases nq
  · have h := pj_rr W l (meaC f.l) (meaC g.l) (mvOf 0 f.oc f.l) (mvOf 1 g.oc g.l) f.no f.el f.sd f.a f.lo f.hi f.sex f.wear f.layer f.square g.no g.el g.sd g.a g.lo g.hi g.sex g.wear g.layer g.square num (jFd f g num).no (jFd f g num).el (jFd f g num).sd (jFd f g num).a (jFd f g num).lo (jFd f g num).hi (jFd f g num).sex (jFd f g num).wear (jFd f g num).layer (jFd f g num).square (jFd g f num).no (jFd g f num).el (jFd g f num).sd (jFd g f num).a (jFd g f num).lo (jFd g f num).hi (jFd g f num).sex (jFd g f num).wear (jFd g f num).layer (jFd g f num).square
    rw [← e1, ← e2] at h
    exact h
  · have h := pj_rn W l (meaC f.l) (meaC g.l) (mvOf 0 f.oc f.l) (mvOf 1 g.oc g.l) f.no f.el f.sd f.a f.lo f.hi f.sex f.wear f.layer f.square g.no g.el g.sd g.a g.lo g.hi g.sex g.wear g.layer g.square num (jFd f g num).no (jFd f g num).el (jFd f g num).sd (jFd f g num).a (jFd f g num).lo (jFd f g num).hi (jFd f g num).sex (jFd f g num).wear (jFd f g num).layer (jFd f g num).square (jFd g f num).no (jFd g f num).el (jFd g f num).sd (jFd g f num).a (jFd g f num).lo (jFd g f num).hi (jFd g f num).sex (jFd g f num).wear (jFd g f num).layer (jFd g f num).square
    rw [← e1, ← e2] at h
    exact h
  · have h := pj_nr W l (meaC f.l) (meaC g.l) (mvOf 0 f.oc f.l) (mvOf 1 g.oc g.l) f.no f.el f.sd f.a f.lo f.hi f.sex f.wear f.layer f.square g.no g.el g.sd g.a g.lo g.hi g.sex g.wear g.layer g.square num (jFd f g num).no (jFd f g num).el (jFd f g num).sd (jFd f g num).a (jFd f g num).lo (jFd f g num).hi (jFd f g num).sex (jFd f g num).wear (jFd f g num).layer (jFd f g num).square (jFd g f num).no (jFd g f num).el (jFd g f num).sd (jFd g f num).a (jFd g f num).lo (jFd g f num).hi (jFd g f num).sex (jFd g f num).wear (jFd g f num).layer (jFd g f num).square
    rw [← e1, ← e2] at h
    exact h
  · have h := pj_nn W (meaC f.l) (meaC g.l) (mvOf 0 f.oc f.l) (mvOf 1 g.oc g.l) f.no f.el f.sd f.a f.lo f.hi f.sex f.wear f.layer f.square g.no g.el g.sd g.a g.lo g.hi g.sex g.wear g.layer g.square num (jFd f g num).no (jFd f g num).el (jFd f g num).sd (jFd f g num).a (jFd f g num).lo (jFd f g num).hi (jFd f g num).sex (jFd f g num).wear (jFd f g num).layer (jFd f g num).square (jFd g f num).no (jFd g f num).el (jFd g f num).sd (jFd g f num).a (jFd g f num).lo (jFd g f num).hi (jFd g f num).sex (jFd g f num).wear (jFd g f num).layer (jFd g f num).square
    rw [← e1, ← e2] at h
    exact h
theorem pj_allA {W : World} {f g : Fd} (hvf : f.Valid) (hvg : g.Valid) (num : Int) (l : List Mea) (np nq : Bool) : codeA Tryz.prog (semN Tryz.prog W (vfL 4 (bQ np)) (tbP ((jFd f g num).im (mvK np 4 l)) ((jFd g f num).im (mvK nq (bQ np) l)) (bkK np l) (bkK nq l))) 60 (seqs pre14 r14) (enterF [f.iv 0, g.iv 1, i64 num] 215) (st2 (meaC f.l) (meaC g.l)) false = codeA Tryz.prog (semN Tryz.prog W (vfL 4 (bQ np)) (tbP ((jFd f g num).im (mvK np 4 l)) ((jFd g f num).im (mvK nq (bQ np) l)) (bkK np l) (bkK nq l))) 60 (seqs pre14 r14) (enterF [f.iv 0, g.iv 1, i64 num] 215) (st2 (meaC f.l) (meaC g.l)) true := by
  have e1 := hvf.fin (mvOf 0 f.oc f.l)
  have e2 := hvg.fin (mvOf 1 g.oc g.l)
  show codeA Tryz.prog (semN Tryz.prog W (vfL 4 (bQ np)) (tbP ((jFd f g num).im (mvK np 4 l)) ((jFd g f num).im (mvK nq (bQ np) l)) (bkK np l) (bkK nq l))) 60 (seqs pre14 r14) (enterF [f.im (mvOf 0 f.oc f.l), g.im (mvOf 1 g.oc g.l), i64 num] 215) (st2 (meaC f.l) (meaC g.l)) false = codeA Tryz.prog (semN Tryz.prog W (vfL 4 (bQ np)) (tbP ((jFd f g num).im (mvK np 4 l)) ((jFd g f num).im (mvK nq (bQ np) l)) (bkK np l) (bkK nq l))) 60 (seqs pre14 r14) (enterF [f.im (mvOf 0 f.oc f.l), g.im (mvOf 1 g.oc g.l), i64 num] 215) (st2 (meaC f.l) (meaC g.l)) true
  cases np <;> cases nq
  · have h := pjA_rr W l (meaC f.l) (meaC g.l) (mvOf 0 f.oc f.l) (mvOf 1 g.oc g.l) f.no f.el f.sd f.a f.lo f.hi f.sex f.wear f.layer f.square g.no g.el g.sd g.a g.lo g.hi g.sex g.wear g.layer g.square num (jFd f g num).no (jFd f g num).el (jFd f g num).sd (jFd f g num).a (jFd f g num).lo (jFd f g num).hi (jFd f g num).sex (jFd f g num).wear (jFd f g num).layer (jFd f g num).square (jFd g f num).no (jFd g f num).el (jFd g f num).sd (jFd g f num).a (jFd g f num).lo (jFd g f num).hi (jFd g f num).sex (jFd g f num).wear (jFd g f num).layer (jFd g f num).square
    rw [← e1, ← e2] at h
    exact h
  · have h := pjA_rn W l (meaC f.l) (meaC g.l) (mvOf 0 f.oc f.l) (mvOf 1 g.oc g.l) f.no f.el f.sd f.a f.lo f.hi f.sex f.wear f.layer f.square g.no g.el g.sd g.a g.lo g.hi g.sex g.wear g.layer g.square num (jFd f g num).no (jFd f g num).el (jFd f g num).sd (jFd f g num).a (jFd f g num).lo (jFd f g num).hi (jFd f g num).sex (jFd f g num).wear (jFd f g num).layer (jFd f g num).square (jFd g f num).no (jFd g f num).el (jFd g f num).sd (jFd g f num).a (jFd g f num).lo (jFd g f num).hi (jFd g f num).sex (jFd g f num).wear (jFd g f num).layer (jFd g f num).square
    rw [← e1, ← e2] at h
    exact h
  · have h := pjA_nr W l (meaC f.l) (meaC g.l) (mvOf 0 f.oc f.l) (mvOf 1 g.oc g.l) f.no f.el f.sd f.a f.lo f.hi f.sex f.wear f.layer f.square g.no g.el g.sd g.a g.lo g.hi g.sex g.wear g.layer g.square num (jFd f g num).no (jFd f g num).el (jFd f g num).sd (jFd f g num).a (jFd f g num).lo (jFd f g num).hi (jFd f g num).sex (jFd f g num).wear (jFd f g num).layer (jFd f g num).square (jFd g f num).no (jFd g f num).el (jFd g f num).sd (jFd g f num).a (jFd g f num).lo (jFd g f num).hi (jFd g f num).sex (jFd g f num).wear (jFd g f num).layer (jFd g f num).square
    rw [← e1, ← e2] at h
    exact h
  · have h := pjA_nn W (meaC f.l) (meaC g.l) (mvOf 0 f.oc f.l) (mvOf 1 g.oc g.l) f.no f.el f.sd f.a f.lo f.hi f.sex f.wear f.layer f.square g.no g.el g.sd g.a g.lo g.hi g.sex g.wear g.layer g.square num (jFd f g num).no (jFd f g num).el (jFd f g num).sd (jFd f g num).a (jFd f g num).lo (jFd f g num).hi (jFd f g num).sex (jFd f g num).wear (jFd f g num).layer (jFd f g num).square (jFd g f num).no (jFd g f num).el (jFd g f num).sd (jFd g f num).a (jFd g f num).lo (jFd g f num).hi (jFd g f num).sex (jFd g f num).wear (jFd g f num).layer (jFd g f num).square
    rw [← e1, ← e2] at h
    exact h
theorem nbQ_eq (x : Int) (k : PreR) : nbQ x x k = k := by
  unfold nbQ
  rw [(intBeq_iff x x).2 rfl]; rfl
theorem preT_ok {f g : Fd} (hf : f.OK) (hg : g.OK) (hvf : f.Valid) (hvg : g.Valid) (hland : Nat.land f.a g.a = 0) (num : Int) (ok : PreR) :
    preT true true true true true f.layer f.square g.layer g.square (jFd f g num).layer (jFd f g num).square (jFd g f num).layer (jFd g f num).square (jFd f g num).no num (jFd f g num).lo (jFd f g num).hi f.lo f.hi g.lo g.hi f.a g.a (jFd f g num).a ok = ok := by
  have hlo : R64 f.lo ∧ R64 f.hi ∧ R64 g.lo ∧ R64 g.hi := by
    obtain ⟨_, _, _, _, _, _, _, h1, h2, h3, _⟩ := hvf
    obtain ⟨_, _, _, _, _, _, _, k1, k2, k3, _⟩ := hvg
    exact ⟨R64.of (by omega), R64.of (by omega), R64.of (by omega), R64.of (by omega)⟩
  have r1 : R64 (loA f.lo g.lo) := by unfold loA; cases intLt f.lo g.lo; exact hlo.1; exact hlo.2.2.1
  have r2 : R64 (hiA f.hi g.hi) := by unfold hiA; cases intLt g.hi f.hi; exact hlo.2.1; exact hlo.2.2.2
  have hor : Nat.lor f.a g.a < 18446744073709551616 := Nat.or_lt_two_pow (n := 64) hf.a hg.a
  show cond true (cond true (cond true (nbQ f.layer f.layer (nbQ f.square f.square (nbQ g.layer g.layer (nbQ g.square g.square (cond true (cond true (nbQ num num (ncQ [i64 (loA f.lo g.lo), i64 (hiA f.hi g.hi)] [i64 (loA f.lo g.lo), i64 (hiA f.hi g.hi)] (cond (bleT f.a g.a) (nbQ (.ofNat (Nat.land f.a g.a)) 0 (cond (bleT f.a g.a) (ncQ (setV4 (Nat.lor f.a g.a)) (setV4 (Nat.lor f.a g.a)) ok) none)) none))) none) none))))) none) none) none = ok
  rw [nbQ_eq, nbQ_eq, nbQ_eq, nbQ_eq, nbQ_eq, bleT_of hf hg, hland]
  have e1 : ∀ k, ncQ [i64 (loA f.lo g.lo), i64 (hiA f.hi g.hi)] [i64 (loA f.lo g.lo), i64 (hiA f.hi g.hi)] k = k := fun k => by
    unfold ncQ
    rw [rngV_cons r1 r1 (rngV_cons r2 r2 rfl), eqVs_cons.2 ⟨rfl, eqVs_cons.2 ⟨rfl, rfl⟩⟩]; rfl
  have e2 : ∀ k, ncQ (setV4 (Nat.lor f.a g.a)) (setV4 (Nat.lor f.a g.a)) k = k := fun k => by
    unfold ncQ
    rw [rngSet hor hor, eqSet_iff.2 rfl]; rfl
  rw [e1, e2]
  rfl
end Go.Proofs.YtilfiadkhohfiaaGreatDoor
/- Layer 2: joins of finds, in runs. -/
set_option linter.unusedVariables false
set_option maxRecDepth 100000
namespace Go.Proofs.YtilfiadkhohfiaaGreatDoor
set_option linter.unusedSimpArgs false
set_option linter.unusedVariables false
open Go Go.RowKit Go.Clo
variable {W : World}

theorem box_of {ρ : Rho} {s : St} {w : World} (hR : Rel W ρ s w) {b : Nat} {u : Value} (he : E ρ (.ptr b 0) u) {no el sd : Int} {a b' d e : Nat} {mv : V} {lo hi sex wear layer square : Int} (hc : ptrC (.ptr b 0) s = some (finL no el sd a b' d e mv lo hi sex wear layer square)) :
    ∃ ms, BoxF w u (finVs no el sd a b' d e ms lo hi sex wear layer square) ∧ E ρ mv ms := by
  unfold ptrC at hc
  simp only at hc
  split at hc
  · rename_i c ty hb
    injection hc with hc
    subst hc
    simp only [E] at he
    obtain ⟨l, hl, rfl⟩ := he
    obtain ⟨_, l', hl', _, hlt, h0, us, e1, e2⟩ := hR.blk b _ hb
    rw [hl] at hl'; injection hl' with hl'; subst hl'
    obtain ⟨ms, rfl, hm⟩ := EL_fin_inv e2
    refine ⟨ms, ⟨l.blk, by rw [h0], hlt, fun i u hu => ?_⟩, hm⟩
    rw [cell_of_row w l.blk _ _ _ _ e1]
    simpa using hu
  · cases hc
theorem res6 {fn : Func} (h : fn.results = #[.tmp 6]) (tm : Array Value) (w : World) {P : Program} : (results fn tm).run P w = .ok (tm.getD 6 undef) w := by
  rw [results_eq, h]
  simp [resOne]
theorem end_any (hmix : Tryz.prog.follows .mixedOrders = true) {w : World} {act : Act} (hs : act.tmps.size = 215) (hd : act.defers = []) :
    e14.wp Tryz.prog (fun e a' w' => e = .ret ∧ Below w.heap.size w w' ∧ a'.defers = [] ∧ a'.tmps.getD 6 undef = .bool true) act w := by
  have hch : ∃ d : Nat → V, ∀ i, E (fun _ => none) (d i) (act.tmps.getD i undef) := ⟨fun i => Classical.choose (E.some (fun _ => none) (act.tmps.getD i undef)), fun i => Classical.choose_spec (E.some (fun _ => none) (act.tmps.getD i undef))⟩
  obtain ⟨d, hdd⟩ := hch
  have hR := Rel.start' (Below.refl w.heap.size w)
  refine wp_mono (codeG_step hmix (end14 w d) (end14A w d) hR (all215_ok hs hdd) hd) ?_
  rintro e a' w' ⟨x, t', s', ⟨rfl, hd', ρ', hst, hf⟩, hg⟩
  simp only [endG14, Prod.mk.injEq, List.cons.injEq] at hg
  obtain ⟨rfl, g6, _⟩ := hg
  have e6 := hf.2 6
  rw [g6] at e6
  exact ⟨rfl, Step.belowOf hR hst (fun r ⟨b, x, l, hb, _⟩ => by cases hb), hd', E_bool_inv e6⟩
/-- The law FindsJoined, where the finds can be joined. -/
theorem law14_ok (hmix : Tryz.prog.follows .mixedOrders = true) (hs0 : 0 < W.heap.size) (hsane : ∀ w, Below W.heap.size W w → Calls Tryz.prog 18 #[] w fun e w' => e = .returned (.bool true) ∧ Below w.heap.size w w') (hchk : ∀ p : Fd, p.OK → ∃ z, Checks W p z)
    {f g : Fd} (hf : f.OK) (hg : g.OK) (hz : Checks W f 0) (hz' : Checks W g 0) (num : Int) {ms ms' : Value} (hm : MeaAt W ms f.oc f.l) (hm' : MeaAt W ms' g.oc g.l) (hok : (inB num && jC f g (agB f g)) = true) :
    Calls Tryz.prog 14 #[f.U ms, g.U ms', .int .i64 num] W fun e w' => e = .returned (.bool true) ∧ Below W.heap.size W w' := by
  have hvf := hz.valid
  have hvg := hz'.valid
  have hok2 := hok
  rw [Bool.and_eq_true] at hok2
  obtain ⟨hi, hc⟩ := hok2
  have hag := jC_ag hc
  obtain ⟨l, hJ, hlen⟩ := agB_some hag
  have hJ' : joinM g.l g.l f.l = some l := by rw [← joinM_comm hvf.list.2.1 hvg.list.2.1]; exact hJ
  have hok' : (inB num && jC g f (agB g f)) = true := by rw [← jC_comm hvf hvg]; exact hok
  have hct : jC f g true = true := by rw [hag] at hc; exact hc
  have hland := (jC_iff.1 hc).2.2.1
  have hnil : jNil f g = true → l = [] := fun h => by
    unfold jNil at h
    rw [Bool.and_eq_true] at h
    obtain ⟨h1, h2⟩ := h
    rw [List.isEmpty_iff] at h1
    have hfo : f.oc = none := by cases ho : f.oc with
      | none => rfl
      | some c => rw [ho] at h2; cases h2
    rw [h1, hf.ho hfo] at hJ
    unfold joinM at hJ
    injection hJ with hJ
    exact hJ.symm
  have hnil' : jNil g f = true → l = [] := fun h => by
    unfold jNil at h
    rw [Bool.and_eq_true] at h
    obtain ⟨h1, h2⟩ := h
    rw [List.isEmpty_iff] at h1
    have hgo : g.oc = none := by cases ho : g.oc with
      | none => rfl
      | some c => rw [ho] at h2; cases h2
    rw [h1, hg.ho hgo] at hJ'
    unfold joinM at hJ'
    injection hJ' with hJ'
    exact hJ'.symm
  -- the joined find, wherever its list lies
  have full : ∀ {oc : Option Nat}, (oc = none → l = []) → Room oc l → (jFull f g num oc l).OK ∧ (jFull f g num oc l).Valid := fun {oc} h1 h2 =>
    ⟨⟨h1, h2, Nat.or_lt_two_pow (n := 64) hf.a hg.a, show (0 : Nat) < _ by omega, show (0 : Nat) < _ by omega, show (0 : Nat) < _ by omega⟩, jFull_valid hvf hvg hi hct hJ hlen⟩
  have g18 := good18 hsane (vf := vfL 4 (bQ (jNil f g))) (vw := vwA (meaC f.l) (meaC g.l))
  have gab : goodN Tryz.prog W (vfL 4 (bQ (jNil f g))) 48 [f.iv 0, g.iv 1, i64 num] (vwA (meaC f.l) (meaC g.l)) (cond (jNil f g) 0 4) (.tup [(jFd f g num).im (mvK (jNil f g) 4 l), i64 0]) (bkK (jNil f g) l) = true := goodN_true fun s hvw hsz => by
    obtain ⟨k0, k1⟩ := seen (vf := vfL 4 (bQ (jNil f g))) (fn := 48) rfl hvw
    have h := good48s hmix hs0 hf hg hz hz' hok hJ k0 k1
    cases hn : jNil f g with
    | true => rw [hn] at h; exact h
    | false => rw [hn] at h hsz; rw [hsz rfl] at h; exact h
  have gba : goodN Tryz.prog W (vfL 4 (bQ (jNil f g))) 48 [g.iv 1, f.iv 0, i64 num] (vwA (meaC f.l) (meaC g.l)) (cond (jNil g f) 0 (bQ (jNil f g))) (.tup [(jFd g f num).im (mvK (jNil g f) (bQ (jNil f g)) l), i64 0]) (bkK (jNil g f) l) = true := goodN_true fun s hvw hsz => by
    obtain ⟨k0, k1⟩ := seen (vf := vfL 4 (bQ (jNil f g))) (fn := 48) rfl hvw
    have h := good48s hmix hs0 hg hf hz' hz hok' hJ' k1 k0
    cases hn : jNil g f with
    | true => rw [hn] at h; exact h
    | false => rw [hn] at h hsz; rw [hsz rfl] at h; exact h
  have g19 : goodN Tryz.prog W (vfL 4 (bQ (jNil f g))) 19 [(jFd f g num).im (mvK (jNil f g) 4 l)] [seenK (jNil f g) (jFd f g num) l] 0 (i64 0) none = true := goodN_true fun s hvw _ => GoodM.same fun ρ w us hR he => by
    have k4 : s.get 4 = seenK (jNil f g) (jFd f g num) l := (List.cons.inj hvw).1
    obtain ⟨u, r, rfl, e1, h2⟩ := EL.cons_inv he
    obtain rfl := EL.nil_inv h2
    obtain ⟨mr, rfl, h3⟩ := Fd.im_of e1
    have hsw := Nat.lt_of_lt_of_le hs0 hR.below.size
    obtain ⟨oc, hM, ho, hr⟩ := mvK_mea hR hsw hnil (fun hn => by rw [k4, hn]; rfl) h3
    obtain ⟨hp, hvp⟩ := full ho hr
    obtain ⟨z, hzz⟩ := hchk _ hp
    have hz0 : z = 0 := hzz.1.elim (fun h => h.2) fun h => absurd hvp h.1
    subst hz0
    exact ⟨_, E_i64 _, hzz.2 w mr hR.below hM⟩
  have g33 : goodN Tryz.prog W (vfL 4 (bQ (jNil f g))) 33 [(jFd f g num).im (mvK (jNil f g) 4 l), fin1 (jFd g f num).no (jFd g f num).el (jFd g f num).sd (jFd g f num).a (mvK (jNil g f) (bQ (jNil f g)) l) (jFd g f num).lo (jFd g f num).hi (jFd g f num).sex (jFd g f num).wear (jFd f g num).layer (jFd f g num).square]
      [seenK (jNil f g) (jFd f g num) l, seenK (jNil g f) { (jFd g f num) with layer := (jFd f g num).layer, square := (jFd f g num).square } l] 0 (.bool true) none = true := by
    have hcomm := jFd_comm hc num (mvK (jNil g f) (bQ (jNil f g)) l)
    have hcomm : fin1 (jFd g f num).no (jFd g f num).el (jFd g f num).sd (jFd g f num).a (mvK (jNil g f) (bQ (jNil f g)) l) (jFd g f num).lo (jFd g f num).hi (jFd g f num).sex (jFd g f num).wear (jFd f g num).layer (jFd f g num).square = (jFd f g num).im (mvK (jNil g f) (bQ (jNil f g)) l) := hcomm
    rw [hcomm]
    refine goodN_true fun s hvw _ => GoodM.same fun ρ w us hR he => ?_
    have k4 : s.get 4 = seenK (jNil f g) (jFd f g num) l := (List.cons.inj hvw).1
    have k5 : s.get (bQ (jNil f g)) = seenK (jNil g f) { (jFd g f num) with layer := (jFd f g num).layer, square := (jFd f g num).square } l := (List.cons.inj (List.cons.inj hvw).2).1
    obtain ⟨u, r, rfl, e1, h2⟩ := EL.cons_inv he
    obtain ⟨u', r', rfl, e2, h3⟩ := EL.cons_inv h2
    obtain rfl := EL.nil_inv h3
    obtain ⟨mr, rfl, h4⟩ := Fd.im_of e1
    obtain ⟨mr', rfl, h5⟩ := Fd.im_of e2
    have hsw := Nat.lt_of_lt_of_le hs0 hR.below.size
    obtain ⟨oc, hM, ho, hr⟩ := mvK_mea hR hsw hnil (fun hn => by rw [k4, hn]; rfl) h4
    obtain ⟨oc', hM', ho', _⟩ := mvK_mea hR hsw hnil' (fun hn => by rw [k5, hn]; rfl) h5
    obtain ⟨hp, hvp⟩ := full ho hr
    exact ⟨_, by simp only [E], same_calls hmix hp hvp ho' hM hM'⟩
  have hrun := pj_all (W := W) hvf hvg num l (jNil f g) (jNil g f)
  rw [g18, gab, gba, g19, g33, preT_ok hf hg hvf hvg hland] at hrun
  obtain ⟨ρ, hR, x1, x2⟩ := pair_rel hm hm'
  have hF : FrE ρ (enterF [f.iv 0, g.iv 1, i64 num] 215) (#[f.U ms, g.U ms', .int .i64 num] ++ Array.replicate (215 - 3) undef) := enterF_ok (EL.cons (Fd.im_E x1) (EL.cons (Fd.im_E x2) (EL.cons (E_i64 num) EL.nil))) 215
  obtain ⟨x, t', s', hx, hgx⟩ := codeG_ok hrun (pj_allA hvf hvg num l (jNil f g) (jNil g f))
  have hxn : x = .normal := by
    cases x with
    | normal => rfl
    | _ => cases hgx
  subst hxn
  refine calls_of_wp f14_get f14_body ?_
  rw [b14_eq, f14_tmps]
  refine seqs_wp hmix semN_ok (t' := t') (s' := s') (ρ0 := ρ) (s0 := st2 (meaC f.l) (meaC g.l)) (w0 := W) ?_ pre14 60 _ _ hx ρ W { tmps := #[f.U ms, g.U ms', .int .i64 num] ++ Array.replicate (215 - 3) undef, defers := [] } (Step.refl hR) hF rfl
  rintro a1 w1 ⟨_, hd1, ρ', hst, hf1⟩
  have hb1 := Step.belowOf hR hst pair_noImg
  have hgx : some (t'.n, [t'.get 3, t'.get 4, t'.get 7, t'.get 137], [ptrC (t'.get 3) s', ptrC (t'.get 4) s', ptrC (t'.get 7) s'], s'.get 4) = some _ := hgx
  injection hgx with hgx
  simp only [Prod.mk.injEq, List.cons.injEq] at hgx
  obtain ⟨gn, ⟨g3, g4, g7, gk, _⟩, ⟨p3, p4, p7, _⟩, pb⟩ := hgx
  have q3 := hf1.2 3
  have q4 := hf1.2 4
  have q7 := hf1.2 7
  have qk := hf1.2 137
  rw [g3] at q3 p3; rw [g4] at q4 p4; rw [g7] at q7 p7; rw [gk] at qk
  obtain ⟨msf, bf, ef⟩ := box_of hst.rel q3 p3
  obtain ⟨msg, bg, eg⟩ := box_of hst.rel q4 p4
  obtain ⟨mr, bp, ep⟩ := box_of hst.rel q7 p7
  obtain rfl := mv_fun ef (E.mono hst.le _ x1)
  obtain rfl := mv_fun eg (E.mono hst.le _ x2)
  obtain ⟨_, _, wf1, wf2, wf3⟩ := hvf.words
  obtain ⟨_, _, wg1, wg2, wg3⟩ := hvg.words
  have bf : BoxF w1 (a1.tmps.getD 3 undef) (f.cs msf) := by unfold Fd.cs; rw [wf1, wf2, wf3]; exact bf
  have bg : BoxF w1 (a1.tmps.getD 4 undef) (g.cs msg) := by unfold Fd.cs; rw [wg1, wg2, wg3]; exact bg
  have hsw : 0 < w1.heap.size := Nat.lt_of_lt_of_le hs0 hb1.size
  obtain ⟨oc, hM, ho, hr⟩ := mvK_mea hst.rel hsw hnil (fun hn => by rw [pb, hn]; rfl) ep
  obtain ⟨hp, hvp⟩ := full ho hr
  refine wp_block (wp_loop_rounds 17 ?_)
  refine rounds14 hmix (W := w1) (f := f) (g := g) (p := jFull f g num oc l) hf hg hp hvf hvg hvp (hm.below hb1) (hm'.below hb1) hM bf bg bp (joinM_get hvf.list.2.1 hvg.list.2.1 hJ).2 ?_ 16 0 w1 a1 rfl (Below.refl _ _) ⟨hf1.1.trans gn, rfl, rfl, rfl, by rw [E_i64_inv qk]; rfl⟩ hd1
  intro a2 w2 hb2 hd2 hs2
  unfold Exit.inBlock
  simp only [if_true]
  show e14.wp _ _ a2 w2
  refine wp_mono (end_any hmix hs2 hd2) ?_
  rintro e a3 w3 ⟨rfl, hb3, hd3, h6⟩
  refine ⟨hd3, _, res6 f14_res a3.tmps w3, ?_⟩
  rw [h6]
  exact ⟨rfl, below_tr hb1 (below_tr hb2 hb3)⟩
end Go.Proofs.YtilfiadkhohfiaaGreatDoor
/- Layer 2: joins of finds, in runs. -/
set_option linter.unusedVariables false
set_option maxRecDepth 100000
namespace Go.Proofs.YtilfiadkhohfiaaGreatDoor
set_option linter.unusedSimpArgs false
set_option linter.unusedVariables false
open Go Go.RowKit Go.Clo
variable {W : World}

/-- Where Joined fails: its error. -/
def errJ (f g : Fd) (z z' num : Int) : Int := if bothZ z z' = 0 then jErr f g (agB f g) num else bothZ z z'
def failJ (f g : Fd) (z z' num : Int) : Prop := bothZ z z' = 20 ∨ (bothZ z z' = 0 ∧ (inB num && jC f g (agB f g)) = false)
theorem joined_fail (hmix : Tryz.prog.follows .mixedOrders = true) (hs0 : 0 < W.heap.size) {f g : Fd} {z z' : Int} (hf : f.OK) (hg : g.OK) (hz : Checks W f z) (hz' : Checks W g z') {num : Int} (hfail : failJ f g z z' num) {ms ms' : Value} (hm : MeaAt W ms f.oc f.l) (hm' : MeaAt W ms' g.oc g.l) :
    Calls Tryz.prog 48 #[f.U ms, g.U ms', .int .i64 num] W fun e w' => e = .returned (.tuple #[zFd.U (.slice none 0 0), .int .i64 (errJ f g z z' num)]) ∧ Below W.heap.size W w' := by
  rcases bothZ_20 hz.z hz'.z with h20 | ⟨rfl, rfl, h0⟩
  · have hg1 := good122 hmix hs0 hf hg hz hz' (vf := vfA) fun s => rfl
    rw [h20] at hg1
    have he : errJ f g z z' num = 20 := by unfold errJ; rw [h20]; rfl
    have hr : valK Tryz.prog (semN Tryz.prog W vfA (tb1 20)) 60 48 [f.iv 0, g.iv 1, i64 num] (st2 (meaC f.l) (meaC g.l)) = cond (goodN Tryz.prog W vfA 122 [f.iv 0, g.iv 1] (vwA (meaC f.l) (meaC g.l)) 0 (i64 20) none) (noV 20) none :=
      ji W (meaC f.l) (meaC g.l) (mvOf 0 f.oc f.l) (mvOf 1 g.oc g.l) f.no f.el f.sd f.a f.b f.d f.e f.lo f.hi f.sex f.wear f.layer f.square g.no g.el g.sd g.a g.b g.d g.e g.lo g.hi g.sex g.wear g.layer g.square num
    have ha := jiA W (meaC f.l) (meaC g.l) (mvOf 0 f.oc f.l) (mvOf 1 g.oc g.l) f.no f.el f.sd f.a f.b f.d f.e f.lo f.hi f.sex f.wear f.layer f.square g.no g.el g.sd g.a g.b g.d g.e g.lo g.hi g.sex g.wear g.layer g.square num
    rw [hg1] at hr
    refine (pair_calls hmix semN_ok (xs := [i64 num]) (ys := [.int .i64 num]) (fun ρ => EL.cons (E_i64 _) EL.nil) hr ha hm hm').mono ?_
    rintro e w' ⟨ρ', u, rfl, hb, hE⟩
    obtain ⟨x, y, rfl, h1, h2⟩ := E_tup2 hE
    obtain ⟨mr, rfl, h3⟩ := Fd.im_of (f := zFd) (mv := .nils) h1
    exact ⟨by rw [E_i64_inv h2, nils_inv h3, he], hb⟩
  · have hno : (inB num && jC f g (agB f g)) = false := hfail.elim (fun h => by rw [h0] at h; omega) fun h => h.2
    refine (joined48s hmix hs0 hf hg hz hz' num hm hm').mono ?_
    rintro e w' ⟨mr, hb, rfl, ⟨_, rfl⟩ | ⟨h, _⟩⟩
    · have hr : jRes f g (agB f g) num = zFd := by unfold jRes; rw [hno]; rfl
      have he : errJ f g 0 0 num = jErr f g (agB f g) num := by unfold errJ; rw [h0]; rfl
      exact ⟨by rw [hr, he], hb⟩
    · rw [hno] at h; cases h
theorem failJ_comm {f g : Fd} {z z' num : Int} (hz : Checks W f z) (hz' : Checks W g z') (h : failJ f g z z' num) : failJ g f z' z num ∧ errJ g f z' z num = errJ f g z z' num := by
  rcases bothZ_20 hz.z hz'.z with h20 | ⟨rfl, rfl, h0⟩
  · have h20' : bothZ z' z = 20 := by
      unfold bothZ at h20 ⊢
      rcases hz.z with rfl | rfl <;> rcases hz'.z with rfl | rfl <;> simp_all
    exact ⟨.inl h20', by unfold errJ; rw [h20, h20']; rfl⟩
  · have hc := jC_comm hz.valid hz'.valid
    refine ⟨.inr ⟨h0, ?_⟩, ?_⟩
    · rw [← hc]; exact h.elim (fun h => by rw [h0] at h; omega) fun h => h.2
    · unfold errJ jErr
      rw [h0, hc]
theorem good48e (hmix : Tryz.prog.follows .mixedOrders = true) (hs0 : 0 < W.heap.size) {f g : Fd} {z z' : Int} (hf : f.OK) (hg : g.OK) (hz : Checks W f z) (hz' : Checks W g z') {num : Int} (hfail : failJ f g z z' num) {i j : Nat} {s : St} (hi : s.get i = some (.ro (meaC f.l))) (hj : s.get j = some (.ro (meaC g.l))) :
    GoodM Tryz.prog W 48 [f.iv i, g.iv j, i64 num] s (.tup [zFind, i64 (errJ f g z z' num)]) s := GoodM.same fun ρ w us hR he => by
  obtain ⟨u, r, rfl, e1, h2⟩ := EL.cons_inv he
  obtain ⟨u', r', rfl, e2, h3⟩ := EL.cons_inv h2
  obtain ⟨u3, r3, rfl, e3, h4⟩ := EL.cons_inv h3
  obtain rfl := EL.nil_inv h4
  obtain ⟨ms, rfl, hm⟩ := Fd.im_of e1
  obtain ⟨ms', rfl, hm'⟩ := Fd.im_of e2
  obtain rfl := E_i64_inv e3
  have hb := hR.below
  refine ⟨_, ?_, joined_fail hmix (Nat.lt_of_lt_of_le hs0 hb.size) hf hg (hz.world hb) (hz'.world hb) hfail ((meaAt_of hR hs0 hf.ho hi hm).below hb) ((meaAt_of hR hs0 hg.ho hj hm').below hb)⟩
  simp only [E]
  exact ⟨[_, _], rfl, EL.cons (Fd.im_E (f := zFd) (show E ρ .nils _ by simp only [E])) (EL.cons (E_i64 _) EL.nil)⟩
/-- The law FindsJoined returns true, if its sane does. -/
theorem joined_law (hmix : Tryz.prog.follows .mixedOrders = true) (hs0 : 0 < W.heap.size) (hsane : ∀ w, Below W.heap.size W w → Calls Tryz.prog 18 #[] w fun e w' => e = .returned (.bool true) ∧ Below w.heap.size w w') (hchk : ∀ p : Fd, p.OK → ∃ z, Checks W p z)
    {f g : Fd} (hf : f.OK) (hg : g.OK) (num : Int) {ms ms' : Value} (hm : MeaAt W ms f.oc f.l) (hm' : MeaAt W ms' g.oc g.l) :
    Calls Tryz.prog 14 #[f.U ms, g.U ms', .int .i64 num] W fun e w' => e = .returned (.bool true) ∧ Below W.heap.size W w' := by
  obtain ⟨z, hz⟩ := hchk f hf
  obtain ⟨z', hz'⟩ := hchk g hg
  by_cases hfail : failJ f g z z' num
  · obtain ⟨hfail', herr⟩ := failJ_comm hz hz' hfail
    have g18 := good18 hsane (vf := vfA) (vw := vwA (meaC f.l) (meaC g.l))
    have gab : goodN Tryz.prog W vfA 48 [f.iv 0, g.iv 1, i64 num] (vwA (meaC f.l) (meaC g.l)) 0 (.tup [zFind, i64 (errJ f g z z' num)]) none = true := goodN_true fun s hvw _ => by
      obtain ⟨k0, k1⟩ := seen (vf := vfA) (fn := 48) rfl hvw
      exact good48e hmix hs0 hf hg hz hz' hfail k0 k1
    have gba : goodN Tryz.prog W vfA 48 [g.iv 1, f.iv 0, i64 num] (vwA (meaC f.l) (meaC g.l)) 0 (.tup [zFind, i64 (errJ f g z z' num)]) none = true := goodN_true fun s hvw _ => by
      obtain ⟨k0, k1⟩ := seen (vf := vfA) (fn := 48) rfl hvw
      have := good48e hmix hs0 hg hf hz' hz hfail' k1 k0
      rw [herr] at this
      exact this
    have fin : ∀ (y : Int), errJ f g z z' num = y → valK Tryz.prog (semN Tryz.prog W vfA (tbE y)) 60 14 [f.iv 0, g.iv 1, i64 num] (st2 (meaC f.l) (meaC g.l)) = cond (goodN Tryz.prog W vfA 18 [] (vwA (meaC f.l) (meaC g.l)) 0 (.bool true) none) (cond (goodN Tryz.prog W vfA 48 [f.iv 0, g.iv 1, i64 num] (vwA (meaC f.l) (meaC g.l)) 0 (.tup [zFind, i64 y]) none) (cond (goodN Tryz.prog W vfA 48 [g.iv 1, f.iv 0, i64 num] (vwA (meaC f.l) (meaC g.l)) 0 (.tup [zFind, i64 y]) none) (some (.bool true)) none) none) none →
        askK Tryz.prog (semN Tryz.prog W vfA (tbE y)) 60 14 [f.iv 0, g.iv 1, i64 num] (st2 (meaC f.l) (meaC g.l)) false = askK Tryz.prog (semN Tryz.prog W vfA (tbE y)) 60 14 [f.iv 0, g.iv 1, i64 num] (st2 (meaC f.l) (meaC g.l)) true →
        Calls Tryz.prog 14 #[f.U ms, g.U ms', .int .i64 num] W fun e w' => e = .returned (.bool true) ∧ Below W.heap.size W w' := by
      intro y hy hv ha
      subst hy
      rw [g18, gab, gba] at hv
      refine (pair_calls hmix semN_ok (xs := [i64 num]) (ys := [.int .i64 num]) (fun ρ => EL.cons (E_i64 _) EL.nil) hv ha hm hm').mono ?_
      rintro e w' ⟨ρ', u, rfl, hb, hE⟩
      exact ⟨by rw [E_bool_inv hE], hb⟩
    have hcases : errJ f g z z' num = 1 ∨ errJ f g z z' num = 20 ∨ errJ f g z z' num = 22 := by
      unfold errJ
      rcases bothZ_20 hz.z hz'.z with h20 | ⟨_, _, h0⟩
      · rw [h20]; exact .inr (.inl rfl)
      · rw [h0, if_pos rfl]
        have hno : (inB num && jC f g (agB f g)) = false := hfail.elim (fun h => by rw [h0] at h; omega) fun h => h.2
        unfold jErr
        cases hi : inB num with
        | false => exact .inl rfl
        | true =>
          rw [hi] at hno
          have hno : jC f g (agB f g) = false := hno
          rw [hno]; exact .inr (.inr rfl)
    rcases hcases with h | h | h
    · exact fin 1 h (le_1 W (meaC f.l) (meaC g.l) (mvOf 0 f.oc f.l) (mvOf 1 g.oc g.l) f.no f.el f.sd f.a f.b f.d f.e f.lo f.hi f.sex f.wear f.layer f.square g.no g.el g.sd g.a g.b g.d g.e g.lo g.hi g.sex g.wear g.layer g.square num) (leA_1 W (meaC f.l) (meaC g.l) (mvOf 0 f.oc f.l) (mvOf 1 g.oc g.l) f.no f.el f.sd f.a f.b f.d f.e f.lo f.hi f.sex f.wear f.layer f.square g.no g.el g.sd g.a g.b g.d g.e g.lo g.hi g.sex g.wear g.layer g.square num)
    · exact fin 20 h (le_20 W (meaC f.l) (meaC g.l) (mvOf 0 f.oc f.l) (mvOf 1 g.oc g.l) f.no f.el f.sd f.a f.b f.d f.e f.lo f.hi f.sex f.wear f.layer f.square g.no g.el g.sd g.a g.b g.d g.e g.lo g.hi g.sex g.wear g.layer g.square num) (leA_20 W (meaC f.l) (meaC g.l) (mvOf 0 f.oc f.l) (mvOf 1 g.oc g.l) f.no f.el f.sd f.a f.b f.d f.e f.lo f.hi f.sex f.wear f.layer f.square g.no g.el g.sd g.a g.b g.d g.e g.lo g.hi g.sex g.wear g.layer g.square num)
    · exact fin 22 h (le_22 W (meaC f.l) (meaC g.l) (mvOf 0 f.oc f.l) (mvOf 1 g.oc g.l) f.no f.el f.sd f.a f.b f.d f.e f.lo f.hi f.sex f.wear f.layer f.square g.no g.el g.sd g.a g.b g.d g.e g.lo g.hi g.sex g.wear g.layer g.square num) (leA_22 W (meaC f.l) (meaC g.l) (mvOf 0 f.oc f.l) (mvOf 1 g.oc g.l) f.no f.el f.sd f.a f.b f.d f.e f.lo f.hi f.sex f.wear f.layer f.square g.no g.el g.sd g.a g.b g.d g.e g.lo g.hi g.sex g.wear g.layer g.square num)
  · rcases bothZ_20 hz.z hz'.z with h20 | ⟨rfl, rfl, h0⟩
    · exact absurd (.inl h20) hfail
    · cases hok : (inB num && jC f g (agB f g)) with
      | false => exact absurd (.inr ⟨h0, hok⟩) hfail
      | true => exact law14_ok hmix hs0 hsane hchk hf hg hz hz' num hm hm' hok
end Go.Proofs.YtilfiadkhohfiaaGreatDoor
