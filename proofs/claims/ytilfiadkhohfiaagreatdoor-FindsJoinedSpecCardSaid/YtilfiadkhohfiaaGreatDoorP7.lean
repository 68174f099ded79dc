/- Layer 2: joins of finds. -/
import Derived.Test.YtilfiadkhohfiaaGreatDoorP6
/- Layer 2: joins of finds, in runs. -/
set_option linter.unusedVariables false
set_option maxRecDepth 100000
namespace Go.Proofs.YtilfiadkhohfiaaGreatDoor
set_option linter.unusedSimpArgs false
set_option linter.unusedVariables false
open Go Go.RowKit Go.Clo
noncomputable section
def bQ (np : Bool) : Nat := cond np 5 6
/-- What lies where a list would: the list, or the variable that holds the find. -/
def seenK (nil : Bool) (p : Fd) (l : List Mea) : Option Blk := cond nil (some (.cells (finL p.no p.el p.sd p.a 0 0 0 .nils p.lo p.hi p.sex p.wear p.layer p.square) 29)) (rowB l)
end
end Go.Proofs.YtilfiadkhohfiaaGreatDoor
/- Layer 2: joins of finds, in runs. -/
set_option linter.unusedVariables false
set_option maxRecDepth 100000
namespace Go.Proofs.YtilfiadkhohfiaaGreatDoor
set_option linter.unusedSimpArgs false
set_option linter.unusedVariables false
open Go Go.RowKit Go.Clo
variable {W : World}

theorem box_of {ρ : Rho} {s : St} {w : World} (hR : Rel W ρ s w) {b : Nat} {u : Value} (he : E ρ (.ptr b 0) u) {no el sd : Int} {a b' d e : Nat} {mv : V} {lo hi sex wear layer square : Int} (hc : ptrC (.ptr b 0) s = some (finL no el sd a b' d e mv lo hi sex wear layer square)) :
    ∃ ms, BoxF w u (finVs no el sd a b' d e ms lo hi sex wear layer square) ∧ E ρ mv ms := by
  unfold ptrC at hc
  simp only at hc
  split at hc
  · rename_i c ty hb
    injection hc with hc
    subst hc
    simp only [E] at he
    obtain ⟨l, hl, rfl⟩ := he
    obtain ⟨_, l', hl', _, hlt, h0, us, e1, e2⟩ := hR.blk b _ hb
    rw [hl] at hl'; injection hl' with hl'; subst hl'
    obtain ⟨ms, rfl, hm⟩ := EL_fin_inv e2
    refine ⟨ms, ⟨l.blk, by rw [h0], hlt, fun i u hu => ?_⟩, hm⟩
    rw [cell_of_row w l.blk _ _ _ _ e1]
    simpa using hu
  · cases hc
theorem res6 {fn : Func} (h : fn.results = #[.tmp 6]) (tm : Array Value) (w : World) {P : Program} : (results fn tm).run P w = .ok (tm.getD 6 undef) w := by
  rw [results_eq, h]
  simp [resOne]
end Go.Proofs.YtilfiadkhohfiaaGreatDoor
/- Layer 2: joins of finds, in runs. -/
set_option linter.unusedVariables false
set_option maxRecDepth 100000
namespace Go.Proofs.YtilfiadkhohfiaaGreatDoor
set_option linter.unusedSimpArgs false
set_option linter.unusedVariables false
open Go Go.RowKit Go.Clo
variable {W : World}

/-- Where Joined fails: its error. -/
def errJ (f g : Fd) (z z' num : Int) : Int := if bothZ z z' = 0 then jErr f g (agB f g) num else bothZ z z'
def failJ (f g : Fd) (z z' num : Int) : Prop := bothZ z z' = 20 ∨ (bothZ z z' = 0 ∧ (inB num && jC f g (agB f g)) = false)
theorem joined_fail (hmix : Tryz.prog.follows .mixedOrders = true) (hs0 : 0 < W.heap.size) {f g : Fd} {z z' : Int} (hf : f.OK) (hg : g.OK) (hz : Checks W f z) (hz' : Checks W g z') {num : Int} (hfail : failJ f g z z' num) {ms ms' : Value} (hm : MeaAt W ms f.oc f.l) (hm' : MeaAt W ms' g.oc g.l) :
    Calls Tryz.prog 48 #[f.U ms, g.U ms', .int .i64 num] W fun e w' => e = .returned (.tuple #[zFd.U (.slice none 0 0), .int .i64 (errJ f g z z' num)]) ∧ Below W.heap.size W w' := by
  rcases bothZ_20 hz.z hz'.z with h20 | ⟨rfl, rfl, h0⟩
  · have hg1 := good122 hmix hs0 hf hg hz hz' (vf := vfA) fun s => rfl
    rw [h20] at hg1
    have he : errJ f g z z' num = 20 := by unfold errJ; rw [h20]; rfl
    have hr : valK Tryz.prog (semN Tryz.prog W vfA (tb1 20)) 60 48 [f.iv 0, g.iv 1, i64 num] (st2 (meaC f.l) (meaC g.l)) = cond (goodN Tryz.prog W vfA 122 [f.iv 0, g.iv 1] (vwA (meaC f.l) (meaC g.l)) 0 (i64 20) none) (noV 20) none :=
      ji W (meaC f.l) (meaC g.l) (mvOf 0 f.oc f.l) (mvOf 1 g.oc g.l) f.no f.el f.sd f.a f.b f.d f.e f.lo f.hi f.sex f.wear f.layer f.square g.no g.el g.sd g.a g.b g.d g.e g.lo g.hi g.sex g.wear g.layer g.square num
    have ha := jiA W (meaC f.l) (meaC g.l) (mvOf 0 f.oc f.l) (mvOf 1 g.oc g.l) f.no f.el f.sd f.a f.b f.d f.e f.lo f.hi f.sex f.wear f.layer f.square g.no g.el g.sd g.a g.b g.d g.e g.lo g.hi g.sex g.wear g.layer g.square num
    rw [hg1] at hr
    refine (pair_calls hmix semN_ok (xs := [i64 num]) (ys := [.int .i64 num]) (fun ρ => EL.cons (E_i64 _) EL.nil) hr ha hm hm').mono ?_
    rintro e w' ⟨ρ', u, rfl, hb, hE⟩
    obtain ⟨x, y, rfl, h1, h2⟩ := E_tup2 hE
    obtain ⟨mr, rfl, h3⟩ := Fd.im_of (f := zFd) (mv := .nils) h1
    exact ⟨by rw [E_i64_inv h2, nils_inv h3, he], hb⟩
  · have hno : (inB num && jC f g (agB f g)) = false := hfail.elim (fun h => by rw [h0] at h; omega) fun h => h.2
    refine (joined48s hmix hs0 hf hg hz hz' num hm hm').mono ?_
    rintro e w' ⟨mr, hb, rfl, ⟨_, rfl⟩ | ⟨h, _⟩⟩
    · have hr : jRes f g (agB f g) num = zFd := by unfold jRes; rw [hno]; rfl
      have he : errJ f g 0 0 num = jErr f g (agB f g) num := by unfold errJ; rw [h0]; rfl
      exact ⟨by rw [hr, he], hb⟩
    · rw [hno] at h; cases h
theorem failJ_comm {f g : Fd} {z z' num : Int} (hz : Checks W f z) (hz' : Checks W g z') (h : failJ f g z z' num) : failJ g f z' z num ∧ errJ g f z' z num = errJ f g z z' num := by
  rcases bothZ_20 hz.z hz'.z with h20 | ⟨rfl, rfl, h0⟩
  · have h20' : bothZ z' z = 20 := by
      unfold bothZ at h20 ⊢
      rcases hz.z with rfl | rfl <;> rcases hz'.z with rfl | rfl <;> simp_all
    exact ⟨.inl h20', by unfold errJ; rw [h20, h20']; rfl⟩
  · have hc := jC_comm hz.valid hz'.valid
    refine ⟨.inr ⟨h0, ?_⟩, ?_⟩
    · rw [← hc]; exact h.elim (fun h => by rw [h0] at h; omega) fun h => h.2
    · unfold errJ jErr
      rw [h0, hc]
theorem good48e (hmix : Tryz.prog.follows .mixedOrders = true) (hs0 : 0 < W.heap.size) {f g : Fd} {z z' : Int} (hf : f.OK) (hg : g.OK) (hz : Checks W f z) (hz' : Checks W g z') {num : Int} (hfail : failJ f g z z' num) {i j : Nat} {s : St} (hi : s.get i = some (.ro (meaC f.l))) (hj : s.get j = some (.ro (meaC g.l))) :
    GoodM Tryz.prog W 48 [f.iv i, g.iv j, i64 num] s (.tup [zFind, i64 (errJ f g z z' num)]) s := GoodM.same fun ρ w us hR he => by
  obtain ⟨u, r, rfl, e1, h2⟩ := EL.cons_inv he
  obtain ⟨u', r', rfl, e2, h3⟩ := EL.cons_inv h2
  obtain ⟨u3, r3, rfl, e3, h4⟩ := EL.cons_inv h3
  obtain rfl := EL.nil_inv h4
  obtain ⟨ms, rfl, hm⟩ := Fd.im_of e1
  obtain ⟨ms', rfl, hm'⟩ := Fd.im_of e2
  obtain rfl := E_i64_inv e3
  have hb := hR.below
  refine ⟨_, ?_, joined_fail hmix (Nat.lt_of_lt_of_le hs0 hb.size) hf hg (hz.world hb) (hz'.world hb) hfail ((meaAt_of hR hs0 hf.ho hi hm).below hb) ((meaAt_of hR hs0 hg.ho hj hm').below hb)⟩
  simp only [E]
  exact ⟨[_, _], rfl, EL.cons (Fd.im_E (f := zFd) (show E ρ .nils _ by simp only [E])) (EL.cons (E_i64 _) EL.nil)⟩
end Go.Proofs.YtilfiadkhohfiaaGreatDoor
