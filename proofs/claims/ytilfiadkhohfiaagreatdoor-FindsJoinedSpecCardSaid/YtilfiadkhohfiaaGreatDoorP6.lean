/- Layer 2: joins of finds. -/
import Derived.Test.YtilfiadkhohfiaaGreatDoorP5
/- Layer 2: joins of finds, in runs. -/
set_option linter.unusedVariables false
set_option maxRecDepth 100000
namespace Go.Proofs.YtilfiadkhohfiaaGreatDoor
set_option linter.unusedSimpArgs false
set_option linter.unusedVariables false
open Go Go.RowKit Go.Clo

/-- Pieces one behind the other, up to a loop. -/
theorem seqs_wp (hmix : Tryz.prog.follows .mixedOrders = true) {W0 : World} {H : Hook} (hH : HookOK Tryz.prog W0 H) {c L e : Code} {Q : Exit → Act → World → Prop} {t' : Fr} {s' : St} {ρ0 : Rho} {s0 : St} {w0 : World}
    (hK : ∀ a' w', Post W0 ρ0 s0 w0 .normal t' s' .normal a' w' → L.wp Tryz.prog (Exit.then (fun a w => e.wp Tryz.prog Q a w) Q) a' w') :
    ∀ (l : List Code) (N : Nat) (t : Fr) (s : St), exec Tryz.prog H N (seqs l c) t s = .ok .normal t' s' → ∀ (ρ : Rho) (w : World) (a : Act), Step W0 ρ0 s0 w0 ρ s w → FrE ρ t a.tmps → a.defers = [] → (seqs l (.seq (.seq c L) e)).wp Tryz.prog Q a w
  | [], N, t, s, h, ρ, w, a, hst, hf, hd => by
    have h : exec Tryz.prog H N c t s = .ok .normal t' s' := h
    refine wp_seq (wp_seq (wp_mono (runs_ok hmix hH _ _ _ _ _ _ _ h ρ w a hst.rel hf hd) ?_))
    rintro e' a1 w1 ⟨rfl, hd1, ρ1, hst1, hf1⟩
    exact hK a1 w1 ⟨rfl, hd1, ρ1, hst.trans hst1, hf1⟩
  | d :: l, 0, t, s, h, _, _, _, _, _, _ => by cases h
  | d :: l, N + 1, t, s, h, ρ, w, a, hst, hf, hd => by
    have h : thenV (exec Tryz.prog H N d t s) (exec Tryz.prog H N (seqs l c)) = .ok .normal t' s' := h
    obtain ⟨x1, t1, s1, h1, h2⟩ := thenV_ok h
    rcases h2 with ⟨rfl, h2⟩ | ⟨hne, rfl, _⟩
    · refine wp_seq (wp_mono (runs_ok hmix hH _ _ _ _ _ _ _ h1 ρ w a hst.rel hf hd) ?_)
      rintro e' a1 w1 ⟨rfl, hd1, ρ1, hst1, hf1⟩
      exact seqs_wp hmix hH hK l N t1 s1 h2 ρ1 w1 a1 (hst.trans hst1) hf1 hd1
    · exact absurd rfl hne
theorem sxI_comm (s s' : Int) : sxI s s' = sxI s' s := by
  unfold sxI sxE
  cases intBeq s 1 <;> cases intBeq s 2 <;> cases intBeq s 3 <;> cases intBeq s 4 <;> cases intBeq s' 1 <;> cases intBeq s' 2 <;> cases intBeq s' 3 <;> cases intBeq s' 4 <;> rfl
theorem agB_comm {f g : Fd} (hf : f.Valid) (hg : g.Valid) : agB f g = agB g f := by
  unfold agB
  rw [joinM_comm hf.list.2.1 hg.list.2.1]
theorem jC_comm {f g : Fd} (hf : f.Valid) (hg : g.Valid) : jC f g (agB f g) = jC g f (agB g f) := by
  rw [Bool.eq_iff_iff, jC_iff, jC_iff, agB_comm hf hg]
  have e : Nat.land f.a g.a = Nat.land g.a f.a := Nat.and_comm _ _
  rw [e, Int.max_comm f.lo g.lo, Int.min_comm f.hi g.hi]
  constructor
  · rintro ⟨h1, h2, h3, h4, h5⟩; exact ⟨h1.symm, by omega, h3, h4, h5⟩
  · rintro ⟨h1, h2, h3, h4, h5⟩; exact ⟨h1.symm, by omega, h3, h4, h5⟩
theorem cond_comm (x y : Int) : cond (intLt x y) y x = cond (intLt y x) x y := by
  have h1 : cond (intLt x y) y x = max x y := loA_eq x y
  have h2 : cond (intLt y x) x y = max y x := loA_eq y x
  rw [h1, h2, Int.max_comm]
/-- What two finds become, either way, but for the place. -/
theorem jFd_comm {f g : Fd} {ag : Bool} (hc : jC f g ag = true) (num : Int) (mv : V) : fin1 (jFd g f num).no (jFd g f num).el (jFd g f num).sd (jFd g f num).a mv (jFd g f num).lo (jFd g f num).hi (jFd g f num).sex (jFd g f num).wear (jFd f g num).layer (jFd f g num).square = (jFd f g num).im mv := by
  obtain ⟨h1, h2, h3, h4, _⟩ := jC_iff.1 hc
  have e1 : (jFd g f num).el = (jFd f g num).el := h1.symm
  have e2 : (jFd g f num).sd = (jFd f g num).sd := by
    show cond (intBeq g.sd 3) f.sd g.sd = cond (intBeq f.sd 3) g.sd f.sd
    cases hx : intBeq g.sd 3 <;> cases hy : intBeq f.sd 3
    · rw [← Bool.not_eq_true, intBeq_iff] at hx hy; show g.sd = f.sd; omega
    · rfl
    · rfl
    · rw [intBeq_iff] at hx hy; show f.sd = g.sd; omega
  have e3 : (jFd g f num).a = (jFd f g num).a := Nat.or_comm _ _
  have e4 : (jFd g f num).lo = (jFd f g num).lo := by show loA g.lo f.lo = loA f.lo g.lo; rw [loA_eq, loA_eq, Int.max_comm]
  have e5 : (jFd g f num).hi = (jFd f g num).hi := by show hiA g.hi f.hi = hiA f.hi g.hi; rw [hiA_eq, hiA_eq, Int.min_comm]
  have e6 : (jFd g f num).sex = (jFd f g num).sex := sxI_comm _ _
  have e7 : (jFd g f num).wear = (jFd f g num).wear := cond_comm _ _
  have e8 : (jFd g f num).no = (jFd f g num).no := rfl
  rw [e1, e2, e3, e4, e5, e6, e7, e8]
  rfl
/-- A slice in a block that a call has made. -/
theorem row_mea {W : World} {ρ : Rho} {s : St} {w : World} (hR : Rel W ρ s w) {n : Nat} {l : List Mea} {u : Value} (hg : s.get n = rowB l) (he : E ρ (slN n l) u) : ∃ cap, MeaAt w u (some cap) l ∧ l.length ≤ cap := by
  unfold slN at he
  simp only [E] at he
  obtain ⟨q, hq, rfl⟩ := he
  obtain ⟨_, q', hq', _, hlt, us, ty', e1, e2, e3, e4⟩ := hR.blk n _ hg
  rw [hq] at hq'; injection hq' with hq'; subst hq'
  rw [meaC_len] at e4
  refine ⟨q.cap - 0, ⟨q.blk, q.off + 0, rfl, hlt, fun i u hu => ?_⟩, by omega⟩
  obtain ⟨n, rfl, hn⟩ := meaVs_at hu
  obtain ⟨u', hu', he'⟩ := e2 i _ hn
  rw [E_i64_inv he'] at hu'
  rw [cell_of_row w q.blk _ _ _ _ e1]
  simpa using hu'
/-- A list that a call hands over: nil, or in a block of its own. -/
def mvK (nil : Bool) (n : Nat) (l : List Mea) : V := cond nil .nils (slN n l)
def bkK (nil : Bool) (l : List Mea) : Option Blk := cond nil none (rowB l)
theorem mvK_mea {W : World} {ρ : Rho} {s : St} {w : World} (hR : Rel W ρ s w) (hs0 : 0 < w.heap.size) {nil : Bool} {n : Nat} {l : List Mea} {u : Value} (hn : nil = true → l = []) (hg : nil = false → s.get n = rowB l) (he : E ρ (mvK nil n l) u) :
    ∃ oc, MeaAt w u oc l ∧ (oc = none → l = []) ∧ Room oc l := by
  cases nil with
  | true =>
    have he : E ρ .nils u := he
    exact ⟨none, ⟨hs0, nils_inv he, hn rfl⟩, (fun _ => hn rfl), fun c h => by cases h⟩
  | false =>
    obtain ⟨cap, hM, hc⟩ := row_mea hR (hg rfl) he
    exact ⟨some cap, hM, (fun h => by cases h), fun c h => by injection h with h; omega⟩
variable {W : World}
/-- The call of Joined, where it succeeds. -/
theorem good48s (hmix : Tryz.prog.follows .mixedOrders = true) (hs0 : 0 < W.heap.size) {f g : Fd} (hf : f.OK) (hg : g.OK) (hz : Checks W f 0) (hz' : Checks W g 0) {num : Int} {l : List Mea} (hok : (inB num && jC f g (agB f g)) = true) (hJ : joinM f.l f.l g.l = some l) {i j : Nat} {s : St} (hi : s.get i = some (.ro (meaC f.l))) (hj : s.get j = some (.ro (meaC g.l))) :
    GoodM Tryz.prog W 48 [f.iv i, g.iv j, i64 num] s (.tup [(jFd f g num).im (mvK (jNil f g) s.size l), i64 0]) (addB s (bkK (jNil f g) l)) := by
  have run : ∀ (ρ : Rho) (w : World) (us : List Value), Rel W ρ s w → EL ρ [f.iv i, g.iv j, i64 num] us → Calls Tryz.prog 48 us.toArray w (JRes w f g num) := by
    intro ρ w us hR he
    obtain ⟨u, r, rfl, e1, h2⟩ := EL.cons_inv he
    obtain ⟨u', r', rfl, e2, h3⟩ := EL.cons_inv h2
    obtain ⟨u3, r3, rfl, e3, h4⟩ := EL.cons_inv h3
    obtain rfl := EL.nil_inv h4
    obtain ⟨ms, rfl, hm⟩ := Fd.im_of e1
    obtain ⟨ms', rfl, hm'⟩ := Fd.im_of e2
    obtain rfl := E_i64_inv e3
    have hb := hR.below
    exact joined48s hmix (Nat.lt_of_lt_of_le hs0 hb.size) hf hg (hz.world hb) (hz'.world hb) num ((meaAt_of hR hs0 hf.ho hi hm).below hb) ((meaAt_of hR hs0 hg.ho hj hm').below hb)
  have hr : jRes f g (agB f g) num = jFd f g num := by unfold jRes; rw [hok]; rfl
  rw [Bool.and_eq_true] at hok
  have he : jErr f g (agB f g) num = 0 := by unfold jErr; rw [hok.1, hok.2]; rfl
  cases hn : jNil f g with
  | true =>
    refine GoodM.same' fun ρ w us hR hE => (run ρ w us hR hE).mono ?_
    rintro e w' ⟨mr, hb, rfl, ⟨h, _⟩ | ⟨_, l', _, _, ⟨_, rfl, _⟩ | ⟨h, _⟩⟩⟩
    · rw [hok.1, hok.2] at h; cases h
    · rw [hr, he]
      refine ⟨_, rfl, ?_, hb⟩
      simp only [E]
      exact ⟨[_, _], rfl, EL.cons (Fd.im_E (show E ρ .nils _ by simp only [E])) (EL.cons (E_i64 _) EL.nil)⟩
    · rw [hn] at h; cases h
  | false =>
    refine GoodM.rowIn (len := l.length) (g := fun u => .tuple #[(jFd f g num).U u, .int .i64 0]) (fun ρ u hu => ?_) fun ρ w us hR hE => (run ρ w us hR hE).mono ?_
    · simp only [E]
      exact ⟨[_, _], rfl, EL.cons (Fd.im_E hu) (EL.cons (E_i64 _) EL.nil)⟩
    · rintro e w' ⟨mr, hb, rfl, ⟨h, _⟩ | ⟨_, l', hl', _, ⟨h, _⟩ | ⟨_, h⟩⟩⟩
      · rw [hok.1, hok.2] at h; cases h
      · rw [hn] at h; cases h
      · rw [hJ] at hl'; injection hl' with hl'; subst hl'
        obtain ⟨blk, off, cap, xs, ty, rfl, k1, k2, k3, k4, k5⟩ := h
        rw [hr, he]
        exact ⟨blk, off, cap, xs, ty, rfl, k1, k2, k3, k4, k5, hb⟩
end Go.Proofs.YtilfiadkhohfiaaGreatDoor
