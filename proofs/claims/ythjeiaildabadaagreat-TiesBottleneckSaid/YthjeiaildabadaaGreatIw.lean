/- A region that draws its order, operation by operation, with new variables in it. -/
import Derived.Test.YthjeiaildabadaaGreatJo
namespace Go.Proofs.YthjeiaildabadaaGreat
set_option linter.unusedSimpArgs false
set_option linter.unusedVariables false
open Go Go.RowKit
variable {P : Program} {ops : Array Oper} {C : Cl} {md : Region.Mode}
theorem wpAny_inv2 {E : Env} {L : List Value} {Z : TypeId → Value} {n m g B : Nat} {ds : List Deferred} {Q' : Exit → Act → World → Prop} (hn : n ≤ ops.size) (hT : tailLast md ops n = true) (hdep : depsOk md ops n m = true)
    (hE : ∀ d x, lk E d = some x → entOk C x) (hEo : ∀ d, (∀ i o, i < n → ops[i]? = some o → o.dst ≠ some d) → lk E d = none)
    (hobl : ∀ i o d, i < n → ops[i]? = some o → o.dst = some d → obl P ops C o E L (known E L d)) (hstep : ∀ w w', C.C w → C.R w w' → C.C w') (hs : newSlots ops n m = true)
    (hZ : ∀ (i : Nat) (o : Oper) (e : TypeId), ops[i]? = some o → o.op = .alloc e → ∀ w, (zeroValue e).run P w = .ok (Z e) w) (hrb : ∀ w w', C.R w w' → Below w.heap.size w w') (hcb : ∀ w, C.C w → B ≤ w.heap.size)
    (hend : ∀ listed a w, HeadInv md ops n listed → (∀ j, j < n → listed.getD j true = true) → Inv ops C E L n m ds listed a w → newOk ops Z B n listed a w → wpAny P md ops Q' g listed a w) :
    ∀ (f : Nat) (listed : Array Bool) (a : Act) (w : World), todo listed n = f → HeadInv md ops n listed → Inv ops C E L n m ds listed a w → newOk ops Z B n listed a w → wpAny P md ops Q' (f + g) listed a w
  | 0, listed, a, w, hf, hH, hI, hN => by rw [Nat.zero_add]; exact hend listed a w hH (todo_zero hf) hI hN
  | f + 1, listed, a, w, hf, hH, hI, hN => by
    obtain ⟨i0, hi0, hun0, hlow⟩ := todo_pos (listed := listed) (n := n) (by omega)
    have hr0 : i0 ∈ Region.ready md ops listed := by
      obtain ⟨o, d, ho, _, _, hbe, _⟩ := depsOk_spec hdep hi0
      exact mem_ready.2 ⟨hun0, o, ho, fun e he hb => getD_or (hlow e.on (hbe e he hb)) (by rw [hH.size]; have := hbe e he hb; omega)⟩
    rw [show f + 1 + g = (f + g) + 1 by omega]
    refine ⟨fun h0 => (by rw [h0] at hr0; cases hr0), fun i hi => ?_⟩
    have hin : i < n := ready_head hT hH i0 hi0 hun0 i hi
    obtain ⟨hun, o, ho, hall⟩ := mem_ready.1 hi
    obtain ⟨o', d, ho', hd, hdm, _, hlooks, hdst⟩ := depsOk_spec hdep hin
    obtain rfl : o = o' := Option.some.inj (ho.symm.trans ho')
    have hk : ∀ e ∈ o.looksAt ops, known E L e (a.tmps.getD e undef) w := fun e he => by
      by_cases hw : ∃ j p, j < n ∧ ops[j]? = some p ∧ p.dst = some e
      · obtain ⟨j, p, hj, hp, hpe⟩ := hw
        obtain ⟨x, hx, hb, hxj⟩ := hlooks e he j p hj hp hpe
        exact hI.come j p e hj hp hpe (by rw [← hxj]; exact hall x hx hb)
      · have hno : ∀ j p, j < n → ops[j]? = some p → p.dst ≠ some e := fun j p hj hp hpe => hw ⟨j, p, hj, hp, hpe⟩
        unfold known; rw [hEo e hno]; exact hI.other e hno
    have hst := hobl i o d hin ho hd a w hI.cl hk
    have next : ∀ u w', C.C w' → (∀ v e, known E L e v w → known E L e v w') → known E L d u w' → Inv ops C E L n m ds (listed.setIfInBounds i true) (a.put o.dst u) w' := fun u w' hc hkeep hu => by
      refine ⟨hc, by rw [tmps_put_size]; exact hI.size, by rw [hd]; exact hI.defers, fun j p e hj hp hpe hl => ?_, fun e he => ?_⟩
      · by_cases hij : i = j
        · subst hij
          obtain rfl : o = p := Option.some.inj (ho.symm.trans hp)
          rw [hd] at hpe ⊢
          obtain rfl := Option.some.inj hpe
          rw [tmps_put_same _ _ _ (by rw [hI.size]; exact hdm)]; exact hu
        · rw [getD_set_ne false hij] at hl
          rw [tmps_put_ne _ _ _ _ (fun h => hdst j p hj (Ne.symm hij) hp (hpe.trans h.symm))]
          exact hkeep _ _ (hI.come j p e hj hp hpe hl)
      · rw [tmps_put_ne _ _ _ _ (fun h => he i o hin ho h)]; exact hI.other e he
    unfold wpOp
    simp only [ho]
    unfold stepAt at hst
    have hcnt : todo (listed.setIfInBounds i true) n = f := by have := (todo_set hun n).2 hin; omega
    by_cases hw : Region.wanted o (yielded ops a.tmps) = true
    · rw [if_pos hw] at hst
      rw [if_pos hw]
      refine .inl ?_
      unfold Oper.wp
      have keep : ∀ w', C.R w w' → ∀ v e, known E L e v w → known E L e v w' := fun w' hR v e hv => by
        unfold known at hv ⊢
        cases hx : lk E e with
        | none => rw [hx] at hv; exact hv
        | some y =>
          rw [hx] at hv
          cases y with
          | ex v' => exact hv
          | re q => exact hE e _ hx v w w' hI.cl hR hv
      by_cases ha : isAlloc o = true
      · obtain ⟨e, he⟩ : ∃ e, o.op = .alloc e := by
          unfold isAlloc at ha
          split at ha
          · rename_i e he; exact ⟨e, he⟩
          · cases ha
        have hr : (execOp a.eval o).run P w = .ok (.value (.pointer (some ⟨w.heap.size, 0, none⟩))) (w.alloc (.cells (Z e).cells e)) := by
          have hz := hZ i o e ho he w
          simp [execOp, he, hz, go_sem]
        rw [hr] at hst ⊢
        obtain ⟨hR, hV⟩ := hst
        simp only [Oper.upon]
        exact wpAny_inv2 hn hT hdep hE hEo hobl hstep hs hZ hrb hcb hend f _ _ _ hcnt (hH.set hi hin) (next _ _ (hstep _ _ hI.cl hR) (keep _ hR) hV) (newOk_alloc (by rw [hI.size]; exact hs) hin ho he (hcb w hI.cl) hN)
      · exact upon_of_step hst fun u w' hR hV => wpAny_inv2 hn hT hdep hE hEo hobl hstep hs hZ hrb hcb hend f _ _ w' hcnt (hH.set hi hin) (next u w' (hstep _ _ hI.cl hR) (keep w' hR) hV) (newOk_step hs hin ho (by simpa using ha) (hrb _ _ hR) hN)
    · rw [if_neg hw] at hst
      rw [if_neg hw]
      have hna : isAlloc o = false := by
        cases ha : isAlloc o with
        | false => rfl
        | true =>
          unfold isAlloc at ha
          split at ha
          · rename_i e he
            have := (newSlots_spec hs hin ho he).1
            rw [Region.wanted, this] at hw
            exact absurd rfl hw
          · cases ha
      exact wpAny_inv2 hn hT hdep hE hEo hobl hstep hs hZ hrb hcb hend f _ _ w hcnt (hH.set hi hin) (next undef w hI.cl (fun _ _ h => h) hst) (newOk_step hs hin ho hna (Below.refl _ _) hN)

theorem wp_region_inv2 {C : Cl} {Z : TypeId → Value} {id : Nat} {Q : Exit → Act → World → Prop} {ds : List Deferred} {L : List Value} {w : World} {l : List Oper} (n m : Nat) (T : List TypeId) (hm : P.follows .mixedOrders = true) (hB : invB l n m = true) (hs : newSlots l.toArray n m = true) (hT0 : allocTypes l.toArray = T) (hZ : ∀ e, e ∈ T → ∀ w, (zeroValue e).run P w = .ok (Z e) w) (hLm : L.length = m)
    (hstep : ∀ w w', C.C w → C.R w w' → C.C w') (hrb : ∀ w w', C.R w w' → Below w.heap.size w w') (hcb : ∀ w', C.C w' → w.heap.size ≤ w'.heap.size) (h0 : C.C w.drew)
    (h : chain P l.toArray C L (l.take n) [] (fun E => ∀ a' w', C.C w' → a'.defers = ds → a'.tmps.size = m → (∀ d, known E L d (a'.tmps.getD d undef) w') → newOk l.toArray Z w.heap.size n (Array.replicate l.toArray.size true) a' w' → wpList P l.toArray Q (l.drop n) a' w')) :
    (Code.region id l.toArray true).wp P Q ⟨L.toArray, ds⟩ w := by
  simp only [invB, Bool.and_eq_true, decide_eq_true_eq] at hB
  obtain ⟨⟨⟨⟨⟨hsel, hn⟩, hT⟩, hdep⟩, hch⟩, hseq⟩ := hB
  obtain ⟨E, hK, hE, hEo, hobl⟩ := chain_sound (ops := l.toArray) (l.take n) [] hch (fun d x h => by cases h) h
  have hsz : l.toArray.size = l.length := by simp
  have memT : ∀ i o, i < n → l.toArray[i]? = some o → o ∈ l.take n := fun i o hi ho => by
    have : (l.take n)[i]? = some o := by rw [List.getElem?_take, if_pos hi]; simpa using ho
    exact List.mem_of_getElem? this
  have hnone : ∀ d, (∀ i o, i < n → l.toArray[i]? = some o → o.dst ≠ some d) → lk E d = none := fun d hd => by
    rw [hEo d fun o ho => ?_]; rfl
    obtain ⟨i, hi⟩ := List.getElem?_of_mem ho
    rw [List.getElem?_take] at hi
    split at hi
    · rename_i hin; exact hd i o hin (by simpa using hi)
    · cases hi
  refine wp_region_any hm ?_
  have memTy : ∀ (i : Nat) (o : Oper) (e : TypeId), l.toArray[i]? = some o → o.op = .alloc e → e ∈ T := fun i o e ho he => hT0 ▸
    List.mem_filterMap.2 ⟨o, Array.mem_toList_iff.2 (Array.mem_of_getElem? ho), by simp [he]⟩
  have H := wpAny_inv2 (P := P) (Z := Z) (B := w.heap.size) (md := .any) (Q' := Q) (g := l.length - n) (ds := ds) (m := m) (n := n) (C := C) (E := E) (L := L) (by rw [hsz]; exact hn) hT hdep hE hnone (fun i o d hi ho hd => hobl o (memT i o hi ho) d hd) hstep hs (fun i o e ho he => hZ e (memTy i o e ho he)) hrb hcb
    (fun listed a w' hH hall hI hN => by
      have hlist : listed = Array.replicate n true ++ Array.replicate (l.length - n) false := by
        apply Array.ext_getElem?
        intro j
        have hs := hH.size
        rw [hsz] at hs
        by_cases hj : j < n
        · have h1 := hall j hj
          have hjs : j < listed.size := by omega
          rw [Array.getElem?_append_left (by simpa using hj)]
          simp [hjs, hj] at h1 ⊢; exact h1
        · by_cases hj2 : j < l.length
          · have h1 := hH.tail j (by omega) (by rw [hsz]; exact hj2)
            have hjs : j < listed.size := by omega
            rw [Array.getElem?_append_right (by simpa using (by omega : n ≤ j))]
            simp [hjs] at h1 ⊢
            rw [Array.getElem?_replicate, if_pos (by omega), h1]
          · rw [Array.getElem?_eq_none (by omega), Array.getElem?_eq_none (by simp; omega)]
      have hdl : (l.drop n).length = l.length - n := by simp
      have := wpAny_of_seq (md := .any) (P := P) (ops := l.toArray) (Q' := Q) (l.drop n) n listed a w' (fun j => by simp [List.getElem?_drop]) (by rw [hdl, hlist]; exact hseq) (hK a w' hI.cl hI.defers hI.size (fun d => by
        by_cases hw : ∃ j p, j < n ∧ l.toArray[j]? = some p ∧ p.dst = some d
        · obtain ⟨j, p, hj, hp, hpe⟩ := hw
          exact hI.come j p d hj hp hpe (getD_or (hall j hj) (by have := hH.size; rw [hsz] at this; omega))
        · have hno : ∀ j p, j < n → l.toArray[j]? = some p → p.dst ≠ some d := fun j p hj hp hpe => hw ⟨j, p, hj, hp, hpe⟩
          unfold known; rw [hnone d hno]; exact hI.other d hno)
        (by
          have hal : ∀ i, i < n → listed.getD i false = true := fun i hi => getD_or (hall i hi) (by have := hH.size; rw [hsz] at this; omega)
          exact ⟨fun i o e d hi _ ho he hg hd => hN.1 i o e d hi (hal i hi) ho he hg hd, fun i k o p e e' d d' b hi hk hne _ _ ho hp he he' hg hg' hd hd' hb => hN.2 i k o p e e' d d' b hi hk hne (hal i hi) (hal k hk) ho hp he he' hg hg' hd hd' hb⟩))
      rw [hdl] at this; exact this)
    n (Array.replicate l.toArray.size false) ⟨L.toArray, ds⟩ w.drew (by
      have : ∀ k, k ≤ l.length → todo (Array.replicate l.toArray.size false) k = k := fun k => by
        induction k with
        | zero => intro _; rfl
        | succ k ih => intro hk; rw [todo_succ, ih (by omega)]; simp [show k < l.length by omega]
      exact this n hn)
    ⟨by simp, fun j oj _ hl => (by rw [getD_replicate_false] at hl; cases hl), fun t _ ht => getD_in (by simpa using ht) (getD_replicate_false _ _)⟩
    ⟨h0, by simpa using hLm, rfl, fun i o d _ _ _ hl => (by rw [getD_replicate_false] at hl; cases hl), fun d _ => (by rw [slotL_eq]; simp)⟩
    ⟨fun i o e d hi hl => (by rw [getD_replicate_false] at hl; cases hl), fun i k o p e e' d d' b _ _ _ hl => (by rw [getD_replicate_false] at hl; cases hl)⟩
  have hnn : n + (l.length - n) = l.toArray.size := by rw [hsz]; omega
  rw [hnn] at H
  exact H


/-- The word of a new variable. -/
def ptr_w : Word := fun v _ => ∃ b, v = .pointer (some ⟨b, 0, none⟩)
theorem ptr_lasts : lasts C ptr_w := fun v w w' _ _ h => h
theorem chain_alloc {L : List Value} {K : Env → Prop} {o : Oper} {rest : List Oper} {E : Env} {d : Nat} {w0 : World} (e : TypeId) (z : Value) (hd : o.dst = some d) (ho : o.op = .alloc e) (hw : wantB ops o E L = true) (he : exB ops o E = true)
    (hz : ∀ w, (zeroValue e).run P w = .ok z w) (hk : chain P ops (clOld w0) L rest ((d, .re ptr_w) :: E) K) : chain P ops (clOld w0) L (o :: rest) E K :=
  chain_new ptr_w ptr_lasts hd (fun cs b h => by rw [ho] at h; cases h) hw he (fun w hC => ⟨.pointer (some ⟨w.heap.size, 0, none⟩), w.alloc (.cells z.cells e), by simp [execOp, ho, hz, go_sem], (Below.refl _ _).alloc (Nat.le_refl _) _, _, rfl⟩) hk
theorem wp_region_old2 {Z : TypeId → Value} {L : List Value} {id : Nat} {Q : Exit → Act → World → Prop} {ds : List Deferred} {w : World} {l : List Oper} (n m : Nat) (T : List TypeId) (hm : P.follows .mixedOrders = true) (hB : invB l n m = true) (hs : newSlots l.toArray n m = true) (hT0 : allocTypes l.toArray = T)
    (hZ : ∀ e, e ∈ T → ∀ w, (zeroValue e).run P w = .ok (Z e) w) (hLm : L.length = m)
    (h : chain P l.toArray (clOld w.drew) L (l.take n) [] (fun E => ∀ a' w', Old w.drew w' → a'.defers = ds → a'.tmps.size = m → (∀ d, known E L d (a'.tmps.getD d undef) w') → newOk l.toArray Z w.heap.size n (Array.replicate l.toArray.size true) a' w' → wpList P l.toArray Q (l.drop n) a' w')) :
    (Code.region id l.toArray true).wp P Q ⟨L.toArray, ds⟩ w :=
  wp_region_inv2 (C := clOld w.drew) n m T hm hB hs hT0 hZ hLm (fun _ _ h hb => Old.step h hb) (fun _ _ h => h) (fun w1 h => show w.drew.heap.size ≤ w1.heap.size from (show Below w.drew.heap.size w.drew w1 from h).size) (Below.refl _ _) h
theorem chain_end2 {Z : TypeId → Value} {B n : Nat} {lst : Array Bool} {E : Env} {L : List Value} {Q : Exit → Act → World → Prop} {tail : List Oper} {ds : List Deferred} {m : Nat} (hL : L.length = m)
    (h : ∀ (xs : Nat → Value) w', C.C w' → (∀ d q, lk E d = some (.re q) → q (xs d) w') → newOk ops Z B n lst ⟨(layE E L xs).toArray, ds⟩ w' → wpList P ops Q tail ⟨(layE E L xs).toArray, ds⟩ w') :
    chain P ops C L [] E (fun E => ∀ a' w', C.C w' → a'.defers = ds → a'.tmps.size = m → (∀ d, known E L d (a'.tmps.getD d undef) w') → newOk ops Z B n lst a' w' → wpList P ops Q tail a' w') := by
  intro a' w' hC hds hsz hk hN
  exact chain_end (P := P) (ops := ops) (C := C) (Q := fun _ a w => newOk ops Z B n lst a w → wpList P ops Q tail a w) (tail := []) (ds := ds) hL (fun xs w' hC hq hN => h xs w' hC hq hN) a' w' hC hds hsz hk hN
end Go.Proofs.YthjeiaildabadaaGreat
