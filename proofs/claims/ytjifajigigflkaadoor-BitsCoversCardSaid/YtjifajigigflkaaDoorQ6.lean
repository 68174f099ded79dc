/- Cover finds the least cover. -/
import Derived.Test.YtjifajigigflkaaDoorQ5
import Derived.Deep.Cut
import Derived.Laws.EntriesVeiled
/- What Cover's inner function computes, and what it leaves alone. -/
namespace Go.Proofs.YtjifajigigflkaaDoor
set_option linter.unusedSimpArgs false
set_option linter.unusedVariables false
open Go Go.RowKit Go.Shelf

/-- The least cover of R by the sets of ls from i on, f of them left. -/
def cov (ls : List Nat) : Nat → Nat → Nat → Option (List Nat)
  | 0, R, _ => if R = 0 then some [] else none
  | f + 1, R, i =>
    if R = 0 then some []
    else if ls.getD i 0 = 0 ∨ diff (ls.getD i 0) R ≠ 0 then cov ls f R (i + 1)
    else match cov ls f (diff R (ls.getD i 0)) (i + 1) with
      | some q => some (i :: q)
      | none => cov ls f R (i + 1)
theorem cov_zero (ls : List Nat) (f i : Nat) : cov ls f 0 i = some [] := by cases f <;> simp [cov]
theorem cov_end (ls : List Nat) (R i : Nat) (h : R ≠ 0) : cov ls 0 R i = none := by simp [cov, h]
theorem cov_skip {ls : List Nat} {f R i : Nat} (h : R ≠ 0) (hs : ls.getD i 0 = 0 ∨ diff (ls.getD i 0) R ≠ 0) : cov ls (f + 1) R i = cov ls f R (i + 1) := by rw [cov, if_neg h, if_pos hs]
theorem cov_take {ls : List Nat} {f R i : Nat} {q : List Nat} (h : R ≠ 0) (hs : ¬ (ls.getD i 0 = 0 ∨ diff (ls.getD i 0) R ≠ 0)) (hq : cov ls f (diff R (ls.getD i 0)) (i + 1) = some q) : cov ls (f + 1) R i = some (i :: q) := by rw [cov, if_neg h, if_neg hs, hq]
theorem cov_drop {ls : List Nat} {f R i : Nat} (h : R ≠ 0) (hs : ¬ (ls.getD i 0 = 0 ∨ diff (ls.getD i 0) R ≠ 0)) (hq : cov ls f (diff R (ls.getD i 0)) (i + 1) = none) : cov ls (f + 1) R i = cov ls f R (i + 1) := by rw [cov, if_neg h, if_neg hs, hq]
theorem cov_len {ls : List Nat} : ∀ {f R i : Nat} {q : List Nat}, cov ls f R i = some q → q.length ≤ f
  | 0, R, i, q, h => by
    simp only [cov] at h
    split at h
    · cases h; simp
    · cases h
  | f + 1, R, i, q, h => by
    simp only [cov] at h
    split at h
    · cases h; simp
    · split at h
      · have := cov_len h; omega
      · cases hc : cov ls f (diff R (ls.getD i 0)) (i + 1) with
        | some q' =>
          rw [hc] at h
          obtain rfl : i :: q' = q := by simpa using h
          have := cov_len hc
          simp; omega
        | none =>
          rw [hc] at h
          have := cov_len h; omega

/-- A block of cells of a type. -/
def HasT (w : World) (t : TypeId) (k : Nat) : Prop := ∃ cs m, w.heap[k]? = some (.cells cs t m)
theorem Blk.hasT {w : World} {b : Nat} {cs : Array Value} {t t' : TypeId} (h : Blk w b cs t) (ht : t ≠ t') : ¬ HasT w t' b := by
  rintro ⟨cs', m, h'⟩
  have h0 : w.heap[b]? = some (.cells cs t (0, 0)) := h
  rw [h0] at h'
  cases h'
  exact ht rfl
/-- From block B on, the blocks of type t may have turned, and block p; nothing else that was there. -/
def Fr (B : Nat) (t : TypeId) (p : Nat) (w w' : World) : Prop := But (fun k => k = p ∨ (B ≤ k ∧ HasT w t k)) w w'
theorem Fr.refl (B : Nat) (t : TypeId) (p : Nat) (w : World) : Fr B t p w w := But.refl _ _
theorem Fr.trans {B : Nat} {t : TypeId} {p : Nat} {a b c : World} (h : Fr B t p a b) (k : Fr B t p b c) : Fr B t p a c := by
  refine But.trans h k fun i hi hs => ?_
  rcases hs with hs | ⟨hB, cs, m, hb⟩
  · exact .inl hs
  · by_cases hip : i = p
    · exact .inl hip
    · by_cases ht : HasT a t i
      · exact .inr ⟨hB, ht⟩
      · have := But.block h i hi (fun h' => h'.elim hip fun h' => ht h'.2)
        rw [this] at hb
        exact absurd ⟨cs, m, hb⟩ ht
theorem Fr.of_below {B : Nat} {t : TypeId} {p : Nat} {w w' : World} (h : Below w.heap.size w w') : Fr B t p w w' := But.of_below h
theorem Fr.blk {B : Nat} {t t' : TypeId} {p : Nat} {w w' : World} {b : Nat} {cs : Array Value} (h : Fr B t p w w') (hB : Blk w b cs t') (hp : b ≠ p) (ht : t' ≠ t) : Blk w' b cs t' :=
  But.blk h hB fun hs => hs.elim hp fun hs => hB.hasT ht hs.2
theorem Fr.below {B : Nat} {t : TypeId} {p : Nat} {w w' : World} (h : Fr B t p w w') {n : Nat} (hn : n ≤ w.heap.size) (hB : n ≤ B) (hp : n ≤ p) : Below n w w' :=
  But.below h hn fun k hk hs => hs.elim (by omega) fun hs => by omega
theorem Fr.setP {B : Nat} {t : TypeId} {p : Nat} {w : World} (i : Nat) (u : Value) : Fr B t p w (w.setCell ⟨p, i, none⟩ u) := But.setCell (.inl rfl) u
theorem Fr.grown {B : Nat} {t : TypeId} {p : Nat} {w w' : World} {v : Value} {n : Nat} {xs : List Value} {size : Nat} (hr : w.ownsRow B t size v n xs) (hg : w.grownBy w' v.ownBlock) : Fr B t p w w' := by
  refine But.grown hg fun k hk => .inr ?_
  obtain ⟨_, h⟩ := hr
  rcases h with ⟨rfl, _⟩ | ⟨g, cap, cur, rfl, hgB, hb, _⟩
  · simp [Value.ownBlock] at hk
  · obtain rfl : g = k := by simpa [Value.ownBlock] using hk
    exact ⟨hgB, cur, _, hb⟩
/-- A row stays where no block of its type, and not p, is written. -/
theorem ownsRow_pop {W : World} {base : Nat} {e : TypeId} {v : Value} {k : Nat} {xs : List Value} {x : Value} (h : W.ownsRow base e 1 v (k + 1) (xs ++ [x])) :
    ∃ g cap, v = .slice (some ⟨g, 0, none⟩) (k + 1) cap ∧ k + 1 ≤ cap ∧ W.ownsRow base e 1 (.slice (some ⟨g, 0, none⟩) k cap) k xs := by
  obtain ⟨hl, h⟩ := h
  have hxs : xs.length = k := by simp at hl; omega
  rcases h with ⟨rfl, h0⟩ | ⟨g, cap, cur, rfl, hgB, hb, h1, h2, h3⟩
  · simp at h0
  · refine ⟨g, cap, rfl, h1, by omega, .inr ⟨g, cap, cur, rfl, hgB, hb, by omega, h2, h3.1, ?_⟩⟩
    have h4 := congrArg (List.take k) h3.2
    rw [List.take_take, show min k ((k + 1) * 1) = k * 1 by omega, List.take_left' hxs] at h4
    exact h4
theorem blk_grown {B : Nat} {e t : TypeId} {w w' : World} {v : Value} {n size : Nat} {xs : List Value} {b : Nat} {cs : Array Value} (hB : Blk w b cs t) (ht : t ≠ e) (hr : w.ownsRow B e size v n xs) (hg : w.grownBy w' v.ownBlock) : Blk w' b cs t := by
  refine (hg.block b hB.lt (fun h => ?_)).trans hB
  obtain ⟨_, hr⟩ := hr
  rcases hr with ⟨rfl, _⟩ | ⟨g, cap, cur, rfl, hgB, hb, _⟩
  · simp [Value.ownBlock] at h
  · obtain rfl : b = g := by simpa [Value.ownBlock] using h
    exact hB.hasT ht ⟨cur, _, hb⟩
theorem ownsRow_setCell {W : World} {base : Nat} {e : TypeId} {size : Nat} {v : Value} {k : Nat} {xs : List Value} (h : W.ownsRow base e size v k xs) {b : Nat} {cs : Array Value} {t : TypeId} (hb : Blk W b cs t) (ht : t ≠ e) (i : Nat) (u : Value) : (W.setCell ⟨b, i, none⟩ u).ownsRow base e size v k xs :=
  ⟨h.1, h.2.imp id fun ⟨g, cap, cur, h1, h2, h3, h4⟩ => ⟨g, cap, cur, h1, h2, by
    rw [Below.heap_setCell]
    · exact h3
    · intro e'
      have e'' : g = b := e'
      subst e''
      exact hb.hasT ht ⟨cur, _, h3⟩, h4⟩⟩
theorem Blk.newAt {W : World} {k : Nat} (h : W.heap.size = k) (cs : Array Value) (t : TypeId) : Blk (W.alloc (.cells cs t)) k cs t := h ▸ Blk.new W cs t
end Go.Proofs.YtjifajigigflkaaDoor
/- Package bits: Cover's inner function. -/
namespace Go.Proofs.YtjifajigigflkaaDoor
set_option linter.unusedSimpArgs false
set_option linter.unusedVariables false
open Go Go.RowKit Go.Shelf
attribute [local go_sem] equalIn_zero

/-- The cells of a slice of sets. -/
def SetCells (w : World) (a : Option Addr) (ls : List Nat) : Prop := ls = [] ∨ ∃ b o, a = some ⟨b, o, none⟩ ∧ ∀ i N, ls[i]? = some N → ∀ j, j < 4 → w.cell? ⟨b, o + i * 4 + j, none⟩ = some (.int .u64 (word N j))
/-- What Cover$1 finds: the box of l, its own, and the sets. -/
structure CvEnv (bl bp bc B : Nat) (a : Option Addr) (cap : Nat) (ls : List Nat) (w : World) : Prop where
  lb : Blk w bl #[.slice a ls.length cap] 54
  cb : Blk w bc #[.func (.func 74) #[] #[.pointer (some ⟨bl, 0, none⟩), .pointer (some ⟨bp, 0, none⟩), .pointer (some ⟨bc, 0, none⟩)]] 39
  sets : SetCells w a ls
  old : ∀ ad, a = some ad → ad.block < bl
  low : bl < B ∧ bp < B ∧ bc < B ∧ bl < bp ∧ bl ≠ bc ∧ bp ≠ bc
theorem SetCells.at {w : World} {a : Option Addr} {ls : List Nat} (h : SetCells w a ls) {i : Nat} (hi : i < ls.length) : ∃ b o, a = some ⟨b, o, none⟩ ∧ ∀ j, j < 4 → w.cell? ⟨b, o + i * 4 + j, none⟩ = some (.int .u64 (word ls[i] j)) := by
  rcases h with rfl | ⟨b, o, rfl, h⟩
  · simp at hi
  · exact ⟨b, o, rfl, h i _ (List.getElem?_eq_getElem hi)⟩
theorem CvEnv.fr {bl bp bc B : Nat} {a : Option Addr} {cap : Nat} {ls : List Nat} {w w' : World} (h : CvEnv bl bp bc B a cap ls w) (hf : Fr B 3 bp w w') : CvEnv bl bp bc B a cap ls w' where
  lb := hf.blk h.lb (by have := h.low; omega) (by decide)
  cb := hf.blk h.cb (by have := h.low; omega) (by decide)
  sets := by
    rcases h.sets with hs | ⟨b, o, rfl, hs⟩
    · exact .inl hs
    · refine .inr ⟨b, o, rfl, fun i N hi j hj => ?_⟩
      have h1 := hs i N hi j hj
      have hb := h.old _ rfl
      have hl := h.low
      have hlt := h.lb.lt
      rw [World.cell?_of_block (w := w)]
      · exact h1
      · exact hf.block b (by simp at hb; omega) (fun hs => hs.elim (by simp at hb; omega) fun hs => by simp at hb; omega)
  old := h.old
  low := h.low

set_option maxRecDepth 100000 in
set_option maxHeartbeats 6000000 in
theorem cover1_any (bl bp bc B : Nat) (a : Option Addr) (cap : Nat) (ls : List Nat) (hls : ∀ N ∈ ls, N < 2 ^ 256) (hlen : ls.length ≤ 16) :
    ∀ (f i R : Nat) (w : World) (v : Value) (ps : List Nat), i + f = ls.length → ps.length ≤ i → R < 2 ^ 256 → B ≤ w.heap.size → CvEnv bl bp bc B a cap ls w → Blk w bp #[v] 22 → w.ownsRow B 3 1 v ps.length (intsL ps) →
    Calls Tryd.prog 74 #[setV R, .int .i64 i, .pointer (some ⟨bl, 0, none⟩), .pointer (some ⟨bp, 0, none⟩), .pointer (some ⟨bc, 0, none⟩)] w fun e w' =>
      e = .returned (.bool (cov ls f R i).isSome) ∧ Fr B 3 bp w w' ∧ ∃ v', Blk w' bp #[v'] 22 ∧ w'.ownsRow B 3 1 v' (ps ++ (cov ls f R i).getD []).length (intsL (ps ++ (cov ls f R i).getD [])) := by
  intro f
  induction f using Nat.strongRecOn with
  | _ f ih =>
    intro i R w v ps hi hps hR hB henv hbp hrow
    by_cases hR0 : R = 0
    · have HQ : Hid (cov ls f R i = some []) := by rw [Hid, hR0, cov_zero]
      have he0 : eqS R 0 = true := by rw [eqS_zero hR]; simpa using hR0
      clear hR0
      go_enter Tryd.func74, Tryd.ntmps74
      simp only [setV]
      go_wp2_with fail
      go_ret
      refine ⟨by rw [HQ.out]; rfl, Fr.of_below (below_new1 _ _), v, hbp.alloc _, ?_⟩
      rw [HQ.out]
      simpa using hrow.alloc _
    · have HR0 := Lib.hid hR0
      have he0 : eqS R 0 = false := by rw [eqS_zero hR]; simpa using hR0
      clear hR0
      go_enter Tryd.func74, Tryd.ntmps74
      simp only [setV]
      go_wp2_with fail
      refine named (fun V => Blk V w.heap.size (setA R) 25 ∧ Fr B 3 bp w V ∧ Blk V bp #[v] 22 ∧ V.ownsRow B 3 1 v ps.length (intsL ps)) ⟨Blk.newW _ _ _, Fr.of_below (below_new1 _ _), hbp.alloc _, hrow.alloc _⟩ ?_
      rintro W ⟨hW1, hW2, hW3, hW4⟩
      have IH := Lib.hid ih
      clear ih
      go_loopw [8] (fun sv wr => ∃ (k : Nat) (v : Value), i ≤ k ∧ k ≤ ls.length ∧ sv = .int .i64 k ∧ cov ls f R i = cov ls (ls.length - k) R k ∧ Blk wr w.heap.size (setA R) 25 ∧ Fr B 3 bp w wr ∧ Blk wr bp #[v] 22 ∧ wr.ownsRow B 3 1 v ps.length (intsL ps)) (fun sv _ => ls.length - (intOf sv).toNat)
      case atStart => exact ⟨i, v, Nat.le_refl _, by omega, rfl, by rw [show ls.length - i = f by omega], hW1, hW2, hW3, hW4⟩
      case round =>
        clear hW1 hW2 hW3 hW4
        obtain ⟨k, v', hik, hk, rfl, hcov, hS, hF, hP, hO⟩ := hrel
        have HC := Lib.hid hcov
        have HS := Lib.hid hS
        have HF := Lib.hid hF
        have HP := Lib.hid hP
        have HO := Lib.hid hO
        have HE := Lib.hid (henv.fr hF)
        have HV := Lib.hid henv
        clear hcov hS hF hP hO henv hbp hrow
        obtain ⟨cl, fl⟩ := HE.out.lb.cell1
        by_cases hlt : k < ls.length
        · obtain ⟨b, o, rfl, hc⟩ := HE.out.sets.at hlt
          obtain ⟨x, hx⟩ : ∃ x, x = ls[k] := ⟨_, rfl⟩
          have HX : Hid (ls.getD k 0 = x) := by rw [Hid, hx]; simp [hlt]
          have HXL : Hid (x < 2 ^ 256) := by rw [Hid, hx]; exact hls _ (List.getElem_mem hlt)
          rw [← hx] at hc
          have c0 : wr.cell? ⟨b, o + k * 4, none⟩ = _ := hc 0 (by omega)
          have c1 := hc 1 (by omega)
          have c2 := hc 2 (by omega)
          have c3 := hc 3 (by omega)
          obtain ⟨r0, r1, r2, r3, rf⟩ := HS.out.set4
          have hb1 : bl < wr.heap.size := HE.out.lb.lt
          have hb2 : w.heap.size < wr.heap.size := HS.out.lt
          have hb3 : b < wr.heap.size := by have := HE.out.old _ rfl; simp at this; omega
          have hdr : wr.drew.heap.size = wr.heap.size := rfl
          clear hc hx
          by_cases hx0 : eqS x 0 = true
          · have HN : Hid (ls.getD k 0 = 0 ∨ diff (ls.getD k 0) R ≠ 0) := .inl (by rw [HX.out]; rw [eqS_zero HXL.out] at hx0; simpa using hx0)
            go_wp2_with fail
            refine wp_region_calm 15 53 [0, 1, 2, 3, 4, 5, 6, 7, 8, 9, 10, 11, 12, 13, 14] [] (fun _ => .bool false) (by kernel_rfl) (by kernel_rfl) (by kernel_rfl) (by kernel_rfl) (fun _ h => by cases h) (by rfl) ?_
            (refine calm_step rfl (by rfl) (by rfl) rfl (Nat.le_of_ble_eq_true rfl) ?_; apply Exists.intro; refine ⟨fun w1 hC K hK => ?_, ?_⟩; (next => (obtain ⟨hoc, hof⟩ := old_cells hC; have HC := Lib.hid hC; clear hC; go_wp2; all_goals (first | exact Below.refl _ _ | assumption | exact (Below.refl _ _).drew))); try simp only [Act.put, slotL_succ, slotL_zero, List.setIfInBounds_toArray, List.set_cons_zero, List.set_cons_succ])
            (refine calm_step rfl (by rfl) (by rfl) rfl (Nat.le_of_ble_eq_true rfl) ?_; apply Exists.intro; refine ⟨fun w1 hC K hK => ?_, ?_⟩; (next => (go_wp2; all_goals (first | exact Below.refl _ _ | assumption | exact (Below.refl _ _).drew))); try simp only [Act.put, slotL_succ, slotL_zero, List.setIfInBounds_toArray, List.set_cons_zero, List.set_cons_succ])
            (refine calm_step rfl (by rfl) (by rfl) rfl (Nat.le_of_ble_eq_true rfl) ?_; apply Exists.intro; refine ⟨fun w1 hC K hK => ?_, ?_⟩; (next => (go_wp2; all_goals (first | exact Below.refl _ _ | assumption | exact (Below.refl _ _).drew))); try simp only [Act.put, slotL_succ, slotL_zero, List.setIfInBounds_toArray, List.set_cons_zero, List.set_cons_succ])
            (refine calm_step rfl (by rfl) (by rfl) rfl (Nat.le_of_ble_eq_true rfl) ?_; apply Exists.intro; refine ⟨fun w1 hC K hK => ?_, ?_⟩; (next => (obtain ⟨hoc, hof⟩ := old_cells hC; have HC := Lib.hid hC; clear hC; go_wp2; all_goals (first | exact Below.refl _ _ | assumption | exact (Below.refl _ _).drew))); try simp only [Act.put, slotL_succ, slotL_zero, List.setIfInBounds_toArray, List.set_cons_zero, List.set_cons_succ])
            (refine calm_step rfl (by rfl) (by rfl) rfl (Nat.le_of_ble_eq_true rfl) ?_; apply Exists.intro; refine ⟨fun w1 hC K hK => ?_, ?_⟩; (next => (go_wp2; all_goals (first | exact Below.refl _ _ | assumption | exact (Below.refl _ _).drew))); try simp only [Act.put, slotL_succ, slotL_zero, List.setIfInBounds_toArray, List.set_cons_zero, List.set_cons_succ])
            (refine calm_step rfl (by rfl) (by rfl) rfl (Nat.le_of_ble_eq_true rfl) ?_; apply Exists.intro; refine ⟨fun w1 hC K hK => ?_, ?_⟩; (next => (go_wp2; all_goals (first | exact Below.refl _ _ | assumption | exact (Below.refl _ _).drew))); try simp only [Act.put, slotL_succ, slotL_zero, List.setIfInBounds_toArray, List.set_cons_zero, List.set_cons_succ])
            (refine calm_step rfl (by rfl) (by rfl) rfl (Nat.le_of_ble_eq_true rfl) ?_; apply Exists.intro; refine ⟨fun w1 hC K hK => ?_, ?_⟩; (next => (go_wp2; all_goals (first | exact Below.refl _ _ | assumption | exact (Below.refl _ _).drew))); try simp only [Act.put, slotL_succ, slotL_zero, List.setIfInBounds_toArray, List.set_cons_zero, List.set_cons_succ])
            first | (refine wpC_skip rfl (by rfl) rfl ?_; try simp only [Act.put, slotL_succ, slotL_zero, List.setIfInBounds_toArray, List.set_cons_zero, List.set_cons_succ]) | (refine calm_step rfl (by rfl) (by rfl) rfl (Nat.le_of_ble_eq_true rfl) ?_; apply Exists.intro; refine ⟨fun w1 hC K hK => ?_, ?_⟩; (next => (obtain ⟨hoc, hof⟩ := old_cells hC; have HC := Lib.hid hC; clear hC; go_wp2; all_goals (first | exact Below.refl _ _ | assumption | exact (Below.refl _ _).drew))); try simp only [Act.put, slotL_succ, slotL_zero, List.setIfInBounds_toArray, List.set_cons_zero, List.set_cons_succ])
            first | (refine wpC_skip rfl (by rfl) rfl ?_; try simp only [Act.put, slotL_succ, slotL_zero, List.setIfInBounds_toArray, List.set_cons_zero, List.set_cons_succ]) | (refine calm_step rfl (by rfl) (by rfl) rfl (Nat.le_of_ble_eq_true rfl) ?_; apply Exists.intro; refine ⟨fun w1 hC K hK => ?_, ?_⟩; (next => (go_wp2; all_goals (first | exact Below.refl _ _ | assumption | exact (Below.refl _ _).drew))); try simp only [Act.put, slotL_succ, slotL_zero, List.setIfInBounds_toArray, List.set_cons_zero, List.set_cons_succ])
            first | (refine wpC_skip rfl (by rfl) rfl ?_; try simp only [Act.put, slotL_succ, slotL_zero, List.setIfInBounds_toArray, List.set_cons_zero, List.set_cons_succ]) | (refine calm_step rfl (by rfl) (by rfl) rfl (Nat.le_of_ble_eq_true rfl) ?_; apply Exists.intro; refine ⟨fun w1 hC K hK => ?_, ?_⟩; (next => (go_wp2; all_goals (first | exact Below.refl _ _ | assumption | exact (Below.refl _ _).drew))); try simp only [Act.put, slotL_succ, slotL_zero, List.setIfInBounds_toArray, List.set_cons_zero, List.set_cons_succ])
            first | (refine wpC_skip rfl (by rfl) rfl ?_; try simp only [Act.put, slotL_succ, slotL_zero, List.setIfInBounds_toArray, List.set_cons_zero, List.set_cons_succ]) | (refine calm_step rfl (by rfl) (by rfl) rfl (Nat.le_of_ble_eq_true rfl) ?_; apply Exists.intro; refine ⟨fun w1 hC K hK => ?_, ?_⟩; (next => (obtain ⟨hoc, hof⟩ := old_cells hC; have HC := Lib.hid hC; clear hC; go_wp2; all_goals (first | exact Below.refl _ _ | assumption | exact (Below.refl _ _).drew))); try simp only [Act.put, slotL_succ, slotL_zero, List.setIfInBounds_toArray, List.set_cons_zero, List.set_cons_succ])
            first | (refine wpC_skip rfl (by rfl) rfl ?_; try simp only [Act.put, slotL_succ, slotL_zero, List.setIfInBounds_toArray, List.set_cons_zero, List.set_cons_succ]) | (refine calm_step rfl (by rfl) (by rfl) rfl (Nat.le_of_ble_eq_true rfl) ?_; apply Exists.intro; refine ⟨fun w1 hC K hK => ?_, ?_⟩; (next => (obtain ⟨hoc, hof⟩ := old_cells hC; have HC := Lib.hid hC; clear hC; go_wp2; all_goals (first | exact Below.refl _ _ | assumption | exact (Below.refl _ _).drew))); try simp only [Act.put, slotL_succ, slotL_zero, List.setIfInBounds_toArray, List.set_cons_zero, List.set_cons_succ])
            first | (refine wpC_skip rfl (by rfl) rfl ?_; try simp only [Act.put, slotL_succ, slotL_zero, List.setIfInBounds_toArray, List.set_cons_zero, List.set_cons_succ]) | (refine calm_step rfl (by rfl) (by rfl) rfl (Nat.le_of_ble_eq_true rfl) ?_; apply Exists.intro; refine ⟨fun w1 hC K hK => ?_, ?_⟩; (next => (obtain ⟨hoc, hof⟩ := old_cells hC; have HC := Lib.hid hC; clear hC; go_wp2_with (first | (go_at_call 39; refine (within_any _ _ _).mono ?_; rintro e w2 ⟨rfl, hb⟩)); all_goals (first | exact Below.refl _ _ | assumption | exact (Below.refl _ _).drew))); try simp only [Act.put, slotL_succ, slotL_zero, List.setIfInBounds_toArray, List.set_cons_zero, List.set_cons_succ])
            first | (refine wpC_skip rfl (by rfl) rfl ?_; try simp only [Act.put, slotL_succ, slotL_zero, List.setIfInBounds_toArray, List.set_cons_zero, List.set_cons_succ]) | (refine calm_step rfl (by rfl) (by rfl) rfl (Nat.le_of_ble_eq_true rfl) ?_; apply Exists.intro; refine ⟨fun w1 hC K hK => ?_, ?_⟩; (next => (go_wp2; all_goals (first | exact Below.refl _ _ | assumption | exact (Below.refl _ _).drew))); try simp only [Act.put, slotL_succ, slotL_zero, List.setIfInBounds_toArray, List.set_cons_zero, List.set_cons_succ])
            (refine calm_step rfl (by rfl) (by rfl) rfl (Nat.le_of_ble_eq_true rfl) ?_; apply Exists.intro; refine ⟨fun w1 hC K hK => ?_, ?_⟩; (next => (go_wp2; all_goals (first | exact Below.refl _ _ | assumption | exact (Below.refl _ _).drew))); try simp only [Act.put, slotL_succ, slotL_zero, List.setIfInBounds_toArray, List.set_cons_zero, List.set_cons_succ])
            refine wpC_nil ?_
            intro w1 hCw1 hNw1
            clear hNw1
            have hocw1 := (old_cells hCw1).1
            have hofw1 := (old_cells hCw1).2
            simp only [List.drop_succ_cons, List.drop_zero, List.drop_nil]
            have Hb := Lib.hid ((Below.refl _ wr).drew.trans hCw1)
            clear hocw1 hofw1 hCw1 c0 c1 c2 c3 r0 r1 r2 r3 rf hdr cl fl hx0
            go_wp2_with fail
            refine ⟨⟨k + 1, v', by omega, by omega, rfl, ?_, HS.out.below Hb.out hb2, HF.out.trans (Fr.of_below Hb.out), HP.out.below Hb.out HP.out.lt, ownsRow_below HO.out Hb.out⟩, by simp [intOf]; omega⟩
            rw [HC.out, show ls.length - k = (ls.length - (k + 1)) + 1 by omega, cov_skip HR0.out HN.out]
          · have hx0' : eqS x 0 = false := by simpa using hx0
            have HX0 : Hid (¬ x = 0) := by rw [eqS_zero HXL.out] at hx0'; show ¬ x = 0; simpa using hx0'
            clear hx0
            by_cases hw0 : eqS (diff x R) 0 = true
            · have HT : Hid (¬ (ls.getD k 0 = 0 ∨ diff (ls.getD k 0) R ≠ 0)) := by
                rw [Hid, HX.out]; rw [eqS_zero (diff_lt HXL.out)] at hw0
                have hw0' : diff x R = 0 := by simpa using hw0
                rintro (h | h)
                · exact HX0.out h
                · exact h hw0'
              go_wp2_with fail
              refine wp_region_calm 15 53 [0, 1, 2, 3, 4, 5, 6, 7, 8, 9, 10, 11, 12, 13, 14] [] (fun _ => .bool false) (by kernel_rfl) (by kernel_rfl) (by kernel_rfl) (by kernel_rfl) (fun _ h => by cases h) (by rfl) ?_
              (refine calm_step rfl (by rfl) (by rfl) rfl (Nat.le_of_ble_eq_true rfl) ?_; apply Exists.intro; refine ⟨fun w1 hC K hK => ?_, ?_⟩; (next => (obtain ⟨hoc, hof⟩ := old_cells hC; have HC := Lib.hid hC; clear hC; go_wp2; all_goals (first | exact Below.refl _ _ | assumption | exact (Below.refl _ _).drew))); try simp only [Act.put, slotL_succ, slotL_zero, List.setIfInBounds_toArray, List.set_cons_zero, List.set_cons_succ])
              (refine calm_step rfl (by rfl) (by rfl) rfl (Nat.le_of_ble_eq_true rfl) ?_; apply Exists.intro; refine ⟨fun w1 hC K hK => ?_, ?_⟩; (next => (go_wp2; all_goals (first | exact Below.refl _ _ | assumption | exact (Below.refl _ _).drew))); try simp only [Act.put, slotL_succ, slotL_zero, List.setIfInBounds_toArray, List.set_cons_zero, List.set_cons_succ])
              (refine calm_step rfl (by rfl) (by rfl) rfl (Nat.le_of_ble_eq_true rfl) ?_; apply Exists.intro; refine ⟨fun w1 hC K hK => ?_, ?_⟩; (next => (go_wp2; all_goals (first | exact Below.refl _ _ | assumption | exact (Below.refl _ _).drew))); try simp only [Act.put, slotL_succ, slotL_zero, List.setIfInBounds_toArray, List.set_cons_zero, List.set_cons_succ])
              (refine calm_step rfl (by rfl) (by rfl) rfl (Nat.le_of_ble_eq_true rfl) ?_; apply Exists.intro; refine ⟨fun w1 hC K hK => ?_, ?_⟩; (next => (obtain ⟨hoc, hof⟩ := old_cells hC; have HC := Lib.hid hC; clear hC; go_wp2; all_goals (first | exact Below.refl _ _ | assumption | exact (Below.refl _ _).drew))); try simp only [Act.put, slotL_succ, slotL_zero, List.setIfInBounds_toArray, List.set_cons_zero, List.set_cons_succ])
              (refine calm_step rfl (by rfl) (by rfl) rfl (Nat.le_of_ble_eq_true rfl) ?_; apply Exists.intro; refine ⟨fun w1 hC K hK => ?_, ?_⟩; (next => (go_wp2; all_goals (first | exact Below.refl _ _ | assumption | exact (Below.refl _ _).drew))); try simp only [Act.put, slotL_succ, slotL_zero, List.setIfInBounds_toArray, List.set_cons_zero, List.set_cons_succ])
              (refine calm_step rfl (by rfl) (by rfl) rfl (Nat.le_of_ble_eq_true rfl) ?_; apply Exists.intro; refine ⟨fun w1 hC K hK => ?_, ?_⟩; (next => (go_wp2; all_goals (first | exact Below.refl _ _ | assumption | exact (Below.refl _ _).drew))); try simp only [Act.put, slotL_succ, slotL_zero, List.setIfInBounds_toArray, List.set_cons_zero, List.set_cons_succ])
              (refine calm_step rfl (by rfl) (by rfl) rfl (Nat.le_of_ble_eq_true rfl) ?_; apply Exists.intro; refine ⟨fun w1 hC K hK => ?_, ?_⟩; (next => (go_wp2; all_goals (first | exact Below.refl _ _ | assumption | exact (Below.refl _ _).drew))); try simp only [Act.put, slotL_succ, slotL_zero, List.setIfInBounds_toArray, List.set_cons_zero, List.set_cons_succ])
              first | (refine wpC_skip rfl (by rfl) rfl ?_; try simp only [Act.put, slotL_succ, slotL_zero, List.setIfInBounds_toArray, List.set_cons_zero, List.set_cons_succ]) | (refine calm_step rfl (by rfl) (by rfl) rfl (Nat.le_of_ble_eq_true rfl) ?_; apply Exists.intro; refine ⟨fun w1 hC K hK => ?_, ?_⟩; (next => (obtain ⟨hoc, hof⟩ := old_cells hC; have HC := Lib.hid hC; clear hC; go_wp2; all_goals (first | exact Below.refl _ _ | assumption | exact (Below.refl _ _).drew))); try simp only [Act.put, slotL_succ, slotL_zero, List.setIfInBounds_toArray, List.set_cons_zero, List.set_cons_succ])
              first | (refine wpC_skip rfl (by rfl) rfl ?_; try simp only [Act.put, slotL_succ, slotL_zero, List.setIfInBounds_toArray, List.set_cons_zero, List.set_cons_succ]) | (refine calm_step rfl (by rfl) (by rfl) rfl (Nat.le_of_ble_eq_true rfl) ?_; apply Exists.intro; refine ⟨fun w1 hC K hK => ?_, ?_⟩; (next => (go_wp2; all_goals (first | exact Below.refl _ _ | assumption | exact (Below.refl _ _).drew))); try simp only [Act.put, slotL_succ, slotL_zero, List.setIfInBounds_toArray, List.set_cons_zero, List.set_cons_succ])
              first | (refine wpC_skip rfl (by rfl) rfl ?_; try simp only [Act.put, slotL_succ, slotL_zero, List.setIfInBounds_toArray, List.set_cons_zero, List.set_cons_succ]) | (refine calm_step rfl (by rfl) (by rfl) rfl (Nat.le_of_ble_eq_true rfl) ?_; apply Exists.intro; refine ⟨fun w1 hC K hK => ?_, ?_⟩; (next => (go_wp2; all_goals (first | exact Below.refl _ _ | assumption | exact (Below.refl _ _).drew))); try simp only [Act.put, slotL_succ, slotL_zero, List.setIfInBounds_toArray, List.set_cons_zero, List.set_cons_succ])
              first | (refine wpC_skip rfl (by rfl) rfl ?_; try simp only [Act.put, slotL_succ, slotL_zero, List.setIfInBounds_toArray, List.set_cons_zero, List.set_cons_succ]) | (refine calm_step rfl (by rfl) (by rfl) rfl (Nat.le_of_ble_eq_true rfl) ?_; apply Exists.intro; refine ⟨fun w1 hC K hK => ?_, ?_⟩; (next => (obtain ⟨hoc, hof⟩ := old_cells hC; have HC := Lib.hid hC; clear hC; go_wp2; all_goals (first | exact Below.refl _ _ | assumption | exact (Below.refl _ _).drew))); try simp only [Act.put, slotL_succ, slotL_zero, List.setIfInBounds_toArray, List.set_cons_zero, List.set_cons_succ])
              first | (refine wpC_skip rfl (by rfl) rfl ?_; try simp only [Act.put, slotL_succ, slotL_zero, List.setIfInBounds_toArray, List.set_cons_zero, List.set_cons_succ]) | (refine calm_step rfl (by rfl) (by rfl) rfl (Nat.le_of_ble_eq_true rfl) ?_; apply Exists.intro; refine ⟨fun w1 hC K hK => ?_, ?_⟩; (next => (obtain ⟨hoc, hof⟩ := old_cells hC; have HC := Lib.hid hC; clear hC; go_wp2; all_goals (first | exact Below.refl _ _ | assumption | exact (Below.refl _ _).drew))); try simp only [Act.put, slotL_succ, slotL_zero, List.setIfInBounds_toArray, List.set_cons_zero, List.set_cons_succ])
              first | (refine wpC_skip rfl (by rfl) rfl ?_; try simp only [Act.put, slotL_succ, slotL_zero, List.setIfInBounds_toArray, List.set_cons_zero, List.set_cons_succ]) | (refine calm_step rfl (by rfl) (by rfl) rfl (Nat.le_of_ble_eq_true rfl) ?_; apply Exists.intro; refine ⟨fun w1 hC K hK => ?_, ?_⟩; (next => (obtain ⟨hoc, hof⟩ := old_cells hC; have HC := Lib.hid hC; clear hC; go_wp2_with (first | (go_at_call 39; refine (within_any _ _ _).mono ?_; rintro e w2 ⟨rfl, hb⟩)); all_goals (first | exact Below.refl _ _ | assumption | exact (Below.refl _ _).drew))); try simp only [Act.put, slotL_succ, slotL_zero, List.setIfInBounds_toArray, List.set_cons_zero, List.set_cons_succ])
              first | (refine wpC_skip rfl (by rfl) rfl ?_; try simp only [Act.put, slotL_succ, slotL_zero, List.setIfInBounds_toArray, List.set_cons_zero, List.set_cons_succ]) | (refine calm_step rfl (by rfl) (by rfl) rfl (Nat.le_of_ble_eq_true rfl) ?_; apply Exists.intro; refine ⟨fun w1 hC K hK => ?_, ?_⟩; (next => (go_wp2; all_goals (first | exact Below.refl _ _ | assumption | exact (Below.refl _ _).drew))); try simp only [Act.put, slotL_succ, slotL_zero, List.setIfInBounds_toArray, List.set_cons_zero, List.set_cons_succ])
              (refine calm_step rfl (by rfl) (by rfl) rfl (Nat.le_of_ble_eq_true rfl) ?_; apply Exists.intro; refine ⟨fun w1 hC K hK => ?_, ?_⟩; (next => (go_wp2; all_goals (first | exact Below.refl _ _ | assumption | exact (Below.refl _ _).drew))); try simp only [Act.put, slotL_succ, slotL_zero, List.setIfInBounds_toArray, List.set_cons_zero, List.set_cons_succ])
              refine wpC_nil ?_
              intro w1 hCw1 hNw1
              clear hNw1
              have hocw1 := (old_cells hCw1).1
              have hofw1 := (old_cells hCw1).2
              simp only [List.drop_succ_cons, List.drop_zero, List.drop_nil]
              have Hb := Lib.hid ((Below.refl _ wr).drew.trans hCw1)
              clear hocw1 hofw1 hCw1 c0 c1 c2 c3 r0 r1 r2 r3 rf hdr cl fl hx0' hw0
              have HS1 := Lib.hid (HS.out.below Hb.out hb2)
              have HF1 := Lib.hid (HF.out.trans (Fr.of_below Hb.out))
              have HP1 := Lib.hid (HP.out.below Hb.out HP.out.lt)
              have HO1 := Lib.hid (ownsRow_below HO.out Hb.out)
              have HE1 := Lib.hid (HV.out.fr HF1.out)
              obtain ⟨cp, fp⟩ := HP1.out.cell1
              have hml : ps.length < 16 := by omega
              obtain ⟨i0, hi0, hz0, hz1, hz2⟩ := info_parts infoInt
              have hbpb0 : bp ≠ w.heap.size := by have := HV.out.low; omega
              go_wp2_with (first | (at_builtin; refine wpList_append_own _ rfl _ _ 22 rfl B 3 i0 (.int .i64 0) 1 8 Tryd.underlying22 hi0 hz0 hz1 hz2 rfl (by decide) v' ps.length (intsL ps) rfl (HO1.out.alloc _) ⟨w1.heap.size, 0, none⟩ 1 1 [.int .i64 (k : Int)] rfl rfl (cell_one_new _ _ _) (by simp [Value.oneCell']) (by simp only [maxLen]; omega) (by omega) (by have := Hb.out.size; have := HF.out.size; simp; omega) ?_; intro v2 w2 hown' hgrow _; obtain ⟨g2, cap2, rfl⟩ := ownsRow_succ hown'; clear cp fp; have HO2 := Lib.hid hown'; have HS2 := Lib.hid (blk_grown (HS1.out.alloc _) (by decide) (HO1.out.alloc _) hgrow); have HP2 := Lib.hid (blk_grown (HP1.out.alloc _) (by decide) (HO1.out.alloc _) hgrow); have HF2 := Lib.hid ((HF1.out.trans (Fr.of_below (below_new1 _ _))).trans (Fr.grown (HO1.out.alloc _) hgrow)); clear hown' hgrow; obtain ⟨cp, fp⟩ := HP2.out.cell1))
              refine named (fun V => Blk V bp #[.slice (some ⟨g2, 0, none⟩) (ps.length + 1) cap2] 22 ∧ Fr B 3 bp w V ∧ Blk V w.heap.size (setA R) 25 ∧ V.ownsRow B 3 1 (.slice (some ⟨g2, 0, none⟩) (ps.length + 1) cap2) (ps.length + 1) (intsL (ps ++ [k]))) ⟨HP2.out.put1 _, HF2.out.trans (Fr.setP _ _), HS2.out.other _ _ (Ne.symm hbpb0), ownsRow_setCell (by rw [intsL_snoc]; exact HO2.out) HP2.out (by decide) _ _⟩ ?_
              rintro W3 ⟨hP3, hF3, hS3, hO3⟩
              have HE3 := Lib.hid (HV.out.fr hF3)
              have HP3 := Lib.hid hP3
              have HF3 := Lib.hid hF3
              have HS3 := Lib.hid hS3
              have HO3 := Lib.hid hO3
              obtain ⟨_, _, e3, hc⟩ := HE3.out.sets.at hlt
              obtain ⟨rfl, rfl⟩ : b = _ ∧ o = _ := by simpa using e3
              clear cp fp HS2 HP2 HF2 HO2 HS1 HP1 HF1 HO1 HE1 hP3 hF3 hS3 hO3 hi0 hz0 hz1 hz2 e3
              have ex : ls[k] = x := by have := HX.out; simpa [hlt] using this
              rw [ex] at hc
              have c0 : W3.cell? ⟨b, o + k * 4, none⟩ = _ := hc 0 (by omega)
              have c1 := hc 1 (by omega)
              have c2 := hc 2 (by omega)
              have c3 := hc 3 (by omega)
              obtain ⟨r0, r1, r2, r3, rf⟩ := HS3.out.set4
              obtain ⟨cl, fl⟩ := HE3.out.lb.cell1
              obtain ⟨cb, fb⟩ := HE3.out.cb.cell1
              have hb4 : bl < W3.heap.size := HE3.out.lb.lt
              have hb5 : w.heap.size < W3.heap.size := HS3.out.lt
              have hb6 : b < W3.heap.size := by have := HE3.out.old _ rfl; simp at this; omega
              have hb7 : bc < W3.heap.size := HE3.out.cb.lt
              have hdr : W3.drew.heap.size = W3.heap.size := rfl
              clear hc ex
              refine wp_region_calm 9 53 [0, 1, 2, 3, 4, 5, 6, 7, 8] [] (fun _ => .bool false) (by kernel_rfl) (by kernel_rfl) (by kernel_rfl) (by kernel_rfl) (fun _ h => by cases h) (by rfl) ?_
              (refine calm_step rfl (by rfl) (by rfl) rfl (Nat.le_of_ble_eq_true rfl) ?_; apply Exists.intro; refine ⟨fun w1 hC K hK => ?_, ?_⟩; (next => (obtain ⟨hoc, hof⟩ := old_cells hC; have HC := Lib.hid hC; clear hC; go_wp2; all_goals (first | exact Below.refl _ _ | assumption | exact (Below.refl _ _).drew))); try simp only [Act.put, slotL_succ, slotL_zero, List.setIfInBounds_toArray, List.set_cons_zero, List.set_cons_succ])
              (refine calm_step rfl (by rfl) (by rfl) rfl (Nat.le_of_ble_eq_true rfl) ?_; apply Exists.intro; refine ⟨fun w1 hC K hK => ?_, ?_⟩; (next => (obtain ⟨hoc, hof⟩ := old_cells hC; have HC := Lib.hid hC; clear hC; go_wp2; all_goals (first | exact Below.refl _ _ | assumption | exact (Below.refl _ _).drew))); try simp only [Act.put, slotL_succ, slotL_zero, List.setIfInBounds_toArray, List.set_cons_zero, List.set_cons_succ])
              (refine calm_step rfl (by rfl) (by rfl) rfl (Nat.le_of_ble_eq_true rfl) ?_; apply Exists.intro; refine ⟨fun w1 hC K hK => ?_, ?_⟩; (next => (obtain ⟨hoc, hof⟩ := old_cells hC; have HC := Lib.hid hC; clear hC; go_wp2; all_goals (first | exact Below.refl _ _ | assumption | exact (Below.refl _ _).drew))); try simp only [Act.put, slotL_succ, slotL_zero, List.setIfInBounds_toArray, List.set_cons_zero, List.set_cons_succ])
              (refine calm_step rfl (by rfl) (by rfl) rfl (Nat.le_of_ble_eq_true rfl) ?_; apply Exists.intro; refine ⟨fun w1 hC K hK => ?_, ?_⟩; (next => (go_wp2; all_goals (first | exact Below.refl _ _ | assumption | exact (Below.refl _ _).drew))); try simp only [Act.put, slotL_succ, slotL_zero, List.setIfInBounds_toArray, List.set_cons_zero, List.set_cons_succ])
              (refine calm_step rfl (by rfl) (by rfl) rfl (Nat.le_of_ble_eq_true rfl) ?_; apply Exists.intro; refine ⟨fun w1 hC K hK => ?_, ?_⟩; (next => (go_wp2; all_goals (first | exact Below.refl _ _ | assumption | exact (Below.refl _ _).drew))); try simp only [Act.put, slotL_succ, slotL_zero, List.setIfInBounds_toArray, List.set_cons_zero, List.set_cons_succ])
              (refine calm_step rfl (by rfl) (by rfl) rfl (Nat.le_of_ble_eq_true rfl) ?_; apply Exists.intro; refine ⟨fun w1 hC K hK => ?_, ?_⟩; (next => (obtain ⟨hoc, hof⟩ := old_cells hC; have HC := Lib.hid hC; clear hC; go_wp2; all_goals (first | exact Below.refl _ _ | assumption | exact (Below.refl _ _).drew))); try simp only [Act.put, slotL_succ, slotL_zero, List.setIfInBounds_toArray, List.set_cons_zero, List.set_cons_succ])
              (refine calm_step rfl (by rfl) (by rfl) rfl (Nat.le_of_ble_eq_true rfl) ?_; apply Exists.intro; refine ⟨fun w1 hC K hK => ?_, ?_⟩; (next => (obtain ⟨hoc, hof⟩ := old_cells hC; have HC := Lib.hid hC; clear hC; go_wp2_with (first | (go_at_call 35; refine (minus_any _ _ _).mono ?_; rintro e w2 ⟨rfl, hb⟩)); all_goals (first | exact Below.refl _ _ | assumption | exact (Below.refl _ _).drew))); try simp only [Act.put, slotL_succ, slotL_zero, List.setIfInBounds_toArray, List.set_cons_zero, List.set_cons_succ])
              (refine calm_step rfl (by rfl) (by rfl) rfl (Nat.le_of_ble_eq_true rfl) ?_; apply Exists.intro; refine ⟨fun w1 hC K hK => ?_, ?_⟩; (next => (go_wp2; all_goals (first | exact Below.refl _ _ | assumption | exact (Below.refl _ _).drew))); try simp only [Act.put, slotL_succ, slotL_zero, List.setIfInBounds_toArray, List.set_cons_zero, List.set_cons_succ])
              (refine calm_step rfl (by rfl) (by rfl) rfl (Nat.le_of_ble_eq_true rfl) ?_; apply Exists.intro; refine ⟨fun w1 hC K hK => ?_, ?_⟩; (next => (go_wp2; all_goals (first | exact Below.refl _ _ | assumption | exact (Below.refl _ _).drew))); try simp only [Act.put, slotL_succ, slotL_zero, List.setIfInBounds_toArray, List.set_cons_zero, List.set_cons_succ])
              refine wpC_nil ?_
              intro W4 hCW4 hNW4
              clear hNW4
              have hocW4 := (old_cells hCW4).1
              have hofW4 := (old_cells hCW4).2
              simp only [List.drop_succ_cons, List.drop_zero, List.drop_nil]
              clear hocW4 hofW4
              have Hb4 := Lib.hid ((Below.refl _ W3).drew.trans hCW4)
              have HP4 := Lib.hid (HP3.out.below Hb4.out HP3.out.lt)
              have HO4 := Lib.hid (ownsRow_below HO3.out Hb4.out)
              have HF4 := Lib.hid (HF3.out.trans (Fr.of_below Hb4.out))
              have HE4 := Lib.hid (HV.out.fr HF4.out)
              have HS4 := Lib.hid (HS3.out.below Hb4.out hb5)
              clear HP3 HO3 HF3 HE3 HS3 hCW4 c0 c1 c2 c3 r0 r1 r2 r3 rf cl fl cb fb hdr hb4 hb5 hb6 hb7 hb1 hb2 hb3 Hb
              have hcall := IH.out (ls.length - (k + 1)) (by omega) (k + 1) (diff R x) W4 _ (ps ++ [k]) (by omega) (by simp; omega) (diff_lt hR) (Nat.le_trans hB HF4.out.size) HE4.out HP4.out (by simpa using HO4.out)
              rw [show ((k + 1 : Nat) : Int) = (k : Int) + 1 from rfl] at hcall
              cases hq : cov ls (ls.length - (k + 1)) (diff R x) (k + 1) with
              | some q =>
                have HQ : Hid (cov ls f R i = some (k :: q)) := by
                  rw [Hid, HC.out, show ls.length - k = (ls.length - (k + 1)) + 1 by omega]
                  exact cov_take HR0.out HT.out (by rw [HX.out]; exact hq)
                rw [hq] at hcall
                have HCALL := Lib.hid hcall
                clear hcall hq
                go_wp2_with (refine HCALL.out.mono ?_; rintro e w5 ⟨rfl, hF5, v5, hP5, hO5⟩)
                go_ret
                refine ⟨by rw [HQ.out]; rfl, HF4.out.trans hF5, v5, hP5, ?_⟩
                rw [HQ.out]
                simpa using hO5
              | none =>
                have HQ : Hid (cov ls f R i = cov ls (ls.length - (k + 1)) R (k + 1)) := by
                  rw [Hid, HC.out, show ls.length - k = (ls.length - (k + 1)) + 1 by omega]
                  exact cov_drop HR0.out HT.out (by rw [HX.out]; exact hq)
                rw [hq] at hcall
                have HCALL := Lib.hid hcall
                clear hcall hq
                go_wp2_with (refine HCALL.out.mono ?_; rintro e w5 ⟨rfl, hF5, v5, hP5, hO5⟩; simp only [Option.getD_none, List.append_nil, List.length_append, List.length_singleton, intsL_snoc] at hO5; obtain ⟨g5, cap5, rfl, hcap5, hO6⟩ := ownsRow_pop hO5; have HP5 := Lib.hid hP5; have HO6 := Lib.hid hO6; have HO5 := Lib.hid hO5; have HF5 := Lib.hid hF5; clear hP5 hO5 hO6 hF5; obtain ⟨cp, fp⟩ := HP5.out.cell1)
                refine ⟨⟨k + 1, _, by omega, by omega, rfl, HQ.out, (HF5.out.blk HS4.out (Ne.symm hbpb0) (by decide)).other _ _ (Ne.symm hbpb0), (HF4.out.trans HF5.out).trans (Fr.setP _ _), HP5.out.put1 _, ownsRow_setCell HO6.out HP5.out (by decide) _ _⟩, by simp [intOf]; omega⟩
            · have hw1 : eqS (diff x R) 0 = false := by simpa using hw0
              have HN : Hid (ls.getD k 0 = 0 ∨ diff (ls.getD k 0) R ≠ 0) := .inr (by rw [HX.out]; rw [eqS_zero (diff_lt HXL.out)] at hw1; simpa using hw1)
              clear hw0
              go_wp2_with fail
              refine wp_region_calm 15 53 [0, 1, 2, 3, 4, 5, 6, 7, 8, 9, 10, 11, 12, 13, 14] [] (fun _ => .bool false) (by kernel_rfl) (by kernel_rfl) (by kernel_rfl) (by kernel_rfl) (fun _ h => by cases h) (by rfl) ?_
              (refine calm_step rfl (by rfl) (by rfl) rfl (Nat.le_of_ble_eq_true rfl) ?_; apply Exists.intro; refine ⟨fun w1 hC K hK => ?_, ?_⟩; (next => (obtain ⟨hoc, hof⟩ := old_cells hC; have HC := Lib.hid hC; clear hC; go_wp2; all_goals (first | exact Below.refl _ _ | assumption | exact (Below.refl _ _).drew))); try simp only [Act.put, slotL_succ, slotL_zero, List.setIfInBounds_toArray, List.set_cons_zero, List.set_cons_succ])
              (refine calm_step rfl (by rfl) (by rfl) rfl (Nat.le_of_ble_eq_true rfl) ?_; apply Exists.intro; refine ⟨fun w1 hC K hK => ?_, ?_⟩; (next => (go_wp2; all_goals (first | exact Below.refl _ _ | assumption | exact (Below.refl _ _).drew))); try simp only [Act.put, slotL_succ, slotL_zero, List.setIfInBounds_toArray, List.set_cons_zero, List.set_cons_succ])
              (refine calm_step rfl (by rfl) (by rfl) rfl (Nat.le_of_ble_eq_true rfl) ?_; apply Exists.intro; refine ⟨fun w1 hC K hK => ?_, ?_⟩; (next => (go_wp2; all_goals (first | exact Below.refl _ _ | assumption | exact (Below.refl _ _).drew))); try simp only [Act.put, slotL_succ, slotL_zero, List.setIfInBounds_toArray, List.set_cons_zero, List.set_cons_succ])
              (refine calm_step rfl (by rfl) (by rfl) rfl (Nat.le_of_ble_eq_true rfl) ?_; apply Exists.intro; refine ⟨fun w1 hC K hK => ?_, ?_⟩; (next => (obtain ⟨hoc, hof⟩ := old_cells hC; have HC := Lib.hid hC; clear hC; go_wp2; all_goals (first | exact Below.refl _ _ | assumption | exact (Below.refl _ _).drew))); try simp only [Act.put, slotL_succ, slotL_zero, List.setIfInBounds_toArray, List.set_cons_zero, List.set_cons_succ])
              (refine calm_step rfl (by rfl) (by rfl) rfl (Nat.le_of_ble_eq_true rfl) ?_; apply Exists.intro; refine ⟨fun w1 hC K hK => ?_, ?_⟩; (next => (go_wp2; all_goals (first | exact Below.refl _ _ | assumption | exact (Below.refl _ _).drew))); try simp only [Act.put, slotL_succ, slotL_zero, List.setIfInBounds_toArray, List.set_cons_zero, List.set_cons_succ])
              (refine calm_step rfl (by rfl) (by rfl) rfl (Nat.le_of_ble_eq_true rfl) ?_; apply Exists.intro; refine ⟨fun w1 hC K hK => ?_, ?_⟩; (next => (go_wp2; all_goals (first | exact Below.refl _ _ | assumption | exact (Below.refl _ _).drew))); try simp only [Act.put, slotL_succ, slotL_zero, List.setIfInBounds_toArray, List.set_cons_zero, List.set_cons_succ])
              (refine calm_step rfl (by rfl) (by rfl) rfl (Nat.le_of_ble_eq_true rfl) ?_; apply Exists.intro; refine ⟨fun w1 hC K hK => ?_, ?_⟩; (next => (go_wp2; all_goals (first | exact Below.refl _ _ | assumption | exact (Below.refl _ _).drew))); try simp only [Act.put, slotL_succ, slotL_zero, List.setIfInBounds_toArray, List.set_cons_zero, List.set_cons_succ])
              first | (refine wpC_skip rfl (by rfl) rfl ?_; try simp only [Act.put, slotL_succ, slotL_zero, List.setIfInBounds_toArray, List.set_cons_zero, List.set_cons_succ]) | (refine calm_step rfl (by rfl) (by rfl) rfl (Nat.le_of_ble_eq_true rfl) ?_; apply Exists.intro; refine ⟨fun w1 hC K hK => ?_, ?_⟩; (next => (obtain ⟨hoc, hof⟩ := old_cells hC; have HC := Lib.hid hC; clear hC; go_wp2; all_goals (first | exact Below.refl _ _ | assumption | exact (Below.refl _ _).drew))); try simp only [Act.put, slotL_succ, slotL_zero, List.setIfInBounds_toArray, List.set_cons_zero, List.set_cons_succ])
              first | (refine wpC_skip rfl (by rfl) rfl ?_; try simp only [Act.put, slotL_succ, slotL_zero, List.setIfInBounds_toArray, List.set_cons_zero, List.set_cons_succ]) | (refine calm_step rfl (by rfl) (by rfl) rfl (Nat.le_of_ble_eq_true rfl) ?_; apply Exists.intro; refine ⟨fun w1 hC K hK => ?_, ?_⟩; (next => (go_wp2; all_goals (first | exact Below.refl _ _ | assumption | exact (Below.refl _ _).drew))); try simp only [Act.put, slotL_succ, slotL_zero, List.setIfInBounds_toArray, List.set_cons_zero, List.set_cons_succ])
              first | (refine wpC_skip rfl (by rfl) rfl ?_; try simp only [Act.put, slotL_succ, slotL_zero, List.setIfInBounds_toArray, List.set_cons_zero, List.set_cons_succ]) | (refine calm_step rfl (by rfl) (by rfl) rfl (Nat.le_of_ble_eq_true rfl) ?_; apply Exists.intro; refine ⟨fun w1 hC K hK => ?_, ?_⟩; (next => (go_wp2; all_goals (first | exact Below.refl _ _ | assumption | exact (Below.refl _ _).drew))); try simp only [Act.put, slotL_succ, slotL_zero, List.setIfInBounds_toArray, List.set_cons_zero, List.set_cons_succ])
              first | (refine wpC_skip rfl (by rfl) rfl ?_; try simp only [Act.put, slotL_succ, slotL_zero, List.setIfInBounds_toArray, List.set_cons_zero, List.set_cons_succ]) | (refine calm_step rfl (by rfl) (by rfl) rfl (Nat.le_of_ble_eq_true rfl) ?_; apply Exists.intro; refine ⟨fun w1 hC K hK => ?_, ?_⟩; (next => (obtain ⟨hoc, hof⟩ := old_cells hC; have HC := Lib.hid hC; clear hC; go_wp2; all_goals (first | exact Below.refl _ _ | assumption | exact (Below.refl _ _).drew))); try simp only [Act.put, slotL_succ, slotL_zero, List.setIfInBounds_toArray, List.set_cons_zero, List.set_cons_succ])
              first | (refine wpC_skip rfl (by rfl) rfl ?_; try simp only [Act.put, slotL_succ, slotL_zero, List.setIfInBounds_toArray, List.set_cons_zero, List.set_cons_succ]) | (refine calm_step rfl (by rfl) (by rfl) rfl (Nat.le_of_ble_eq_true rfl) ?_; apply Exists.intro; refine ⟨fun w1 hC K hK => ?_, ?_⟩; (next => (obtain ⟨hoc, hof⟩ := old_cells hC; have HC := Lib.hid hC; clear hC; go_wp2; all_goals (first | exact Below.refl _ _ | assumption | exact (Below.refl _ _).drew))); try simp only [Act.put, slotL_succ, slotL_zero, List.setIfInBounds_toArray, List.set_cons_zero, List.set_cons_succ])
              first | (refine wpC_skip rfl (by rfl) rfl ?_; try simp only [Act.put, slotL_succ, slotL_zero, List.setIfInBounds_toArray, List.set_cons_zero, List.set_cons_succ]) | (refine calm_step rfl (by rfl) (by rfl) rfl (Nat.le_of_ble_eq_true rfl) ?_; apply Exists.intro; refine ⟨fun w1 hC K hK => ?_, ?_⟩; (next => (obtain ⟨hoc, hof⟩ := old_cells hC; have HC := Lib.hid hC; clear hC; go_wp2_with (first | (go_at_call 39; refine (within_any _ _ _).mono ?_; rintro e w2 ⟨rfl, hb⟩)); all_goals (first | exact Below.refl _ _ | assumption | exact (Below.refl _ _).drew))); try simp only [Act.put, slotL_succ, slotL_zero, List.setIfInBounds_toArray, List.set_cons_zero, List.set_cons_succ])
              first | (refine wpC_skip rfl (by rfl) rfl ?_; try simp only [Act.put, slotL_succ, slotL_zero, List.setIfInBounds_toArray, List.set_cons_zero, List.set_cons_succ]) | (refine calm_step rfl (by rfl) (by rfl) rfl (Nat.le_of_ble_eq_true rfl) ?_; apply Exists.intro; refine ⟨fun w1 hC K hK => ?_, ?_⟩; (next => (go_wp2; all_goals (first | exact Below.refl _ _ | assumption | exact (Below.refl _ _).drew))); try simp only [Act.put, slotL_succ, slotL_zero, List.setIfInBounds_toArray, List.set_cons_zero, List.set_cons_succ])
              (refine calm_step rfl (by rfl) (by rfl) rfl (Nat.le_of_ble_eq_true rfl) ?_; apply Exists.intro; refine ⟨fun w1 hC K hK => ?_, ?_⟩; (next => (go_wp2; all_goals (first | exact Below.refl _ _ | assumption | exact (Below.refl _ _).drew))); try simp only [Act.put, slotL_succ, slotL_zero, List.setIfInBounds_toArray, List.set_cons_zero, List.set_cons_succ])
              refine wpC_nil ?_
              intro w1 hCw1 hNw1
              clear hNw1
              have hocw1 := (old_cells hCw1).1
              have hofw1 := (old_cells hCw1).2
              simp only [List.drop_succ_cons, List.drop_zero, List.drop_nil]
              have Hb := Lib.hid ((Below.refl _ wr).drew.trans hCw1)
              clear hocw1 hofw1 hCw1 c0 c1 c2 c3 r0 r1 r2 r3 rf hdr cl fl hx0' hw1
              go_wp2_with fail
              refine ⟨⟨k + 1, v', by omega, by omega, rfl, ?_, HS.out.below Hb.out hb2, HF.out.trans (Fr.of_below Hb.out), HP.out.below Hb.out HP.out.lt, ownsRow_below HO.out Hb.out⟩, by simp [intOf]; omega⟩
              rw [HC.out, show ls.length - k = (ls.length - (k + 1)) + 1 by omega, cov_skip HR0.out HN.out]
        · go_wp2_with fail
          go_ret
          refine ⟨?_, HF.out, v', HP.out, ?_⟩
          · rw [HC.out, show ls.length - k = 0 by omega, cov_end _ _ _ HR0.out]; rfl
          · rw [HC.out, show ls.length - k = 0 by omega, cov_end _ _ _ HR0.out]
            simpa using HO.out
end Go.Proofs.YtjifajigigflkaaDoor
/- Package bits: Cover. -/
namespace Go.Proofs.YtjifajigigflkaaDoor
theorem Blk.newAt' {W : World} {k : Nat} (h : W.heap.size = k) (cs : Array Value) (t : TypeId) : Blk (W.alloc (.cells cs t)) k cs t := h ▸ Blk.new W cs t
set_option linter.unusedSimpArgs false
set_option linter.unusedVariables false
open Go Go.RowKit Go.Shelf

/-- What Cover returns. -/
def CoverPost (ls : List Nat) (N : Nat) (w : World) (e : Ending) (w' : World) : Prop :=
  Below w.heap.size w w' ∧
  ((16 < ls.length ∧ e = .returned (.tuple #[.slice none 0 0, .bool false, .int .i64 2])) ∨
   (ls.length ≤ 16 ∧ cov ls ls.length N 0 = none ∧ e = .returned (.tuple #[.slice none 0 0, .bool false, .int .i64 0])) ∨
   (ls.length ≤ 16 ∧ ∃ q v, cov ls ls.length N 0 = some q ∧ e = .returned (.tuple #[v, .bool true, .int .i64 0]) ∧ w'.ownsRow w.heap.size 3 1 v q.length (intsL q)))
set_option maxRecDepth 100000 in
set_option maxHeartbeats 1000000 in
theorem cover_any (N : Nat) (a : Option Addr) (cap : Nat) (ls : List Nat) (w : World) (hN : N < 2 ^ 256) (hls : ∀ N ∈ ls, N < 2 ^ 256) (hl : ls.length ≤ 9223372036854775807) (hs : SetCells w a ls) (ho : ∀ ad, a = some ad → ad.block < w.heap.size) :
    Calls Tryd.prog 53 #[setV N, .slice a ls.length cap] w (CoverPost ls N w) := by
  have hmf : ∀ (fn : Fn) (first cap : Array Value) (w : World), (Instr.makeFunc fn first cap).run Tryd.prog w = .ok (.func fn first cap) w := fun _ _ _ _ => rfl
  have HS := Lib.hid hs
  have HO := Lib.hid ho
  have HL := Lib.hid hls
  clear hs ho hls
  by_cases hlen : 16 < ls.length
  · go_enter Tryd.func53, Tryd.ntmps53
    simp only [setV]
    go_wp2_with fail
    refine bodyPost_ret (v := .tuple #[.slice none 0 0, .bool false, .int .i64 2]) (by simp [results, Tryd.results53, go_sem]) rfl ⟨below_new2 _ _ _, .inl ⟨hlen, rfl⟩⟩
  · have hlen' : ls.length ≤ 16 := by omega
    go_enter Tryd.func53, Tryd.ntmps53
    simp only [setV]
    go_upto_region 5 with (fail)
    refine named (fun V => Blk V w.heap.size (setA N) 25 ∧ Blk V (w.heap.size + 1) #[.slice a ls.length cap] 54 ∧ Blk V (w.heap.size + 1 + 1) #[.slice none 0 0] 22 ∧ Blk V (w.heap.size + 1 + 1 + 1) #[.nilFunc] 39 ∧ Below w.heap.size w V ∧ w.heap.size + 4 = V.heap.size)
      ⟨(((Blk.newW _ _ _).alloc _).alloc _).alloc _, ((Blk.new1 _ _ _ _).alloc _).alloc _, (Blk.newAt' (by simp) _ _).alloc _, Blk.newAt' (by simp) _ _, (((below_new2 _ _ _).alloc (by simp; omega) _).alloc (by simp; omega) _), by simp⟩ ?_
    rintro V ⟨h0, h1, h2, h3, hb, hsz⟩
    obtain ⟨c3, f3⟩ := h3.cell1
    go_upto_region 6 with (fail)

    refine named (fun U => Blk U w.heap.size (setA N) 25 ∧ Blk U (w.heap.size + 1 + 1) #[.slice none 0 0] 22 ∧ CvEnv (w.heap.size + 1) (w.heap.size + 1 + 1) (w.heap.size + 1 + 1 + 1) (w.heap.size + 4) a cap ls U ∧ Below w.heap.size w U ∧ w.heap.size + 4 ≤ U.heap.size)
      ⟨h0.other _ _ (by simp; omega), h2.other _ _ (by simp), ⟨h1.other _ _ (by simp), h3.put1 _, ?_, fun ad e => by have := HO.out ad e; omega, by omega⟩, hb.setCell (by simp; omega) _, by simp [World.setCell]; omega⟩ ?_
    · rcases HS.out with hs | ⟨b, o, rfl, hs⟩
      · exact .inl hs
      · refine .inr ⟨b, o, rfl, fun i M hi j hj => ?_⟩
        have hbl := HO.out _ rfl
        simp at hbl
        rw [World.cell?_of_block (w := w)]
        · exact hs i M hi j hj
        · exact (hb.setCell (p := ⟨w.heap.size + 1 + 1 + 1, 0, none⟩) (by simp; omega) _).block b (by simpa using hbl)
    rintro U ⟨u0, u2, he, hbU, hszU⟩
    obtain ⟨c2, f2⟩ := he.cb.cell1
    obtain ⟨c0, c1, c2', c3', f0⟩ := u0.set4
    have hcall := cover1_any _ _ _ _ a cap ls HL.out hlen' ls.length 0 N U (.slice none 0 0) [] (by omega) (by simp) hN hszU he u2 (World.ownsRow_nil _ _ _ _)
    have HE := Lib.hid he
    have HB := Lib.hid hbU
    clear he hbU u0 u2 h0 h1 h2 h3 hb c3 f3
    rw [show ((0 : Nat) : Int) = 0 from rfl] at hcall
    cases hq : cov ls ls.length N 0 with
    | none =>
      rw [hq] at hcall
      have HQ := Lib.hid hq
      have HCALL := Lib.hid hcall
      clear hq hcall
      go_wp2_with (refine HCALL.out.mono ?_; rintro e w5 ⟨rfl, hF5, v5, hP5, hO5⟩)
      refine bodyPost_ret (v := .tuple #[.slice none 0 0, .bool false, .int .i64 0]) (by simp [results, Tryd.results53, go_sem]) rfl ⟨HB.out.trans (hF5.below HB.out.size (by omega) (by omega)), .inr (.inl ⟨hlen', HQ.out, rfl⟩)⟩
    | some q =>
      rw [hq] at hcall
      have HQ := Lib.hid hq
      have HCALL := Lib.hid hcall
      clear hq hcall
      go_wp2_with (refine HCALL.out.mono ?_; rintro e w5 ⟨rfl, hF5, v5, hP5, hO5⟩; have HO5 := Lib.hid hO5; clear hO5; obtain ⟨c5, f5⟩ := hP5.cell1)
      refine bodyPost_ret (v := .tuple #[v5, .bool true, .int .i64 0]) (by simp [results, Tryd.results53, go_sem]) rfl ⟨HB.out.trans (hF5.below HB.out.size (by omega) (by omega)), .inr (.inr ⟨hlen', q, v5, HQ.out, rfl, ?_⟩)⟩
      exact ownsRow_le (by simpa using HO5.out) (by omega)
end Go.Proofs.YtjifajigigflkaaDoor
/- slices.Index and slices.Contains over sets. -/
namespace Go.Proofs.YtjifajigigflkaaDoor
set_option linter.unusedSimpArgs false
set_option linter.unusedVariables false
open Go Go.RowKit Go.Shelf
attribute [local go_sem] equalIn_words

theorem SetCells.below {w w' : World} {a : Option Addr} {ls : List Nat} (h : SetCells w a ls) (ho : ∀ ad, a = some ad → ad.block < w.heap.size) (hb : Below w.heap.size w w') : SetCells w' a ls := by
  rcases h with hs | ⟨b, o, rfl, hs⟩
  · exact .inl hs
  · refine .inr ⟨b, o, rfl, fun i N hi j hj => ?_⟩
    rw [World.cell?_of_block (w := w)]
    · exact hs i N hi j hj
    · exact hb.block b (ho ⟨b, o, none⟩ rfl)
theorem any_take_succ {p : Nat → Bool} {ls : List Nat} {k : Nat} (h : k < ls.length) : (ls.take (k + 1)).any p = ((ls.take k).any p || p ls[k]) := by
  rw [List.take_succ_eq_append_getElem h, List.any_append]; simp
theorem any_of_get {p : Nat → Bool} {ls : List Nat} {k : Nat} (h : k < ls.length) (hp : p ls[k] = true) : ls.any p = true := List.any_eq_true.2 ⟨_, List.getElem_mem h, hp⟩
def IndexPost (ls : List Nat) (M : Nat) (w : World) (e : Ending) (w' : World) : Prop := Below w.heap.size w w' ∧ ∃ r : Int, e = .returned (.int .i64 r) ∧ -1 ≤ r ∧ r ≤ 9223372036854775807 ∧ decide (0 ≤ r) = ls.any (eqS M)
set_option maxRecDepth 100000 in
set_option maxHeartbeats 1000000 in
theorem index_any (M : Nat) (a : Option Addr) (cap : Nat) (ls : List Nat) (w : World) (hl : ls.length ≤ 9223372036854775807) (hs : SetCells w a ls) (ho : ∀ ad, a = some ad → ad.block < w.heap.size) :
    Calls Tryd.prog 89 #[.slice a ls.length cap, setV M] w (IndexPost ls M w) := by
  have HS := Lib.hid hs
  have HO := Lib.hid ho
  clear hs ho
  go_enter Tryd.func89, Tryd.ntmps89
  simp only [setV]
  go_wp2_with fail
  go_loopw [8] (fun sv wr => ∃ k : Nat, k ≤ ls.length ∧ sv = .int .i64 k ∧ (ls.take k).any (eqS M) = false ∧ Blk wr w.heap.size (setA M) 25 ∧ Below w.heap.size w wr) (fun sv _ => ls.length - (intOf sv).toNat)
  case atStart => exact ⟨0, by omega, rfl, by simp, Blk.newW _ _ _, below_new1 _ _⟩
  case round =>
    obtain ⟨k, hk, rfl, hany, hB, hbel⟩ := hrel
    have HA := Lib.hid hany
    have HB := Lib.hid hB
    have HW := Lib.hid hbel
    clear hany hB hbel
    by_cases hlt : k < ls.length
    · obtain ⟨b, o, rfl, hc⟩ := HS.out.at hlt
      have hbo := HO.out _ rfl
      simp at hbo
      have hc' : ∀ j, j < 4 → wr.cell? ⟨b, o + k * 4 + j, none⟩ = some (.int .u64 (word ls[k] j)) := fun j hj => by
        rw [World.cell?_of_block (w := w)]
        · exact hc j hj
        · exact HW.out.block b hbo
      obtain ⟨x, hx⟩ : ∃ x, x = ls[k] := ⟨_, rfl⟩
      rw [← hx] at hc'
      have HX := Lib.hid hx
      have c0 : wr.cell? ⟨b, o + k * 4, none⟩ = _ := hc' 0 (by omega)
      have c1 := hc' 1 (by omega)
      have c2 := hc' 2 (by omega)
      have c3 := hc' 3 (by omega)
      obtain ⟨r0, r1, r2, r3, rf⟩ := HB.out.set4
      clear hc hc' hx
      by_cases he : eqS M x = true
      · have HR : Hid (ls.any (eqS M) = true) := any_of_get hlt (by rw [← HX.out]; exact he)
        go_wp2_with fail
        refine wp_region_same 6 19 [0, 1, 2, 3, 4, 5] (by kernel_rfl) (by kernel_rfl) (by kernel_rfl) (by kernel_rfl) (by rfl) ?_
        (refine same_step rfl (by rfl) (by rfl) rfl (Nat.le_of_ble_eq_true rfl) ?_; apply Exists.intro; refine ⟨fun N hN => ?_, ?_⟩; (next => (go_wp2; all_goals rfl)); try simp only [Act.put, slotL_succ, slotL_zero, List.setIfInBounds_toArray, List.set_cons_zero, List.set_cons_succ])
        (refine same_step rfl (by rfl) (by rfl) rfl (Nat.le_of_ble_eq_true rfl) ?_; apply Exists.intro; refine ⟨fun N hN => ?_, ?_⟩; (next => (go_wp2; all_goals rfl)); try simp only [Act.put, slotL_succ, slotL_zero, List.setIfInBounds_toArray, List.set_cons_zero, List.set_cons_succ])
        (refine same_step rfl (by rfl) (by rfl) rfl (Nat.le_of_ble_eq_true rfl) ?_; apply Exists.intro; refine ⟨fun N hN => ?_, ?_⟩; (next => (go_wp2; all_goals rfl)); try simp only [Act.put, slotL_succ, slotL_zero, List.setIfInBounds_toArray, List.set_cons_zero, List.set_cons_succ])
        (refine same_step rfl (by rfl) (by rfl) rfl (Nat.le_of_ble_eq_true rfl) ?_; apply Exists.intro; refine ⟨fun N hN => ?_, ?_⟩; (next => (go_wp2; all_goals rfl)); try simp only [Act.put, slotL_succ, slotL_zero, List.setIfInBounds_toArray, List.set_cons_zero, List.set_cons_succ])
        (refine same_step rfl (by rfl) (by rfl) rfl (Nat.le_of_ble_eq_true rfl) ?_; apply Exists.intro; refine ⟨fun N hN => ?_, ?_⟩; (next => (go_wp2; all_goals rfl)); try simp only [Act.put, slotL_succ, slotL_zero, List.setIfInBounds_toArray, List.set_cons_zero, List.set_cons_succ])
        (refine same_step rfl (by rfl) (by rfl) rfl (Nat.le_of_ble_eq_true rfl) ?_; apply Exists.intro; refine ⟨fun N hN => ?_, ?_⟩; (next => (go_wp2; all_goals rfl)); try simp only [Act.put, slotL_succ, slotL_zero, List.setIfInBounds_toArray, List.set_cons_zero, List.set_cons_succ])
        refine wpC_nil ?_
        simp only [List.drop_succ_cons, List.drop_zero, List.drop_nil]
        go_wp2_with fail
        go_ret
        exact ⟨HW.out.drew, k, rfl, by omega, by omega, by rw [HR.out]; simp⟩
      · have he' : eqS M x = false := by simpa using he
        have HR : Hid ((ls.take (k + 1)).any (eqS M) = false) := by rw [Hid, any_take_succ hlt, HA.out, ← HX.out, he']; rfl
        clear he
        go_wp2_with fail
        refine wp_region_same 6 19 [0, 1, 2, 3, 4, 5] (by kernel_rfl) (by kernel_rfl) (by kernel_rfl) (by kernel_rfl) (by rfl) ?_
        (refine same_step rfl (by rfl) (by rfl) rfl (Nat.le_of_ble_eq_true rfl) ?_; apply Exists.intro; refine ⟨fun N hN => ?_, ?_⟩; (next => (go_wp2; all_goals rfl)); try simp only [Act.put, slotL_succ, slotL_zero, List.setIfInBounds_toArray, List.set_cons_zero, List.set_cons_succ])
        (refine same_step rfl (by rfl) (by rfl) rfl (Nat.le_of_ble_eq_true rfl) ?_; apply Exists.intro; refine ⟨fun N hN => ?_, ?_⟩; (next => (go_wp2; all_goals rfl)); try simp only [Act.put, slotL_succ, slotL_zero, List.setIfInBounds_toArray, List.set_cons_zero, List.set_cons_succ])
        (refine same_step rfl (by rfl) (by rfl) rfl (Nat.le_of_ble_eq_true rfl) ?_; apply Exists.intro; refine ⟨fun N hN => ?_, ?_⟩; (next => (go_wp2; all_goals rfl)); try simp only [Act.put, slotL_succ, slotL_zero, List.setIfInBounds_toArray, List.set_cons_zero, List.set_cons_succ])
        (refine same_step rfl (by rfl) (by rfl) rfl (Nat.le_of_ble_eq_true rfl) ?_; apply Exists.intro; refine ⟨fun N hN => ?_, ?_⟩; (next => (go_wp2; all_goals rfl)); try simp only [Act.put, slotL_succ, slotL_zero, List.setIfInBounds_toArray, List.set_cons_zero, List.set_cons_succ])
        (refine same_step rfl (by rfl) (by rfl) rfl (Nat.le_of_ble_eq_true rfl) ?_; apply Exists.intro; refine ⟨fun N hN => ?_, ?_⟩; (next => (go_wp2; all_goals rfl)); try simp only [Act.put, slotL_succ, slotL_zero, List.setIfInBounds_toArray, List.set_cons_zero, List.set_cons_succ])
        (refine same_step rfl (by rfl) (by rfl) rfl (Nat.le_of_ble_eq_true rfl) ?_; apply Exists.intro; refine ⟨fun N hN => ?_, ?_⟩; (next => (go_wp2; all_goals rfl)); try simp only [Act.put, slotL_succ, slotL_zero, List.setIfInBounds_toArray, List.set_cons_zero, List.set_cons_succ])
        refine wpC_nil ?_
        simp only [List.drop_succ_cons, List.drop_zero, List.drop_nil]
        go_wp2_with fail
        exact ⟨⟨k + 1, by omega, rfl, HR.out, HB.out.drew, HW.out.drew⟩, by simp [intOf]; omega⟩
    · have e : k = ls.length := by omega
      have HR : Hid (ls.any (eqS M) = false) := by have := HA.out; rw [e, List.take_length] at this; exact this
      clear e
      go_wp2_with fail
      go_ret
      exact ⟨HW.out, -1, rfl, by omega, by omega, by rw [HR.out]; simp⟩
theorem contains_any (M : Nat) (a : Option Addr) (cap : Nat) (ls : List Nat) (w : World) (hl : ls.length ≤ 9223372036854775807) (hs : SetCells w a ls) (ho : ∀ ad, a = some ad → ad.block < w.heap.size) :
    Calls Tryd.prog 76 #[.slice a ls.length cap, setV M] w fun e w' => e = .returned (.bool (ls.any (eqS M))) ∧ Below w.heap.size w w' := by
  have hs1 : ∀ o : Obj, SetCells (w.alloc o) a ls := fun ob => hs.below ho (below_new1 _ _)
  have HI : Hid (∀ o : Obj, Calls Tryd.prog 89 #[.slice a ls.length cap, setV M] (w.alloc o) (IndexPost ls M (w.alloc o))) := fun ob => index_any M a cap ls (w.alloc ob) hl (hs1 ob) (fun ad e => by have := ho ad e; simp; omega)
  clear hs ho hs1
  go_enter Tryd.func76, Tryd.ntmps76
  simp only [setV]
  go_wp2_with (go_at_call 89; refine (HI.out _).mono ?_; rintro e w2 ⟨hb, r, rfl, h1, h2, h3⟩; have HR := Lib.hid h3; clear h3)
  go_ret
  exact ⟨by rw [← HR.out]; rfl, (below_new1 _ _).trans (hb.mono (by simp))⟩
end Go.Proofs.YtjifajigigflkaaDoor
