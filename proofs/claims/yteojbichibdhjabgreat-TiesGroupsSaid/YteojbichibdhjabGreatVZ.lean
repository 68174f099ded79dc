/- The interpreter of closed runs, a part of it. -/
import Derived.Test.YteojbichibdhjabGreatVY
namespace Go.Clo
set_option linter.unusedSimpArgs false
set_option linter.unusedVariables false
set_option linter.unnecessarySimpa false
open Go Go.RowKit

variable {P : Program} {W0 : World}

theorem zs_last {X : Nat → Sn} {U : Nat → V} (n : Nat) : (zs X U 0 (n + 1)).getLast? = some (U n, X (n + 1)) := by
  unfold zs
  rw [List.range'_1_concat]
  simp
theorem drawV_inv {H : Hook} {ih : Run} {ops : Array Oper} {t : Fr} {s : St} {x : Ex} {t' : Fr} {s' : St} (h : drawV P H ih ops t s = .ok x t' s') :
    ∃ b X U, Cn P H ih ops b s.size X U ∧ X 0 = ⟨t, ⟨s.mem, s.size + ops.size⟩, [], []⟩ ∧ x = .normal ∧ t' = (X ops.size).t ∧ s' = addPend (X ops.size).s (X ops.size).p := by
  unfold drawV at h
  cases hd : drawnOk ops with
  | none => rw [hd] at h; cases h
  | some b =>
    rw [hd] at h
    simp only at h
    cases hz : drawnS P H ih ops b s.size 0 ops.toList ⟨t, ⟨s.mem, s.size + ops.size⟩, [], []⟩ with
    | err e => rw [hz] at h; cases h
    | ok z =>
      rw [hz] at h
      simp only at h
      obtain ⟨X, U, h0, hst, hzz⟩ := drawnS_ex hz
      have hzz : z = zs X U 0 ops.size := by rw [hzz]; simp [zs]
      subst hzz
      cases ho : orderD b ops.size (effsD P ops 0 ops.toList ⟨t, ⟨s.mem, s.size + ops.size⟩, [], []⟩ (zs X U 0 ops.size)) with
      | false => rw [ho] at h; cases h
      | true =>
        rw [ho] at h
        simp only at h
        cases hr : readsD P ops b (effsD P ops 0 ops.toList ⟨t, ⟨s.mem, s.size + ops.size⟩, [], []⟩ (zs X U 0 ops.size)) 0 ops.toList ⟨t, ⟨s.mem, s.size + ops.size⟩, [], []⟩ (zs X U 0 ops.size) with
        | false => rw [hr] at h; cases h
        | true =>
          rw [hr] at h
          simp only at h
          refine ⟨b, X, U, cn_of rfl rfl hd h0 (fun k o hk => ?_) ho hr, h0, ?_⟩
          · have := hst k o (by simpa using hk)
            simpa using this
          · cases hn : ops.size with
            | zero =>
              rw [hn] at h
              have : zs X U 0 0 = [] := rfl
              rw [this] at h
              have h : Out.ok .normal t s = .ok x t' s' := h
              injection h with h1 h2 h3
              subst h1; subst h2; subst h3
              rw [h0]
              exact ⟨rfl, rfl, by rw [hn]; rfl⟩
            | succ n =>
              rw [hn, zs_last] at h
              simp only at h
              injection h with h1 h2 h3
              exact ⟨h1.symm, h2.symm, h3.symm⟩
theorem drawOK (hmix : P.follows .mixedOrders = true) {H : Hook} (hH : HookOK P W0 H) : DrawOK P W0 H := by
  intro ih hih id ops t s x t' s' h ρ w a B r hR hfa
  obtain ⟨hf, hd, hr⟩ := hfa
  obtain ⟨b, X, U, C, h0, rfl, rfl, rfl⟩ := drawV_inv h
  have hB : W0.heap.size ≤ w.heap.size := hR.below.size
  refine wpIn_region_any hmix ?_
  have hno : ∀ i, ¬ isL (Array.replicate ops.size false) i := fun i hi => by
    unfold isL at hi
    by_cases h : i < ops.size <;> simp [Array.getD_eq_getD_getElem?, Array.getElem?_replicate, h] at hi
  refine any_drawn (ds := a.defers) (ρ0 := ρ) (s0 := s) (w0 := w) hih hH C hB rfl ?_ ops.size _ a _ (by simp) ?_ ?_
  · rintro a' w' ⟨L, hall, hL, ρ', c, M, T⟩
    have hc : c = ops.size := M.curE.resolve_right fun he => M.curL (hall c he.lt)
    subst hc
    have A := M.added hB rfl (q := (X ops.size).p) fun e he => by
      obtain ⟨j, y, h1, h2, h3⟩ := (C.mem_q (Nat.le_refl _)).1 ((C.mem_p (Nat.le_refl _)).1 he).1
      exact ⟨j, y, h2, hall j h1, h3⟩
    refine ⟨rfl, ρ', A.step, ⟨?_, fun d => ?_⟩, by rw [T.defers]; exact hd.step A.step, ?_⟩
    · rw [T.size, C.n (Nat.le_refl _)]
    rotate_left
    · rw [C.r (Nat.le_refl _), h0]; exact hr.mono A.step.le
    · exact T.at_ d ops.size (Nat.le_refl _) (fun j o hj _ _ => hall j hj) (fun j o hj ho => by have := size_of ho; omega)
  · unfold leftN
    have := List.countP_le_length (p := fun i => !(Array.replicate ops.size false).getD i false) (l := List.range ops.size)
    simpa using this
  · obtain ⟨c, _, n2, n3, n4⟩ := next_eff P ops X _ 0 rfl (Nat.zero_le _)
    have hs : (X c).s = ⟨s.mem, s.size + ops.size⟩ := by rw [C.still (Nat.zero_le _) n2 n4, h0]
    have hn0 : (X 0).t.n = t.n := by rw [h0]
    refine ⟨fun j o _ hj => absurd hj (hno j), ρ, c, ⟨fun i hi => absurd hi (hno i), n2, n3, hno c, fun k hk hkc => absurd hk (n4 k (Nat.zero_le _) hkc), ?_, ?_, fun i _ _ => hR.fresh _ (Nat.le_add_right _ _), fun i _ _ hi => absurd hi (hno i), fun i _ hi => absurd hi (hno i), fun i _ _ _ _ _ _ hi => absurd hi (hno i)⟩, ⟨?_, rfl, fun d i hi h1 _ => ?_⟩⟩
    · rw [hs]
      exact Step.world (Step.bump hR _ (Nat.le_add_right _ _)) rfl rfl rfl rfl
    · rw [hs]; exact Nat.le_refl _
    · rw [hn0]; exact hf.1
    · rw [C.keep (Nat.zero_le _) hi (fun k o _ hk ho hdk => hno k (h1 k o hk ho hdk)), h0]
      exact hf.2 d
theorem runs_ok (hmix : P.follows .mixedOrders = true) {H : Hook} (hH : HookOK P W0 H) (n : Nat) : RunOK P W0 (exec P H n) := runOK hmix hH (drawOK hmix hH) n
theorem HookOK.none : HookOK P W0 (fun _ _ _ => .none) := fun _ _ _ _ _ h => by cases h
theorem Rel.start (w : World) : Rel w (fun _ => none) ⟨.nil, 0⟩ w :=
  ⟨Below.refl _ _, fun b x h => (by cases h), fun _ _ => rfl, fun b _ _ _ _ _ h => (by cases h)⟩
/-- A closed run is a call's contract. -/
theorem call_ok (hmix : P.follows .mixedOrders = true) {H : Hook} {w : World} (hH : HookOK P w H) {n : Nat} {f : FuncId} {args : List V} {v : V} {s' : St} (h : call P H n f args ⟨.nil, 0⟩ = .ok (v, s')) {us : List Value} (he : EL (fun _ => none) args us) :
    Calls P f us.toArray w fun e w' => ∃ ρ' u, e = .returned u ∧ Below w.heap.size w w' ∧ E ρ' v u := by
  refine (callV_ok (runs_ok hmix hH n) hH h (Rel.start w) he).mono fun e w' hr => ?_
  obtain ⟨ρ', u, rfl, hst, hE⟩ := hr
  exact ⟨ρ', u, rfl, hst.rel.below, hE⟩
theorem call_bool (hmix : P.follows .mixedOrders = true) {H : Hook} {w : World} (hH : HookOK P w H) {n : Nat} {f : FuncId} {c : Bool} {s' : St} (h : call P H n f [] ⟨.nil, 0⟩ = .ok (.bool c, s')) :
    Calls P f #[] w fun e w' => e = .returned (.bool c) ∧ Below w.heap.size w w' := by
  refine (call_ok hmix hH h EL.nil).mono fun e w' hr => ?_
  obtain ⟨ρ', u, rfl, hst, hE⟩ := hr
  simp only [E] at hE
  subst hE
  exact ⟨rfl, hst⟩
end Go.Clo
