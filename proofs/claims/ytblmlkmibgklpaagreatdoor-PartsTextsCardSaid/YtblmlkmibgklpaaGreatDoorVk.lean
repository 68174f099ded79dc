/- The laws' own sane of layer 6: its run, in the kernel. -/
import Derived.Test.YtblmlkmibgklpaaGreatDoorProg
import Derived.KernelRfl
import Derived.Test.YtblmlkmibgklpaaGreatDoorV6
namespace Go.Proofs.YtblmlkmibgklpaaGreatDoor
set_option linter.unusedSimpArgs false
set_option linter.unusedVariables false
open Go Go.RowKit Go.Clo

/-- What the interpreter does not go into: three functions of Go's library. -/
noncomputable def hook : Hook := fun f args s =>
  match Nat.beq f 20 with
    | true => some (hItoa args s)
    | false => match Nat.beq f 21 with
      | true => some (hJoin args s)
      | false => match Nat.beq f 155 with
        | true => some (hTz args s)
        | false => none
noncomputable def isYes (m : M (V × St)) : Bool := match m with | .ok (.bool true, _) => true | _ => false
theorem isYes_ok {m : M (V × St)} (h : isYes m = true) : ∃ s, m = .ok (.bool true, s) := by
  unfold isYes at h
  split at h
  · exact ⟨_, rfl⟩
  · cases h
theorem hook_ok {G : World → Prop} (hg : ∀ w w', G w → Below w.heap.size w w' → G w') (hi : ItoaC Tryz.prog 20 G) (hj : JoinC Tryz.prog 21) (ht : TzC Tryz.prog 155 G) {w : World} (h : G w) : HookOK Tryz.prog w hook := by
  intro f args s v s' hh ρ W us hR he
  have hGW : G W := hg w W h hR.below
  unfold hook at hh
  cases h2 : Nat.beq f 20 with
  | true =>
    rw [h2] at hh
    have := Nat.eq_of_beq_eq_true h2
    subst this
    injection hh with hh
    exact itoa_ok hi hh hGW hR he
  | false =>
    rw [h2] at hh
    simp only at hh
    cases h3 : Nat.beq f 21 with
    | true =>
      rw [h3] at hh
      have := Nat.eq_of_beq_eq_true h3
      subst this
      injection hh with hh
      exact join_ok hj hh hR he
    | false =>
      rw [h3] at hh
      simp only at hh
      cases h4 : Nat.beq f 155 with
      | true =>
        rw [h4] at hh
        have := Nat.eq_of_beq_eq_true h4
        subst this
        injection hh with hh
        exact tz_ok ht hh hGW hR he
      | false =>
        rw [h4] at hh
        cases hh
set_option maxRecDepth 100000 in
theorem sane_runs : isYes (call Tryz.prog hook 100000 4 [] ⟨.nil, 0⟩) = true := by kernel_rfl
/-- sane says yes, wherever it is called. -/
theorem sane_from {G : World → Prop} (hmix : Tryz.prog.follows .mixedOrders = true) (hg : ∀ w w', G w → Below w.heap.size w w' → G w') (hi : ItoaC Tryz.prog 20 G) (hj : JoinC Tryz.prog 21) (ht : TzC Tryz.prog 155 G) (w : World) (h : G w) :
    Calls Tryz.prog 4 #[] w fun e w' => e = .returned (.bool true) ∧ Below w.heap.size w w' := by
  obtain ⟨s, hs⟩ := isYes_ok sane_runs
  exact call_bool hmix (hook_ok hg hi hj ht h) hs
end Go.Proofs.YtblmlkmibgklpaaGreatDoor
