/- The laws' own sane of layer 4: its run, in the kernel. -/
import Derived.Test.YthjeiaildabadaaGreatProg
import Derived.KernelRfl
import Derived.Test.YthjeiaildabadaaGreatKVB
namespace Go.Proofs.YthjeiaildabadaaGreat
set_option linter.unusedSimpArgs false
set_option linter.unusedVariables false
open Go Go.RowKit Go.Clo

/-- The interpreter goes into every function. -/
noncomputable def noHook : Hook := fun _ _ _ => none
theorem noHook_ok {P : Program} {w : World} : HookOK P w noHook := by
  intro f args s v s' hh
  cases hh
noncomputable def isYes (m : M (V × St)) : Bool := match m with | .ok (.bool true, _) => true | _ => false
theorem isYes_ok {m : M (V × St)} (h : isYes m = true) : ∃ s, m = .ok (.bool true, s) := by
  unfold isYes at h
  split at h
  · exact ⟨_, rfl⟩
  · cases h
set_option maxRecDepth 100000 in
theorem sane_runs : isYes (call Tryz.prog noHook 100000 10 [] ⟨.nil, 0⟩) = true := by kernel_rfl
/-- sane says yes, wherever it is called. -/
theorem sane_any (w : World) : Calls Tryz.prog 10 #[] w fun e w' => e = .returned (.bool true) ∧ Below w.heap.size w w' := by
  obtain ⟨s, hs⟩ := isYes_ok sane_runs
  exact call_bool (by kernel_rfl) noHook_ok hs
end Go.Proofs.YthjeiaildabadaaGreat
