/- Layer 4: the specification's others and strong. -/
import Derived.Test.YtlllmoafhfjbbaaGreatEo
namespace Go.Proofs.YtlllmoafhfjbbaaGreat
set_option linter.unusedSimpArgs false
set_option linter.unusedVariables false
open Go Go.RowKit

def pAt (p : TieD → Bool) (ts : List TieD) (i : Nat) : Bool := match ts[i]? with | some t => p t | none => false
theorem pAt_all (p : TieD → Bool) (ts : List TieD) : (List.range ts.length).map (pAt p ts) = ts.map p := by
  apply List.ext_getElem?; intro i
  by_cases h : i < ts.length
  · simp [h, pAt]
  · simp [h, List.getElem?_eq_none]
theorem pAt_get {p : TieD → Bool} {ts : List TieD} {k : Nat} (h : k < ts.length) : pAt p ts k = p ts[k] := by
  unfold pAt; rw [List.getElem?_eq_getElem h]
end Go.Proofs.YtlllmoafhfjbbaaGreat
