/- Layer 4: slices.Index and Contains of ties. -/
import Derived.Test.YtlllmoafhfjbbaaGreatEg
namespace Go.Proofs.YtlllmoafhfjbbaaGreat
set_option linter.unusedSimpArgs false
set_option linter.unusedVariables false
open Go Go.RowKit

def tieE (s t : TieD) : Bool := decide (s.a = t.a) && decide (s.b = t.b) && decide (s.kind = t.kind) && decide (s.str = t.str) && decide (s.src = t.src)
theorem tieE_iff (s t : TieD) : tieE s t = true ↔ s = t := by
  obtain ⟨a, b, c, d, e⟩ := s
  obtain ⟨a', b', c', d', e'⟩ := t
  simp [tieE, and_assoc]
instance : DecidableEq TieD := fun s t => decidable_of_iff (tieE s t = true) (tieE_iff s t)
theorem tieE_dec (s t : TieD) : tieE s t = decide (s = t) := by
  rw [Bool.eq_iff_iff, tieE_iff, decide_eq_true_eq]
def ixT : List TieD → TieD → Nat → Option Nat
  | [], _, _ => none
  | y :: l, x, i => if x = y then some i else ixT l x (i + 1)
theorem ixT_drop {l : List TieD} {x : TieD} {k : Nat} (hk : k < l.length) : ixT (l.drop k) x k = if x = l[k] then some k else ixT (l.drop (k + 1)) x (k + 1) := by
  rw [← List.getElem_cons_drop hk]; rfl
def ixTI (l : List TieD) (x : TieD) : Int := match ixT l x 0 with | some j => (j : Int) | none => -1
theorem ixT_has (x : TieD) : ∀ (l : List TieD) (i : Nat), (ixT l x i).isSome = decide (x ∈ l)
  | [], i => by simp [ixT]
  | y :: l, i => by
    unfold ixT
    by_cases h : x = y
    · simp [h]
    · rw [if_neg h, ixT_has x l (i + 1)]; simp [h]
theorem ixTI_has (l : List TieD) (x : TieD) : decide (0 ≤ ixTI l x) = decide (x ∈ l) := by
  rw [← ixT_has x l 0]
  unfold ixTI
  cases ixT l x 0 with
  | none => rfl
  | some j => simp
set_option maxHeartbeats 2000000 in
theorem eql_tie (x y : Operand) (c d : TieD) (p : Bool) (hp : p = decide (c = d)) (w : World) : (do eqGuard .eql 33 x y (tieV c) (tieV d); binOp .eql 33 (tieV c) (tieV d) : Sem Value).run Tryz.prog w = .ok (.bool p) w := by
  rw [← tieE_dec] at hp
  subst hp
  simp [go_sem, tieV]
  unfold tieE
  by_cases h0 : c.a = d.a <;> by_cases h1 : c.b = d.b <;> by_cases h2 : c.kind = d.kind <;> by_cases h3 : c.str = d.str <;> by_cases h4 : c.src = d.src <;> simp [h0, h1, h2, h3, h4]
end Go.Proofs.YtlllmoafhfjbbaaGreat
