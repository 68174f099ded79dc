/- Layer 4: Strong and Without of the program. -/
import Derived.Test.YtlllmoafhfjbbaaGreatEc
namespace Go.Proofs.YtlllmoafhfjbbaaGreat
set_option linter.unusedSimpArgs false
set_option linter.unusedVariables false
open Go Go.RowKit

/-- A graph, or an error. -/
structure GR where
  n : Int
  ts : List TieD
  er : Int
def GRes' (r : GR) (w : World) : Ending → World → Prop := GRes r.n r.ts r.er w
theorem okG_len {n : Int} {ts : List TieD} (h : okG n ts = true) : ts.length ≤ 512 := by
  unfold okG at h
  simp only [Bool.and_eq_true, decide_eq_true_eq] at h
  exact h.1.2
/-- The end of a function that returns a zero graph and an error. -/
theorem gres_zero {w V : World} {b4 : Nat} {er : Int} (h : Blk V b4 [.int .i64 0, .slice none 0 0] 24) (hb : Below w.heap.size w V) : ∃ a c, Ending.returned (.tuple #[.agg #[.int .i64 0, .slice none 0 0], .int .i64 er]) = .returned (.tuple #[gV 0 a ([] : List TieD).length c, .int .i64 er]) ∧ TiesNew w.heap.size V a [] ∧ Below w.heap.size w V :=
  ⟨none, 0, rfl, TiesNew.nil _ _ _, hb⟩
def strR (n : Int) (ts : List TieD) (s : Int) : GR := if okG n ts then (if ftB s 1 101 then ⟨n, ts.filter fun t => decide (s ≤ t.str), 0⟩ else ⟨0, [], 1⟩) else ⟨0, [], 40⟩
def wioR (n : Int) (ts : List TieD) (s : Int) : GR := if okG n ts then (if ftB s 0 4095 then ⟨n, ts.filter fun t => !(t.src == s), 0⟩ else ⟨0, [], 1⟩) else ⟨0, [], 40⟩
end Go.Proofs.YtlllmoafhfjbbaaGreat
