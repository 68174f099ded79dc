/- Layer 4: Merge of the program. -/
import Derived.Test.YtlllmoafhfjbbaaGreatEl
namespace Go.Proofs.YtlllmoafhfjbbaaGreat
set_option linter.unusedSimpArgs false
set_option linter.unusedVariables false
open Go Go.RowKit

theorem tvL_append : ∀ (l k : List TieD), tvL (l ++ k) = tvL l ++ tvL k
  | [], k => by simp [tvL]
  | t :: l, k => by simp [tvL, tvL_append l k]
def K3 (w W : World) (g h : List Value) : Prop := Blk W w.heap.size g 24 ∧ Blk W (w.heap.size + 1) h 24 ∧ Blk W (w.heap.size + 1 + 1) [.int .i64 0, .slice none 0 0] 24 ∧ Below w.heap.size w W
theorem K3.below {w W W' : World} {g h : List Value} (k : K3 w W g h) (hb : Below W.heap.size W W') : K3 w W' g h := ⟨k.1.below hb, k.2.1.below hb, k.2.2.1.below hb, k.2.2.2.trans (hb.mono k.2.2.2.size)⟩
theorem K3.new (w : World) (n n' : Int) (a b : Option Addr) (m q cap cap' : Nat) : K3 w (((w.alloc (.cells #[.int .i64 n, .slice a m cap] 24)).alloc (.cells #[.int .i64 n', .slice b q cap'] 24)).alloc (.cells #[.int .i64 0, .slice none 0 0] 24)) [.int .i64 n, .slice a m cap] [.int .i64 n', .slice b q cap'] := by
  have b1 := Blk.new w [.int .i64 n, .slice a m cap] 24
  have b2 := Blk.new (w.alloc (.cells #[.int .i64 n, .slice a m cap] 24)) [.int .i64 n', .slice b q cap'] 24
  have b3 := Blk.new ((w.alloc (.cells #[.int .i64 n, .slice a m cap] 24)).alloc (.cells #[.int .i64 n', .slice b q cap'] 24)) [.int .i64 0, .slice none 0 0] 24
  refine ⟨(b1.block (Below.heap_alloc _ _ _ (by simp))).block (Below.heap_alloc _ _ _ (by simp; omega)), ?_, ?_, (((Below.refl _ _).alloc (Nat.le_refl _) _).alloc (by simp) _).alloc (by simp; omega) _⟩
  · have := b2.block (Below.heap_alloc _ (.cells #[.int .i64 0, .slice none 0 0] 24) _ b2.lt)
    simpa using this
  · simpa using b3
def mrgF (ts us : List TieD) : List TieD := us.filter fun t => !decide (t ∈ ts)
def mrgR (n : Int) (ts : List TieD) (n' : Int) (us : List TieD) : GR := if okG n ts then (if okG n' us then (if n = n' then (if 512 < (ts ++ mrgF ts us).length then ⟨0, [], 2⟩ else ⟨n, ts ++ mrgF ts us, 0⟩) else ⟨0, [], 1⟩) else ⟨0, [], 40⟩) else ⟨0, [], 40⟩
theorem gres_zero3 {w V : World} {b4 : Nat} {er : Int} (hb : Below w.heap.size w V) : ∃ a c, Ending.returned (.tuple #[.agg #[.int .i64 0, .slice none 0 0], .int .i64 er]) = .returned (.tuple #[gV 0 a ([] : List TieD).length c, .int .i64 er]) ∧ TiesNew w.heap.size V a [] ∧ Below w.heap.size w V :=
  ⟨none, 0, rfl, TiesNew.nil _ _ _, hb⟩
end Go.Proofs.YtlllmoafhfjbbaaGreat
