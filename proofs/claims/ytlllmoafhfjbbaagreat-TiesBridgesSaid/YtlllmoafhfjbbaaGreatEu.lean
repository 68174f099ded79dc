/- Layer 4: the specification's kept. -/
import Derived.Test.YtlllmoafhfjbbaaGreatEt
import Derived.Test.YtlllmoafhfjbbaaGreatIx
namespace Go.Proofs.YtlllmoafhfjbbaaGreat
set_option linter.unusedSimpArgs false
set_option linter.unusedVariables false
open Go Go.RowKit

/-- An append of one tie to a row of one's own. -/
theorem own_app (w : World) (base q : Nat) (ty : TypeId) (fa : Option Addr) (fc : Nat) (pre : List TieD) (b9 : Nat) (t : TieD) (hown : w.ownsRow base 33 5 (.slice fa q fc) q (tvL pre)) (ht : TieAt w b9 t) (hq : q ≤ 5000) (hb : base ≤ w.heap.size) :
    ∃ f2 c2 w', (Builtin.append_ #[22, 22] ty #[.slice fa q fc, .slice (some ⟨b9, 0, none⟩) 1 1]).run Tryz.prog w = .ok (.slice f2 (q + 1) c2) w' ∧ w'.ownsRow base 33 5 (.slice f2 (q + 1) c2) (q + 1) (tvL (pre ++ [t])) ∧ w.grownBy w' (Value.ownBlock (.slice fa q fc)) := by
  obtain ⟨i0, hi0, hz0, hz1, hz2⟩ := info_parts infoT
  obtain ⟨v', w', h1, h2, h3, _⟩ := run_append_own w base 22 ty 33 i0 _ 5 40 Tryz.underlying22 hi0 hz0 hz1 hz2 rfl (by decide) (.slice fa q fc) q (tvL pre) hown ⟨b9, 0, none⟩ 1 1 (tvC t) rfl (tie_cells ht) (by simp [tvC, Value.oneCell']) (by simp only [maxLen]; omega) (by omega) hb
  obtain ⟨f2, c2, rfl⟩ := own_slice h2
  exact ⟨f2, c2, w', h1, by rw [tvL_snoc]; exact h2, h3⟩
theorem new_tie {w0 w : World} {t : TieD} {ρ : Operand → Value} {o : Oper} (h : (execOp ρ o).run Tryz.prog w = .ok (.value (.slice (some ⟨w.heap.size, 0, none⟩) 1 1)) (w.alloc (.cells #[.int .i64 t.a, .int .i64 t.b, .int .i64 t.kind, .int .i64 t.str, .int .i64 t.src] 33))) (hC : (clOld w0).C w) :
    ∃ u w', (execOp ρ o).run Tryz.prog w = .ok (.value u) w' ∧ (clOld w0).R w w' ∧ tieW t u w' := tieW_new h hC
end Go.Proofs.YtlllmoafhfjbbaaGreat
