/- Layer 4: the specification's Valid and Check. -/
import Derived.Test.YtlllmoafhfjbbaaGreatEe
namespace Go.Proofs.YtlllmoafhfjbbaaGreat
set_option linter.unusedSimpArgs false
set_option linter.unusedVariables false
open Go Go.RowKit

theorem kind_two (k : Int) : ftB k 1 2 = (k == 2 || k == 1) := by
  unfold ftB
  rw [Bool.eq_iff_iff]
  simp only [Bool.and_eq_true, Bool.or_eq_true, decide_eq_true_eq, beq_iff_eq]
  omega
theorem tie_cases2 (t : TieD) (n : Int) : (ftB t.a 0 (n - 1) = false ∧ tieB t n = false) ∨ (ftB t.a 0 (n - 1) = true ∧ ftB t.b 0 (n - 1) = false ∧ tieB t n = false) ∨ (ftB t.a 0 (n - 1) = true ∧ ftB t.b 0 (n - 1) = true ∧ t.a = t.b ∧ tieB t n = false) ∨
    (ftB t.a 0 (n - 1) = true ∧ ftB t.b 0 (n - 1) = true ∧ (t.a == t.b) = false ∧ ((ftB t.kind 1 2 = false ∧ tieB t n = false) ∨
      (ftB t.kind 1 2 = true ∧ ftB t.str 1 100 = false ∧ tieB t n = false) ∨ (ftB t.kind 1 2 = true ∧ ftB t.str 1 100 = true ∧ ftB t.src 0 4095 = false ∧ tieB t n = false) ∨ (ftB t.kind 1 2 = true ∧ ftB t.str 1 100 = true ∧ ftB t.src 0 4095 = true ∧ tieB t n = true))) := by
  rw [kind_two]
  unfold tieB
  cases ftB t.a 0 (n - 1) <;> cases ftB t.b 0 (n - 1) <;> by_cases h : t.a = t.b <;> cases (t.kind == 2 || t.kind == 1) <;> cases ftB t.str 1 100 <;> cases ftB t.src 0 4095 <;> simp [h]
theorem load_tie {w : World} {b o : Nat} {t : TieD} (h0 : w.cell? ⟨b, o, none⟩ = some (.int .i64 t.a)) (h1 : w.cell? ⟨b, o + 1, none⟩ = some (.int .i64 t.b)) (h2 : w.cell? ⟨b, o + 2, none⟩ = some (.int .i64 t.kind)) (h3 : w.cell? ⟨b, o + 3, none⟩ = some (.int .i64 t.str)) (h4 : w.cell? ⟨b, o + 4, none⟩ = some (.int .i64 t.src)) :
    (Instr.loadAt 33 (.pointer (some ⟨b, o, none⟩))).run Tryz.prog w = .ok (tieV t) w := by
  simp [go_sem, Instr.loadAt, h0, h1, h2, h3, h4, tieV]
theorem idx_tie (b o n cap k : Nat) (h : k < n) (w : World) : (Instr.indexAt 22 (.slice (some ⟨b, o, none⟩) n cap) (.int .i64 k)).run Tryz.prog w = .ok (.pointer (some ⟨b, o + k * 5, none⟩)) w := by
  simp [go_sem, Instr.indexAt, h]
theorem un_not (a : Bool) (w : World) : (Op.unary .not (.bool a)).run Tryz.prog w = .ok (.bool (!a)) w := by
  simp [go_sem, Op.unary]
theorem load_slt {w : World} {b o : Nat} {a : Option Addr} {len cap : Nat} (h : w.cell? ⟨b, o, none⟩ = some (.slice a len cap)) : (Instr.loadAt 22 (.pointer (some ⟨b, o, none⟩))).run Tryz.prog w = .ok (.slice a len cap) w := by
  simp [go_sem, Instr.loadAt, h]
end Go.Proofs.YtlllmoafhfjbbaaGreat
