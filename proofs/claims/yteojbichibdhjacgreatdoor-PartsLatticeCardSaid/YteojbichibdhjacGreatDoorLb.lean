/- Layer 6: pairs of numbers in memory, as codes; their normal form. -/
import Derived.Test.YteojbichibdhjacGreatDoorLa
import Derived.Test.YteojbichibdhjacGreatDoorUc
namespace Go.Proofs.YteojbichibdhjacGreatDoor
set_option linter.unusedSimpArgs false
set_option linter.unusedVariables false
open Go Go.RowKit

def cA (c : Int) : Int := c / 33
def cB (c : Int) : Int := c % 33
theorem c_eq (c d : Int) : (cA c = cA d ∧ cB c = cB d) ↔ c = d := by unfold cA cB; omega
def pV (c : Int) : Value := .agg #[.int .i64 (cA c), .int .i64 (cB c)]
def pvL : List Int → List Value
  | [] => []
  | c :: l => .int .i64 (cA c) :: .int .i64 (cB c) :: pvL l
theorem pvL_len : ∀ l, (pvL l).length = l.length * 2
  | [] => rfl
  | c :: l => by simp [pvL, pvL_len l]; omega
theorem pvL_snoc : ∀ (l : List Int) (c : Int), pvL (l ++ [c]) = pvL l ++ [.int .i64 (cA c), .int .i64 (cB c)]
  | [], c => rfl
  | d :: l, c => by simp [pvL, pvL_snoc l c]
theorem pvL_get : ∀ {l : List Int} {i : Nat} {c : Int}, l[i]? = some c → (pvL l)[i * 2]? = some (.int .i64 (cA c)) ∧ (pvL l)[i * 2 + 1]? = some (.int .i64 (cB c))
  | [], i, c, h => by simp at h
  | d :: l, 0, c, h => by simp at h; subst h; exact ⟨rfl, rfl⟩
  | d :: l, i + 1, c, h => by
    have ih := pvL_get (l := l) (i := i) (c := c) (by simpa using h)
    rw [show (i + 1) * 2 = i * 2 + 2 by omega]
    exact ⟨by simpa [pvL] using ih.1, by simpa [pvL] using ih.2⟩
/-- The cells of a slice of pairs. -/
def CdAt (w : World) (a : Option Addr) (cs : List Int) : Prop := cs = [] ∨ ∃ b o, a = some ⟨b, o, none⟩ ∧ b < w.heap.size ∧ ∀ i c, cs[i]? = some c → w.cell? ⟨b, o + i * 2, none⟩ = some (.int .i64 (cA c)) ∧ w.cell? ⟨b, o + i * 2 + 1, none⟩ = some (.int .i64 (cB c))
theorem CdAt.below {w w' : World} {a : Option Addr} {cs : List Int} (h : CdAt w a cs) (hb : Below w.heap.size w w') : CdAt w' a cs := by
  rcases h with h | ⟨b, o, rfl, hlt, h⟩
  · exact .inl h
  · refine .inr ⟨b, o, rfl, Nat.lt_of_lt_of_le hlt hb.size, fun i e he => ?_⟩
    obtain ⟨h1, h2⟩ := h i e he
    exact ⟨by rw [hb.cell (by exact hlt)]; exact h1, by rw [hb.cell (by exact hlt)]; exact h2⟩
theorem CdAt.at {w : World} {a : Option Addr} {cs : List Int} (h : CdAt w a cs) {i : Nat} (hi : i < cs.length) : ∃ b o, a = some ⟨b, o, none⟩ ∧ b < w.heap.size ∧ w.cell? ⟨b, o + i * 2, none⟩ = some (.int .i64 (cA cs[i])) ∧ w.cell? ⟨b, o + i * 2 + 1, none⟩ = some (.int .i64 (cB cs[i])) := by
  rcases h with rfl | ⟨b, o, rfl, hlt, h⟩
  · simp at hi
  · exact ⟨b, o, rfl, hlt, h i _ (List.getElem?_eq_getElem hi)⟩
theorem own_pairs {W : World} {base : Nat} {v : Value} {k : Nat} {l : List Int} (h : W.ownsRow base 81 2 v k (pvL l)) : ∃ a cap, v = .slice a l.length cap ∧ k = l.length ∧ CdAt W a l := by
  obtain ⟨hl, h⟩ := h
  rw [pvL_len] at hl
  have hl : k = l.length := by omega
  subst hl
  rcases h with ⟨rfl, h0⟩ | ⟨g, cap, cur, rfl, hg, hb, h1, h2, h3, h4⟩
  · exact ⟨none, 0, by rw [h0], rfl, .inl (List.length_eq_zero_iff.1 h0)⟩
  · have key : ∀ {j : Nat} {u : Value}, (pvL l)[j]? = some u → W.cell? ⟨g, j, none⟩ = some u := fun {j u} h5 => by
      rw [← h4, List.getElem?_take] at h5
      split at h5
      · simp only [World.cell?, hb]
        rw [← Array.getElem?_toList]; exact h5
      · cases h5
    refine ⟨some ⟨g, 0, none⟩, cap, rfl, rfl, .inr ⟨g, 0, rfl, (Array.getElem?_eq_some_iff.1 hb).1, fun i x hi => ?_⟩⟩
    rw [Nat.zero_add]
    exact ⟨key (pvL_get hi).1, key (pvL_get hi).2⟩
theorem load_p {w : World} {b o : Nat} {c : Int} (h0 : w.cell? ⟨b, o, none⟩ = some (.int .i64 (cA c))) (h1 : w.cell? ⟨b, o + 1, none⟩ = some (.int .i64 (cB c))) : (Instr.loadAt 81 (.pointer (some ⟨b, o, none⟩))).run Tryz.prog w = .ok (pV c) w := by
  simp [go_sem, Instr.loadAt, h0, h1, pV]
theorem idx_p (b o n cap k : Nat) (h : k < n) (w : World) : (Instr.indexAt 80 (.slice (some ⟨b, o, none⟩) n cap) (.int .i64 k)).run Tryz.prog w = .ok (.pointer (some ⟨b, o + k * 2, none⟩)) w := by
  simp [go_sem, Instr.indexAt, h]
theorem eql_p (x y : Operand) (c d : Int) (p : Bool) (hp : p = decide (c = d)) (w : World) : (do eqGuard .eql 81 x y (pV c) (pV d); binOp .eql 81 (pV c) (pV d) : Sem Value).run Tryz.prog w = .ok (.bool p) w := by
  have h : p = (decide (cA c = cA d) && decide (cB c = cB d)) := by
    rw [hp, Bool.eq_iff_iff]
    simp only [Bool.and_eq_true, decide_eq_true_eq]
    exact (c_eq c d).symm
  subst h
  have hcs : Tryz.prog.cellsOf 3 = 1 := by kernel_rfl
  have he : ∀ w, (Op.equalIn 10000 81 (pV c) (pV d)).run Tryz.prog w = .ok (decide (cA c = cA d) && decide (cB c = cB d)) w := fun w => by
    unfold Op.equalIn
    simp only [Sem.run_bind, run_underlying Tryz.underlying81, Result.andThen_ok, pV]
    by_cases h1 : cA c = cA d <;> by_cases h2 : cB c = cB d <;> simp [go_sem, h1, h2, hcs, List.range', List.forIn_cons, List.forIn_nil, isAgg, run_underlying Tryz.underlying3, run_equalIn_int _ _ _ _ _ _ _ Tryz.underlying3]
  simp [go_sem, pV] at he ⊢
  rw [he]
  rfl
end Go.Proofs.YteojbichibdhjacGreatDoor
