/- Lists of numbers in memory. -/
import Derived.Test.YtlllmoafhfjbbaaGreatUa
import Derived.Test.YtlllmoafhfjbbaaGreatJo
import Derived.OwnWalk
import Derived.Deep.OwnRows
import Derived.Maps.AppendAt
namespace Go.Proofs.YtlllmoafhfjbbaaGreat
set_option linter.unusedSimpArgs false
set_option linter.unusedVariables false
open Go Go.RowKit

/-- The cells of a slice of numbers. -/
def IntsAt (w : World) (a : Option Addr) (ls : List Int) : Prop := ls = [] ∨ ∃ b o, a = some ⟨b, o, none⟩ ∧ b < w.heap.size ∧ ∀ (i : Nat) (x : Int), ls[i]? = some x → w.cell? ⟨b, o + i, none⟩ = some (.int .i64 x)
theorem IntsAt.below {w w' : World} {a : Option Addr} {ls : List Int} (h : IntsAt w a ls) (hb : Below w.heap.size w w') : IntsAt w' a ls := by
  rcases h with h | ⟨b, o, rfl, hlt, h⟩
  · exact .inl h
  · exact .inr ⟨b, o, rfl, Nat.lt_of_lt_of_le hlt hb.size, fun i e he => by rw [hb.cell (by exact hlt)]; exact h i e he⟩
theorem IntsAt.at {w : World} {a : Option Addr} {ls : List Int} (h : IntsAt w a ls) {i : Nat} (hi : i < ls.length) : ∃ b o, a = some ⟨b, o, none⟩ ∧ b < w.heap.size ∧ w.cell? ⟨b, o + i, none⟩ = some (.int .i64 ls[i]) := by
  rcases h with rfl | ⟨b, o, rfl, hlt, h⟩
  · simp at hi
  · exact ⟨b, o, rfl, hlt, h i _ (List.getElem?_eq_getElem hi)⟩
theorem neq_i64 (t : TypeId) (x y : Operand) (a b : Int) (p : Bool) (hp : p = !decide (a = b)) (w : World) : (do eqGuard .neq t x y (.int .i64 a) (.int .i64 b); binOp .neq t (.int .i64 a) (.int .i64 b) : Sem Value).run Tryz.prog w = .ok (.bool p) w := by
  subst hp
  by_cases h : a = b
  · subst h; simp [go_sem]
  · have h2 : (a == b) = false := by rw [beq_eq_false_iff_ne]; exact h
    simp [go_sem, h, h2]
theorem idx_i64 (b o n cap k : Nat) (h : k < n) (w : World) : (Instr.indexAt 25 (.slice (some ⟨b, o, none⟩) n cap) (.int .i64 k)).run Tryz.prog w = .ok (.pointer (some ⟨b, o + k, none⟩)) w := by
  simp [go_sem, Instr.indexAt, h]
theorem load_i64 {w : World} {b o : Nat} {a : Int} (h : w.cell? ⟨b, o, none⟩ = some (.int .i64 a)) : (Instr.loadAt 3 (.pointer (some ⟨b, o, none⟩))).run Tryz.prog w = .ok (.int .i64 a) w := by
  simp [go_sem, Instr.loadAt, h]
theorem eql_i64 (t : TypeId) (x y : Operand) (a b : Int) (p : Bool) (hp : p = decide (a = b)) (w : World) : (do eqGuard .eql t x y (.int .i64 a) (.int .i64 b); binOp .eql t (.int .i64 a) (.int .i64 b) : Sem Value).run Tryz.prog w = .ok (.bool p) w := by
  subst hp
  by_cases h : a = b
  · subst h; simp [go_sem]
  · have h2 : (a == b) = false := by rw [beq_eq_false_iff_ne]; exact h
    simp [go_sem, h, h2]
def ivL (l : List Int) : List Value := l.map (Value.int .i64)
theorem ivL_len (l : List Int) : (ivL l).length = l.length := List.length_map _
theorem ivL_snoc (l : List Int) (x : Int) : ivL (l ++ [x]) = ivL l ++ [.int .i64 x] := by simp [ivL]
theorem infoInt : (Tryz.prog.info? 3).map (fun i => (i.zero, i.size, i.bytes)) = some (some (.int .i64 0), 1, 8) := by kernel_rfl
/-- What a slice that owns its numbers lets read. -/
theorem own_ints {W : World} {base : Nat} {v : Value} {k : Nat} {l : List Int} (h : W.ownsRow base 3 1 v k (ivL l)) : ∃ a cap, v = .slice a l.length cap ∧ k = l.length ∧ IntsAt W a l := by
  obtain ⟨hl, h⟩ := h
  rw [Nat.mul_one, ivL_len] at hl
  subst hl
  rcases h with ⟨rfl, h0⟩ | ⟨g, cap, cur, rfl, hg, hb, h1, h2, h3, h4⟩
  · exact ⟨none, 0, by rw [h0], rfl, .inl (List.length_eq_zero_iff.1 h0)⟩
  · refine ⟨some ⟨g, 0, none⟩, cap, rfl, rfl, .inr ⟨g, 0, rfl, (Array.getElem?_eq_some_iff.1 hb).1, fun i x hi => ?_⟩⟩
    rw [Nat.mul_one] at h4
    have h5 : (ivL l)[i]? = some (.int .i64 x) := by unfold ivL; rw [List.getElem?_map, hi]; rfl
    rw [← h4, List.getElem?_take] at h5
    split at h5
    · rw [Nat.zero_add]
      simp only [World.cell?, hb]
      rw [← Array.getElem?_toList]; exact h5
    · cases h5
/-- A block of numbers. -/
def NB (W : World) (g : Nat) (xs : List Int) : Prop := W.heap[g]? = some (.cells (ivL xs).toArray 3 (0, 0))
theorem NB.lt {W : World} {g : Nat} {xs : List Int} (h : NB W g xs) : g < W.heap.size := by
  rcases Nat.lt_or_ge g W.heap.size with hlt | hge
  · exact hlt
  · unfold NB at h; rw [Array.getElem?_eq_none hge] at h; cases h
theorem NB.cell {W : World} {g : Nat} {xs : List Int} (h : NB W g xs) {i : Nat} {x : Int} (hx : xs[i]? = some x) : W.cell? ⟨g, i, none⟩ = some (.int .i64 x) := by
  unfold NB at h
  simp only [World.cell?, h]
  simp [ivL, hx]
theorem NB.frozen {W : World} {g : Nat} {xs : List Int} (h : NB W g xs) (i : Nat) : W.frozen? ⟨g, i, none⟩ = false := by
  unfold NB at h
  simp [World.frozen?, h]
theorem NB.set_ {W : World} {g : Nat} {xs : List Int} (h : NB W g xs) (i : Nat) (u : Int) : NB (W.setCell ⟨g, i, none⟩ (.int .i64 u)) g (xs.set i u) := by
  unfold NB at h ⊢
  simp [World.setCell, Array.getElem?_modify, h, ivL, List.map_set]
theorem NB.ints {W : World} {g : Nat} {xs : List Int} (h : NB W g xs) : IntsAt W (some ⟨g, 0, none⟩) xs := .inr ⟨g, 0, rfl, h.lt, fun i x hi => by rw [Nat.zero_add]; exact h.cell hi⟩
theorem NB.block {W W' : World} {g : Nat} {xs : List Int} (h : NB W g xs) (e : W'.heap[g]? = W.heap[g]?) : NB W' g xs := by unfold NB at h ⊢; rw [e]; exact h
theorem NB.made (W : World) (n : Nat) : NB (W.alloc (.cells (madeCells #[.int .i64 0] n) 3)) W.heap.size (List.replicate n 0) := by
  have e : madeCells #[Value.int .i64 0] n = (ivL (List.replicate n 0)).toArray := by
    apply Array.ext_getElem?
    intro i
    by_cases hi : i < n
    · simp [madeCells, ivL, hi, Nat.mod_one]
    · simp [madeCells, ivL, hi]
  unfold NB
  rw [e]
  exact heap_alloc_new W _
end Go.Proofs.YtlllmoafhfjbbaaGreat
