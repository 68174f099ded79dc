/- Layer 4: slices.Grow and Concat of ties. -/
import Derived.Test.YtlllmoafhfjbbaaGreatEj
import Derived.Lib.AppendZeros
namespace Go.Proofs.YtlllmoafhfjbbaaGreat
set_option linter.unusedSimpArgs false
set_option linter.unusedVariables false
open Go Go.RowKit

theorem own_zeros (w : World) (n : Nat) (h0 : 0 < n) (hn : n ≤ 2000) (Z : Array Value) (hz : Z.size = 5) : (w.alloc (.cells (Builtin.zeroCells Z n ++ Builtin.zeroCells Z (grownCap w n 0 33 - n)) 33)).drew.ownsRow w.heap.size 33 5 (.slice (some ⟨w.heap.size, 0, none⟩) 0 (grownCap w n 0 33)) 0 [] := by
  have hge := grownCap_ge w n 0 33
  have hcm : grownCap w n 0 33 ≤ maxLen := grownCap_le_maxLen w n 0 _ (by simp only [maxLen]; omega)
  generalize grownCap w n 0 33 = c at *
  refine ⟨by simp, .inr ⟨w.heap.size, _, _, rfl, Nat.le_refl _, heap_alloc_new w _, Nat.zero_le _, hcm, ?_, by simp⟩⟩
  simp only [Array.size_append, size_zeroCells, hz, ← Nat.add_mul]
  congr 1
  omega
theorem run_append_nothing (w : World) (base n : Nat) (v : Value) (xs : List Value) (ty : TypeId) (cap : Nat) (hown : w.ownsRow base 33 5 v n xs) :
    (Builtin.append_ #[22, 22] ty #[v, .slice none 0 cap]).run Tryz.prog w = .ok v w := by
  obtain ⟨i0, hi0, hz0, hz1, hz2⟩ := info_parts infoT
  obtain ⟨hl, h⟩ := hown
  rcases h with ⟨rfl, h0⟩ | ⟨g, cp, cur, rfl, hg, hb, h1, h2, h3, h4⟩
  · simp [Builtin.append_, run_underlying Tryz.underlying22, sizeOf, typeInfo, hi0, Builtin.lenOf, Builtin.firstCells, loadCells, loadCellsFrom]
  · simp [Builtin.append_, run_underlying Tryz.underlying22, sizeOf, typeInfo, hi0, Builtin.lenOf, Builtin.firstCells, loadCells, loadCellsFrom, h1, storeCells]
theorem run_append_ties (w : World) (base n : Nat) (v : Value) (xs : List Value) (ty : TypeId) (a : Option Addr) (cap : Nat) (l : List TieD) (hown : w.ownsRow base 33 5 v n xs) (hs : TiesAt w a l) (hbase : base ≤ w.heap.size) (hn : n + l.length ≤ 5000) :
    ∃ v' w', (Builtin.append_ #[22, 22] ty #[v, .slice a l.length cap]).run Tryz.prog w = .ok v' w' ∧ w'.ownsRow base 33 5 v' (n + l.length) (xs ++ tvL l) ∧ Below base w w' := by
  obtain ⟨i0, hi0, hz0, hz1, hz2⟩ := info_parts infoT
  cases a with
  | none =>
    have h0 : l = [] := hs.elim id fun ⟨_, _, h, _⟩ => by cases h
    subst h0
    exact ⟨v, w, run_append_nothing w base n v xs ty cap hown, by simpa [tvL] using hown, (Below.refl _ _).mono hbase⟩
  | some ad =>
    obtain ⟨v', w', h1, h2, h3, _⟩ := run_append_own w base 22 ty 33 i0 _ 5 40 Tryz.underlying22 hi0 hz0 hz1 hz2 rfl (by decide) v n xs hown ad l.length cap (tvL l) (tvL_len l) (ties_src hs) (tvL_one l) (by simp only [maxLen]; omega) (by omega) hbase
    exact ⟨v', w', h1, h2, ((Below.refl _ _).mono hbase).grown h3 (by omega) (fun q hq => (World.ownsRow.lt hown q hq).1)⟩
set_option maxRecDepth 100000 in
set_option maxHeartbeats 4000000 in
theorem growT_any (n : Nat) (w : World) (hn : n ≤ 2000) :
    Calls Tryz.prog 78 #[.slice none 0 0, .int .i64 n] w fun e w' => ∃ v, e = .returned v ∧ w'.ownsRow w.heap.size 33 5 v 0 [] ∧ Below w.heap.size w w' := by
  obtain ⟨i0, hi0, hz0, hz1, hz2⟩ := info_parts infoT
  have t1 : decide ((n : Int) < 0) = false := decide_eq_false (by omega)
  by_cases h0 : 0 < n
  · have t2 : decide ((0 : Int) < n) = true := decide_eq_true (by omega)
    go_enter Tryz.func78, Tryz.ntmps78
    go_wp2_with (first | (at_builtin; go_loud (refine Lib.wpList_append_run _ rfl _ _ _ _ rfl _ _ rfl rfl _ _ (Lib.run_append_nil_zeros _ 22 3 _ 33 i0 _ .i64 .i64 Tryz.underlying22 Tryz.underlying3 hi0 hz0 n h0 (by omega) (by omega) (by rw [hz2]; omega)) ?_)))
    refine bodyPost_ret (v := .slice (some ⟨w.heap.size, 0, none⟩) 0 (grownCap w n 0 33)) (by simp [results, Tryz.results78, go_sem]) rfl ?_
    exact ⟨_, rfl, own_zeros w n h0 hn _ rfl, ((Below.refl _ _).alloc (Nat.le_refl _) _).drew⟩
  · have e0 : n = 0 := by omega
    subst e0
    go_enter Tryz.func78, Tryz.ntmps78
    go_wp2_with fail
    refine bodyPost_ret (v := .slice none 0 0) (by simp [results, Tryz.results78, go_sem]) rfl ?_
    exact ⟨_, rfl, World.ownsRow_nil _ _ _ _, Below.refl _ _⟩
end Go.Proofs.YtlllmoafhfjbbaaGreat
