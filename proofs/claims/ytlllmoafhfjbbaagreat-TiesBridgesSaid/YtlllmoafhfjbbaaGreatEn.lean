/- Layer 4: the specification's all. -/
import Derived.Test.YtlllmoafhfjbbaaGreatEm
namespace Go.Proofs.YtlllmoafhfjbbaaGreat
set_option linter.unusedSimpArgs false
set_option linter.unusedVariables false
open Go Go.RowKit

theorem infoB : (Tryz.prog.info? 4).map (fun i => (i.zero, i.size, i.bytes)) = some (some (.bool false), 1, 1) := by kernel_rfl
def bvL (l : List Bool) : List Value := l.map Value.bool
theorem bvL_len (l : List Bool) : (bvL l).length = l.length := by simp [bvL]
theorem bvL_get {l : List Bool} {i : Nat} {b : Bool} (h : l[i]? = some b) : (bvL l)[i]? = some (.bool b) := by simp [bvL, h]
theorem bvL_set (l : List Bool) (i : Nat) (b : Bool) : (bvL l).set i (.bool b) = bvL (l.set i b) := by simp [bvL, List.map_set]
theorem made_b (n : Nat) : madeCells #[Value.bool false] n = (bvL (List.replicate n false)).toArray := by
  apply Array.ext_getElem?
  intro i
  by_cases hi : i < n
  · simp [madeCells, bvL, hi, Nat.mod_one]
  · simp [madeCells, bvL, hi]
/-- A list of truth values that is being filled: k of them are f's, the rest stands as it was. -/
def filL (f g : Nat → Bool) (n k : Nat) : List Bool := (List.range n).map fun i => if i < k then f i else g i
theorem filL_len (f g : Nat → Bool) (n k : Nat) : (filL f g n k).length = n := by simp [filL]
theorem filL_get {f g : Nat → Bool} {n k i : Nat} (h : i < n) : (filL f g n k)[i]? = some (if i < k then f i else g i) := by simp [filL, h]
theorem filL_zero (f g : Nat → Bool) (n : Nat) : filL f g n 0 = (List.range n).map g := by simp [filL]
theorem filL_all (f g : Nat → Bool) (n : Nat) : filL f g n n = (List.range n).map f := by
  unfold filL
  apply List.map_congr_left
  intro i hi
  rw [if_pos (List.mem_range.1 hi)]
theorem filL_set (f g : Nat → Bool) {n k : Nat} (h : k < n) : (filL f g n k).set k (f k) = filL f g n (k + 1) := by
  apply List.ext_getElem?
  intro i
  rw [List.getElem?_set, filL_len]
  by_cases hi : i < n
  · rw [filL_get hi, filL_get hi]
    by_cases hk : k = i
    · subst hk; simp [hi]
    · rw [if_neg hk]
      by_cases h1 : i < k
      · rw [if_pos h1, if_pos (by omega)]
      · rw [if_neg h1, if_neg (by omega)]
  · rw [if_neg (by omega : ¬ k = i)]
    rw [List.getElem?_eq_none (by rw [filL_len]; omega), List.getElem?_eq_none (by rw [filL_len]; omega)]
theorem range_rep (n : Nat) (b : Bool) : (List.range n).map (fun _ => b) = List.replicate n b := by
  apply List.ext_getElem?; intro i
  by_cases h : i < n <;> simp [h]
end Go.Proofs.YtlllmoafhfjbbaaGreat
