/- Layer 4: the specification's all. -/
import Derived.Test.YtmnabonhilkkbaaGreatEm
namespace Go.Proofs.YtmnabonhilkkbaaGreat
set_option linter.unusedSimpArgs false
set_option linter.unusedVariables false
open Go Go.RowKit

theorem infoB : (Tryz.prog.info? 4).map (fun i => (i.zero, i.size, i.bytes)) = some (some (.bool false), 1, 1) := by kernel_rfl
def bvL (l : List Bool) : List Value := l.map Value.bool
theorem bvL_len (l : List Bool) : (bvL l).length = l.length := by simp [bvL]
theorem bvL_get {l : List Bool} {i : Nat} {b : Bool} (h : l[i]? = some b) : (bvL l)[i]? = some (.bool b) := by simp [bvL, h]
theorem bvL_set (l : List Bool) (i : Nat) (b : Bool) : (bvL l).set i (.bool b) = bvL (l.set i b) := by simp [bvL, List.map_set]
theorem made_b (n : Nat) : madeCells #[Value.bool false] n = (bvL (List.replicate n false)).toArray := by
  apply Array.ext_getElem?
  intro i
  by_cases hi : i < n
  · simp [madeCells, bvL, hi, Nat.mod_one]
  · simp [madeCells, bvL, hi]
theorem make_b (n : Nat) (hn : n ≤ 100000) (w : World) : (Instr.makeSlice 58 (.int .i64 (n : Int)) (.int .i64 (n : Int))).run Tryz.prog w = .ok (.slice (some ⟨w.heap.size, 0, none⟩) n n) (w.alloc (.cells (bvL (List.replicate n false)).toArray 4)) := by
  obtain ⟨i0, hi0, hz0, hz1, hz2⟩ := info_parts infoB
  have hr := run_make (P := Tryz.prog) w 58 4 i0 (.bool false) Tryz.underlying58 hi0 hz0 .i64 .i64 n n (by omega) (Int.le_refl _) (by rw [hz2]; omega) (by omega)
  simp only [Int.toNat_natCast, hz1, Value.cells, Nat.mul_one] at hr
  rw [← made_b]
  exact hr
/-- A list of truth values that is being filled: k of them are f's, the rest stands as it was. -/
def filL (f g : Nat → Bool) (n k : Nat) : List Bool := (List.range n).map fun i => if i < k then f i else g i
theorem filL_len (f g : Nat → Bool) (n k : Nat) : (filL f g n k).length = n := by simp [filL]
theorem filL_get {f g : Nat → Bool} {n k i : Nat} (h : i < n) : (filL f g n k)[i]? = some (if i < k then f i else g i) := by simp [filL, h]
theorem filL_zero (f g : Nat → Bool) (n : Nat) : filL f g n 0 = (List.range n).map g := by simp [filL]
theorem filL_all (f g : Nat → Bool) (n : Nat) : filL f g n n = (List.range n).map f := by
  unfold filL
  apply List.map_congr_left
  intro i hi
  rw [if_pos (List.mem_range.1 hi)]
theorem filL_set (f g : Nat → Bool) {n k : Nat} (h : k < n) : (filL f g n k).set k (f k) = filL f g n (k + 1) := by
  apply List.ext_getElem?
  intro i
  rw [List.getElem?_set, filL_len]
  by_cases hi : i < n
  · rw [filL_get hi, filL_get hi]
    by_cases hk : k = i
    · subst hk; simp [hi]
    · rw [if_neg hk]
      by_cases h1 : i < k
      · rw [if_pos h1, if_pos (by omega)]
      · rw [if_neg h1, if_neg (by omega)]
  · rw [if_neg (by omega : ¬ k = i)]
    rw [List.getElem?_eq_none (by rw [filL_len]; omega), List.getElem?_eq_none (by rw [filL_len]; omega)]
theorem range_rep (n : Nat) (b : Bool) : (List.range n).map (fun _ => b) = List.replicate n b := by
  apply List.ext_getElem?; intro i
  by_cases h : i < n <;> simp [h]
set_option maxRecDepth 100000 in
set_option maxHeartbeats 4000000 in
theorem rAll_any (n : Int) (a : Option Addr) (cap : Nat) (ts : List TieD) (w : World) (hl : ts.length ≤ 1000) :
    Calls Tryz.prog 36 #[gV n a ts.length cap] w fun e w' => ∃ g, e = .returned (.slice (some ⟨g, 0, none⟩) ts.length ts.length) ∧ Blk w' g (bvL (List.replicate ts.length true)) 4 ∧ w.heap.size ≤ g ∧ Below w.heap.size w w' := by
  obtain ⟨m, hm⟩ : ∃ m, m = ts.length := ⟨_, rfl⟩
  rw [← hm] at hl ⊢
  clear hm
  have hmk := make_b m (by omega)
  have HB0 : Hid (Blk (w.alloc (.cells #[.int .i64 n, .slice a m cap] 24)) w.heap.size [.int .i64 n, .slice a m cap] 24) := Blk.new w _ _
  have c1 := HB0.out.cell (i := 1) rfl
  go_enter Tryz.func36, Tryz.ntmps36
  simp only [gV]
  go_wp2_with fail
  obtain ⟨b2, hb2⟩ : ∃ b2, b2 = w.heap.size + 1 := ⟨_, rfl⟩
  have HB2 := Lib.hid hb2
  try rw [← hb2]
  clear c1 hmk
  go_loopg [4] m (fun gk t4 wr => ∃ k : Nat, k + gk = m ∧ t4 = .int .i64 k ∧ Hid (Blk wr b2 (bvL (filL (fun _ => true) (fun _ => false) m k)) 4) ∧ Hid (Below w.heap.size w wr))
  case atStart =>
    refine ⟨0, by omega, rfl, ?_, ((Below.refl _ _).alloc (Nat.le_refl _) _).alloc (by simp) _⟩
    rw [filL_zero, range_rep]
    have := Blk.new (w.alloc (.cells #[.int .i64 n, .slice a m cap] 24)) (bvL (List.replicate m false)) 4
    rw [hb2]
    simpa [Hid] using this
  case round =>
    obtain ⟨k, hkg, rfl, HK, HB⟩ := hrel
    clear hb2
    by_cases hlt : k < m
    · have hc := HK.out.cell (bvL_get (filL_get hlt))
      have hf := HK.out.frozen k
      have HN : Hid (Blk (wr.setCell ⟨b2, k, none⟩ (.bool true)) b2 (bvL (filL (fun _ => true) (fun _ => false) m (k + 1))) 4) := by
        have h1 := HK.out.set_ k (.bool true)
        rw [bvL_set, filL_set (fun _ => true) (fun _ => false) hlt] at h1
        exact h1
      have HBN : Hid (Below w.heap.size w (wr.setCell ⟨b2, k, none⟩ (.bool true))) := HB.out.setCell (by have := HB2.out; show w.heap.size ≤ b2; omega) _
      have t1 : decide (k < m) = true := decide_eq_true hlt
      go_wp2_with fail
      go_roundg (gk - 1)
      case measure => omega
      case rel => exact ⟨k + 1, by omega, by simp, HN, HBN⟩
    · have e : k = m := by omega
      subst e
      have t1 : decide (k < k) = false := by simp
      go_wp2_with fail
      go_ret
      exact ⟨b2, rfl, by have := HK.out; rw [filL_all, range_rep] at this; exact this, by have := HB2.out; omega, HB.out⟩
end Go.Proofs.YtmnabonhilkkbaaGreat
