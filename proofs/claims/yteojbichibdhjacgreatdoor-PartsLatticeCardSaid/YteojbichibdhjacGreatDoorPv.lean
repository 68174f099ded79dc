/- Layer 6: arguments that are slices of numbers: what they hold. -/
import Derived.Test.YteojbichibdhjacGreatDoorPa
import Derived.ChangeShapes
import Derived.ChangeReads
import Derived.ChangeArms
import Derived.ChangeSame
import Derived.ChangeSlices
import Derived.ChangeMaps5
import Derived.Deep.Strs
import Derived.Carry
import Derived.RowKit
import Derived.ProofKit
namespace Go.Proofs.YteojbichibdhjacGreatDoor
set_option linter.unusedSimpArgs false
set_option linter.unusedVariables false
open Go Go.RowKit Go.ChangeShapes Go.WideShapes

theorem cellsInt' : Tryz.prog.cellsOf 3 = 1 := by kernel_rfl
variable {H : Type} {enc : TypeId × Value → H} {W : World} {base : Nat} {r : Reach}
theorem ilist_of {R : Nat → Int → Prop} {n : Nat} (h : ∀ i, i < n → ∃ m, R i m) : ∃ ls : List Int, ls.length = n ∧ ∀ i m, ls[i]? = some m → R i m := by
  refine ⟨(List.range n).map fun i => if h' : i < n then Classical.choose (h i h') else 0, by simp, fun i N hi => ?_⟩
  have hi' : i < n := by have := (List.getElem?_eq_some_iff.1 hi).1; simpa using this
  simp [hi'] at hi
  rw [← hi]
  exact Classical.choose_spec (h i hi')
theorem shape_lt' {W : World} {b : Nat} {x : TypeId × Nat} (h : W.shape? b = some x) : b < W.heap.size := by
  by_cases hb : b < W.heap.size
  · exact hb
  · have : W.heap[b]? = none := Array.getElem?_eq_none (by omega)
    simp [World.shape?, this] at h
set_option maxRecDepth 100000 in
theorem cell_blockI {b0 : Nat} {a : Addr} {len cap : Nat} (hval : Value.okWide Tryz.prog W r b0 22 (.slice (some a) len cap)) : a.spot = none ∧ a.block < W.heap.size := by
  simp only [Value.okWide, Tryz.underlying22, Cell.okWide, Cell.ok] at hval
  obtain ⟨_, _, _, hsp, row, cells, hs, _⟩ := hval
  exact ⟨hsp, shape_lt' hs⟩
theorem plain_add (b o n : Nat) : (⟨b, o, none⟩ : Addr).add n = ⟨b, o + n, none⟩ := by unfold Addr.add; split <;> simp_all
set_option maxRecDepth 100000 in
/-- A slice of numbers: what it holds. -/
theorem open_nums {b0 : Nat} {v : Value} {d : DataW H} {ps : List MemPlace} (hval : Value.okWide Tryz.prog W r b0 22 v) (hd : DataW.Trod enc Tryz.prog W 0 (fun _ => true) true 22 v d ps) :
    ∃ (a : Option Addr) (cap : Nat) (ls : List Int), v = .slice a ls.length cap ∧ ls.length ≤ 9223372036854775807 ∧ IntsAt W a ls := by
  obtain ⟨a0, len, cap, rfl⟩ := okWide_slice Tryz.underlying22 hval
  obtain ⟨fuel, hf⟩ := hd
  rcases DataW.trod_slice Tryz.underlying22 hf with ⟨hc, hx⟩ | ⟨a, len', cap', elems, rest, n, _, hcs, hx, hb, hl, hm, hlen, hel, hsp, hns⟩
  · simp [Value.cells] at hc
    obtain ⟨rfl, rfl, rfl⟩ := hc
    exact ⟨none, 0, [], rfl, by simp, .inl rfl⟩
  · simp [Value.cells] at hcs
    obtain ⟨rfl, rfl, rfl⟩ := hcs
    obtain ⟨hspot, hblk⟩ := cell_blockI hval
    obtain ⟨b, o, spot⟩ := a
    dsimp only at hspot hblk
    subst hspot
    have key : ∀ i, i < len → ∃ m : Int, W.cell? ⟨b, o + i, none⟩ = some (.int .i64 m) := fun i hi => by
      have h1 := hel i hi
      rw [List.getElem?_eq_getElem (by omega), Option.bind_eq_some_iff] at h1
      obtain ⟨cs, h2, h3⟩ := h1
      rw [cellsInt'] at h2
      obtain ⟨_, h4, h5⟩ := World.cells?_some h2
      obtain ⟨m, hcs, _, _⟩ := DataW.trod_int Tryz.underlying3 h3
      refine ⟨m, ?_⟩
      have h6 := h5 0 (by omega)
      rw [hcs] at h6
      rw [plain_add, plain_add, Nat.mul_one, Nat.add_zero] at h6
      exact h6
    obtain ⟨ls, hll, hls⟩ := ilist_of key
    subst hll
    have hm' : cap ≤ maxLen := hm
    unfold maxLen at hm'
    exact ⟨some ⟨b, o, none⟩, cap, ls, rfl, by omega, .inr ⟨b, o, rfl, hblk, hls⟩⟩
end Go.Proofs.YteojbichibdhjacGreatDoor
