/- Layer 9: arguments that are entries, or slices of them: what they hold. -/
import Derived.Test.YtlkehdlhlpbomaaJc
import Derived.ChangeShapes
import Derived.ChangeReads
import Derived.ChangeArms
import Derived.ChangeSame
import Derived.ChangeSlices
import Derived.ChangeMaps5
import Derived.Deep.Strs
import Derived.Carry
import Derived.RowKit
import Derived.ProofKit
namespace Go.Proofs.Ytlkehdlhlpbomaa
set_option linter.unusedSimpArgs false
set_option linter.unusedVariables false
open Go Go.RowKit Go.ChangeShapes Go.WideShapes

theorem cellsEntry : Try.prog.cellsOf 23 = 3 := by kernel_rfl
theorem cellsInt' : Try.prog.cellsOf 3 = 1 := by kernel_rfl
theorem cellsStr' : Try.prog.cellsOf 9 = 1 := by kernel_rfl
theorem typesEntry : Try.prog.cellTypes Try.prog.depth 23 = some [3, 3, 9] := by kernel_rfl
variable {H : Type} {enc : TypeId × Value → H} {W : World} {base : Nat} {r : Reach}
theorem trod_entry {fuel : Nat} {cs : List Value} {x : DataW H × List MemPlace} (hlen : cs.length = 3) (hf : DataW.trod enc Try.prog W 0 (fun _ => true) true fuel 23 cs = some x) :
    ∃ m : Itm, m.2.2.size ≤ maxLen ∧ cs = [.int .i64 m.1, .int .i64 m.2.1, .string m.2.2] := by
  match cs, hlen with
  | [a, b, c], _ =>
    cases fuel with
    | zero => simp [DataW.trod] at hf
    | succ n =>
      rw [DataW.trod_step] at hf
      unfold DataW.trodStep at hf
      simp only [Try.underlying23, cellsEntry, show Try.prog.cellsOf 3 = 1 from by kernel_rfl, show Try.prog.cellsOf 9 = 1 from by kernel_rfl] at hf
      simp only [List.length_cons, List.length_nil, Nat.reduceAdd, if_true, Option.map_eq_some_iff, List.mapM_cons, List.mapM_nil, bind, Option.bind_eq_some_iff, pure, Option.some.injEq, List.drop_zero, List.drop_succ_cons, List.take_succ_cons, List.take_zero] at hf
      obtain ⟨ys, ⟨y0, h0, r0, ⟨y1, h1, r1, ⟨y2, h2, r2, rfl, rfl⟩, rfl⟩, rfl⟩, rfl⟩ := hf
      obtain ⟨n0, e0, _, w0⟩ := DataW.trod_int Try.underlying3 h0
      obtain ⟨n1, e1, _, w1⟩ := DataW.trod_int Try.underlying3 h1
      obtain ⟨s, e2, _, w2⟩ := DataW.trod_string Try.underlying9 h2
      rw [cellsInt'] at e0 e1
      rw [cellsStr'] at e2
      have f0 : a = .int .i64 n0 := by have : [a] = [Value.int .i64 n0] := e0; injection this
      have f1 : b = .int .i64 n1 := by have : [b] = [Value.int .i64 n1] := e1; injection this
      have f2 : c = .string s := by have : [c] = [Value.string s] := e2; injection this
      exact ⟨(n0, n1, s), w2, by rw [f0, f1, f2]⟩
theorem ilist_of {R : Nat → Itm → Prop} {n : Nat} (h : ∀ i, i < n → ∃ m, R i m) : ∃ ls : List Itm, ls.length = n ∧ ∀ i m, ls[i]? = some m → R i m := by
  refine ⟨(List.range n).map fun i => if h' : i < n then Classical.choose (h i h') else (0, 0, ⟨#[]⟩), by simp, fun i N hi => ?_⟩
  have hi' : i < n := by have := (List.getElem?_eq_some_iff.1 hi).1; simpa using this
  simp [hi'] at hi
  rw [← hi]
  exact Classical.choose_spec (h i hi')
theorem shape_lt' {W : World} {b : Nat} {x : TypeId × Nat} (h : W.shape? b = some x) : b < W.heap.size := by
  by_cases hb : b < W.heap.size
  · exact hb
  · have : W.heap[b]? = none := Array.getElem?_eq_none (by omega)
    simp [World.shape?, this] at h
set_option maxRecDepth 100000 in
theorem cell_blockE {b0 : Nat} {a : Addr} {len cap : Nat} (hval : Value.okWide Try.prog W r b0 24 (.slice (some a) len cap)) : a.spot = none ∧ a.block < W.heap.size := by
  simp only [Value.okWide, Try.underlying24, Cell.okWide, Cell.ok] at hval
  obtain ⟨_, _, _, hsp, row, cells, hs, _⟩ := hval
  exact ⟨hsp, shape_lt' hs⟩
theorem plain_add (b o n : Nat) : (⟨b, o, none⟩ : Addr).add n = ⟨b, o + n, none⟩ := by unfold Addr.add; split <;> simp_all
set_option maxRecDepth 100000 in
/-- A slice of entries: what it holds. -/
theorem open_ents {b0 : Nat} {v : Value} {d : DataW H} {ps : List MemPlace} (hval : Value.okWide Try.prog W r b0 24 v) (hd : DataW.Trod enc Try.prog W 0 (fun _ => true) true 24 v d ps) :
    ∃ (a : Option Addr) (cap : Nat) (ls : List Itm), v = .slice a ls.length cap ∧ ls.length ≤ 9223372036854775807 ∧ EntsAt W a ls := by
  obtain ⟨a0, len, cap, rfl⟩ := okWide_slice Try.underlying24 hval
  obtain ⟨fuel, hf⟩ := hd
  rcases DataW.trod_slice Try.underlying24 hf with ⟨hc, hx⟩ | ⟨a, len', cap', elems, rest, n, _, hcs, hx, hb, hl, hm, hlen, hel, hsp, hns⟩
  · simp [Value.cells] at hc
    obtain ⟨rfl, rfl, rfl⟩ := hc
    exact ⟨none, 0, [], rfl, by simp, .inl rfl⟩
  · simp [Value.cells] at hcs
    obtain ⟨rfl, rfl, rfl⟩ := hcs
    obtain ⟨hspot, hblk⟩ := cell_blockE hval
    obtain ⟨b, o, spot⟩ := a
    dsimp only at hspot hblk
    subst hspot
    have key : ∀ i, i < len → ∃ m : Itm, W.cell? ⟨b, o + i * 3, none⟩ = some (.int .i64 m.1) ∧ W.cell? ⟨b, o + i * 3 + 1, none⟩ = some (.int .i64 m.2.1) ∧ W.cell? ⟨b, o + i * 3 + 2, none⟩ = some (.string m.2.2) := fun i hi => by
      have h1 := hel i hi
      rw [List.getElem?_eq_getElem (by omega), Option.bind_eq_some_iff] at h1
      obtain ⟨cs, h2, h3⟩ := h1
      rw [cellsEntry] at h2
      obtain ⟨_, h4, h5⟩ := World.cells?_some h2
      obtain ⟨m, hm, hcs⟩ := trod_entry h4 h3
      have at_ : ∀ j u, [Value.int .i64 m.1, .int .i64 m.2.1, .string m.2.2][j]? = some u → W.cell? ⟨b, o + i * 3 + j, none⟩ = some u := fun j u hu => by
        have hj : j < 3 := by have := (List.getElem?_eq_some_iff.1 hu).1; simpa using this
        rw [← hu, ← hcs, ← h5 j hj, plain_add, plain_add]
      exact ⟨m, at_ 0 _ rfl, at_ 1 _ rfl, at_ 2 _ rfl⟩
    obtain ⟨ls, hll, hls⟩ := ilist_of key
    subst hll
    have hm' : cap ≤ maxLen := hm
    unfold maxLen at hm'
    exact ⟨some ⟨b, o, none⟩, cap, ls, rfl, by omega, .inr ⟨b, o, rfl, hblk, hls⟩⟩
set_option maxRecDepth 100000 in
/-- An entry: what it holds. -/
theorem open_entry {v : Value} {dd : DataW H} {ps : List MemPlace} (hval : Value.okWide Try.prog W r base 23 v) (hd : DataW.Trod enc Try.prog W 0 (fun _ => true) true 23 v dd ps) :
    ∃ (o n : Int) (s : ByteArray), v = entV o n s ∧ s.size ≤ 9223372036854775807 := by
  simp only [Value.okWide, Try.underlying23] at hval
  obtain ⟨cs, rfl, h2, _⟩ := hval
  rw [cellsEntry] at h2
  obtain ⟨fuel, hf⟩ := hd
  obtain ⟨l0⟩ := cs
  have h2 : l0.length = 3 := h2
  have hf : DataW.trod enc Try.prog W 0 (fun _ => true) true fuel 23 l0 = some (dd, ps) := hf
  obtain ⟨m, hm, rfl⟩ := trod_entry h2 hf
  unfold maxLen at hm
  exact ⟨m.1, m.2.1, m.2.2, rfl, by omega⟩
end Go.Proofs.Ytlkehdlhlpbomaa
