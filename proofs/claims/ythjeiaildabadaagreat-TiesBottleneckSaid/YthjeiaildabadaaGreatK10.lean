/- Layer 4: arguments that are graphs: what they hold. / Layer 4: arguments that are graphs, with their capacity, and slices of numbers. -/
import Derived.Test.YthjeiaildabadaaGreatK3
import Derived.ChangeShapes
import Derived.ChangeReads
import Derived.ChangeArms
import Derived.ChangeSame
import Derived.ChangeSlices
import Derived.ChangeMaps5
import Derived.Deep.Strs
import Derived.Carry
import Derived.RowKit
import Derived.ProofKit
/- Layer 4: arguments that are graphs: what they hold. -/
namespace Go.Proofs.YthjeiaildabadaaGreat
set_option linter.unusedSimpArgs false
set_option linter.unusedVariables false
open Go Go.RowKit Go.ChangeShapes Go.WideShapes

theorem cellsTie : Tryz.prog.cellsOf 54 = 5 := by kernel_rfl
theorem cellsGraph : Tryz.prog.cellsOf 24 = 2 := by kernel_rfl
theorem cellsInt' : Tryz.prog.cellsOf 3 = 1 := by kernel_rfl
theorem typesGraph : Tryz.prog.cellTypes Tryz.prog.depth 24 = some [3, 22] := by kernel_rfl
variable {H : Type} {enc : TypeId × Value → H} {W : World} {base : Nat} {r : Reach}
theorem trod_tie {fuel : Nat} {cs : List Value} {x : DataW H × List MemPlace} (hlen : cs.length = 5) (hf : DataW.trod enc Tryz.prog W 0 (fun _ => true) true fuel 54 cs = some x) :
    ∃ m : TieD, cs = [.int .i64 m.a, .int .i64 m.b, .int .i64 m.kind, .int .i64 m.str, .int .i64 m.src] := by
  match cs, hlen with
  | [a, b, c, d, e], _ =>
    cases fuel with
    | zero => simp [DataW.trod] at hf
    | succ n =>
      rw [DataW.trod_step] at hf
      unfold DataW.trodStep at hf
      simp only [Tryz.underlying54, cellsTie, show Tryz.prog.cellsOf 3 = 1 from by kernel_rfl] at hf
      simp only [List.length_cons, List.length_nil, Nat.reduceAdd, if_true, Option.map_eq_some_iff, List.mapM_cons, List.mapM_nil, bind, Option.bind_eq_some_iff, pure, Option.some.injEq, List.drop_zero, List.drop_succ_cons, List.take_succ_cons, List.take_zero] at hf
      obtain ⟨ys, ⟨y0, h0, r0, ⟨y1, h1, r1, ⟨y2, h2, r2, ⟨y3, h3, r3, ⟨y4, h4, r4, rfl, rfl⟩, rfl⟩, rfl⟩, rfl⟩, rfl⟩, rfl⟩ := hf
      obtain ⟨n0, e0, _, w0⟩ := DataW.trod_int Tryz.underlying3 h0
      obtain ⟨n1, e1, _, w1⟩ := DataW.trod_int Tryz.underlying3 h1
      obtain ⟨n2, e2, _, w2⟩ := DataW.trod_int Tryz.underlying3 h2
      obtain ⟨n3, e3, _, w3⟩ := DataW.trod_int Tryz.underlying3 h3
      obtain ⟨n4, e4, _, w4⟩ := DataW.trod_int Tryz.underlying3 h4
      rw [cellsInt'] at e0 e1 e2 e3 e4
      have f0 : a = .int .i64 n0 := by have : [a] = [Value.int .i64 n0] := e0; injection this
      have f1 : b = .int .i64 n1 := by have : [b] = [Value.int .i64 n1] := e1; injection this
      have f2 : c = .int .i64 n2 := by have : [c] = [Value.int .i64 n2] := e2; injection this
      have f3 : d = .int .i64 n3 := by have : [d] = [Value.int .i64 n3] := e3; injection this
      have f4 : e = .int .i64 n4 := by have : [e] = [Value.int .i64 n4] := e4; injection this
      exact ⟨⟨n0, n1, n2, n3, n4⟩, by rw [f0, f1, f2, f3, f4]⟩
theorem tlist_of {R : Nat → TieD → Prop} {n : Nat} (h : ∀ i, i < n → ∃ m, R i m) : ∃ ls : List TieD, ls.length = n ∧ ∀ i m, ls[i]? = some m → R i m := by
  refine ⟨(List.range n).map fun i => if h' : i < n then Classical.choose (h i h') else ⟨0, 0, 0, 0, 0⟩, by simp, fun i N hi => ?_⟩
  have hi' : i < n := by have := (List.getElem?_eq_some_iff.1 hi).1; simpa using this
  simp [hi'] at hi
  rw [← hi]
  exact Classical.choose_spec (h i hi')
theorem shape_ltT {W : World} {b : Nat} {x : TypeId × Nat} (h : W.shape? b = some x) : b < W.heap.size := by
  by_cases hb : b < W.heap.size
  · exact hb
  · have : W.heap[b]? = none := Array.getElem?_eq_none (by omega)
    simp [World.shape?, this] at h
set_option maxRecDepth 100000 in
theorem cell_blockT {a : Addr} {len cap : Nat} (hval : Cell.okWide Tryz.prog W r base 22 (.slice (some a) len cap)) : a.spot = none ∧ a.block < W.heap.size := by
  simp only [Tryz.underlying22, Cell.okWide, Cell.ok] at hval
  obtain ⟨_, _, _, hsp, row, cells, hs, _⟩ := hval
  exact ⟨hsp, shape_ltT hs⟩
set_option maxRecDepth 100000 in
theorem cell_intT {v : Value} (h : Cell.okWide Tryz.prog W r base 3 v) : ∃ n, v = .int .i64 n := by
  simp only [Cell.okWide, Tryz.underlying3] at h
  cases v with
  | int k n =>
    simp only [Cell.ok, Tryz.underlying3] at h
    obtain ⟨rfl, h⟩ := h
    exact ⟨n, rfl⟩
  | _ => simp [Cell.ok, Tryz.underlying3] at h
theorem plain_addT (b o n : Nat) : (⟨b, o, none⟩ : Addr).add n = ⟨b, o + n, none⟩ := by unfold Addr.add; split <;> simp_all
set_option maxRecDepth 100000 in
/-- A slice of ties: what it holds. -/
theorem open_ties {v : Value} (hv : Cell.okWide Tryz.prog W r base 22 v) {fuel : Nat} {x : DataW H × List MemPlace} (hf : DataW.trod enc Tryz.prog W 0 (fun _ => true) true fuel 22 [v] = some x) :
    ∃ (a : Option Addr) (cap : Nat) (ls : List TieD), v = .slice a ls.length cap ∧ ls.length ≤ 9223372036854775807 ∧ TiesAt W a ls := by
  rcases DataW.trod_slice Tryz.underlying22 hf with ⟨hc, hx⟩ | ⟨a, len, cap, elems, rest, n, _, hcs, hx, hb, hl, hm, hlen, hel, hsp, hns⟩
  · simp only [List.cons.injEq, and_true] at hc
    subst hc
    exact ⟨none, 0, [], rfl, by simp, .inl rfl⟩
  · simp only [List.cons.injEq, and_true] at hcs
    subst hcs
    obtain ⟨hspot, hblk⟩ := cell_blockT hv
    obtain ⟨b, o, spot⟩ := a
    dsimp only at hspot hblk
    subst hspot
    have key : ∀ i, i < len → ∃ m : TieD, W.cell? ⟨b, o + i * 5, none⟩ = some (.int .i64 m.a) ∧ W.cell? ⟨b, o + i * 5 + 1, none⟩ = some (.int .i64 m.b) ∧ W.cell? ⟨b, o + i * 5 + 2, none⟩ = some (.int .i64 m.kind) ∧ W.cell? ⟨b, o + i * 5 + 3, none⟩ = some (.int .i64 m.str) ∧ W.cell? ⟨b, o + i * 5 + 4, none⟩ = some (.int .i64 m.src) := fun i hi => by
      have h1 := hel i hi
      rw [List.getElem?_eq_getElem (by omega), Option.bind_eq_some_iff] at h1
      obtain ⟨cs, h2, h3⟩ := h1
      rw [cellsTie] at h2
      obtain ⟨_, h4, h5⟩ := World.cells?_some h2
      obtain ⟨m, hcs⟩ := trod_tie h4 h3
      have at_ : ∀ j u, [Value.int .i64 m.a, .int .i64 m.b, .int .i64 m.kind, .int .i64 m.str, .int .i64 m.src][j]? = some u → W.cell? ⟨b, o + i * 5 + j, none⟩ = some u := fun j u hu => by
        have hj : j < 5 := by have := (List.getElem?_eq_some_iff.1 hu).1; simpa using this
        rw [← hu, ← hcs, ← h5 j hj, plain_addT, plain_addT]
      exact ⟨m, at_ 0 _ rfl, at_ 1 _ rfl, at_ 2 _ rfl, at_ 3 _ rfl, at_ 4 _ rfl⟩
    obtain ⟨ls, hll, hls⟩ := tlist_of key
    subst hll
    have hm' : cap ≤ maxLen := hm
    unfold maxLen at hm'
    exact ⟨some ⟨b, o, none⟩, cap, ls, rfl, by omega, .inr ⟨b, o, rfl, hblk, hls⟩⟩
set_option maxRecDepth 100000 in
/-- A graph: what it holds. -/
theorem open_graph {v : Value} {dd : DataW H} {ps : List MemPlace} (hval : Value.okWide Tryz.prog W r base 24 v) (hd : DataW.Trod enc Tryz.prog W 0 (fun _ => true) true 24 v dd ps) :
    ∃ (n : Int) (a : Option Addr) (cap : Nat) (ts : List TieD), v = gV n a ts.length cap ∧ ts.length ≤ 9223372036854775807 ∧ TiesAt W a ts := by
  simp only [Value.okWide, Tryz.underlying24] at hval
  obtain ⟨cs, rfl, h2, ts, ht, _, hc⟩ := hval
  rw [cellsGraph] at h2
  rw [typesGraph] at ht
  injection ht with ht
  subst ht
  obtain ⟨fuel, hf⟩ := hd
  obtain ⟨l0⟩ := cs
  have h2 : l0.length = 2 := h2
  have hf : DataW.trod enc Tryz.prog W 0 (fun _ => true) true fuel 24 l0 = some (dd, ps) := hf
  match l0, h2 with
  | [c0, c1], _ =>
    obtain ⟨u, h5, h6⟩ := hc 0 c0 rfl
    have h5 : some 3 = some u := h5
    injection h5 with h5; subst h5
    obtain ⟨n, rfl⟩ := cell_intT h6
    obtain ⟨u, h5, h7⟩ := hc 1 c1 rfl
    have h5 : some 22 = some u := h5
    injection h5 with h5; subst h5
    obtain ⟨xs, m, _, _, _, hxl, hfs⟩ := DataW.trod_struct Tryz.underlying24 hf
    have h8 := hfs 1 _ rfl
    have hx1 : 1 < xs.length := by rw [hxl]; decide
    rw [List.getElem?_eq_getElem hx1] at h8
    have h9 : DataW.trod enc Tryz.prog W 0 (fun _ => true) true m 22 [c1] = some xs[1] := h8
    obtain ⟨a, cap, ls, rfl, hl, hT⟩ := open_ties h7 h9
    exact ⟨n, a, cap, ls, rfl, hl, hT⟩
end Go.Proofs.YthjeiaildabadaaGreat
/- Layer 4: arguments that are graphs, with their capacity, and slices of numbers. -/
namespace Go.Proofs.YthjeiaildabadaaGreat
set_option linter.unusedSimpArgs false
set_option linter.unusedVariables false
open Go Go.RowKit Go.ChangeShapes Go.WideShapes
variable {H : Type} {enc : TypeId × Value → H} {W : World} {base : Nat} {r : Reach}
set_option maxRecDepth 100000 in
/-- A slice of ties: what it holds. -/
theorem open_tiesC {v : Value} (hv : Cell.okWide Tryz.prog W r base 22 v) {fuel : Nat} {x : DataW H × List MemPlace} (hf : DataW.trod enc Tryz.prog W 0 (fun _ => true) true fuel 22 [v] = some x) :
    ∃ (a : Option Addr) (cap : Nat) (ls : List TieD), v = .slice a ls.length cap ∧ ls.length ≤ 9223372036854775807 ∧ ls.length ≤ cap ∧ TiesAt W a ls := by
  rcases DataW.trod_slice Tryz.underlying22 hf with ⟨hc, hx⟩ | ⟨a, len, cap, elems, rest, n, _, hcs, hx, hb, hl, hm, hlen, hel, hsp, hns⟩
  · simp only [List.cons.injEq, and_true] at hc
    subst hc
    exact ⟨none, 0, [], rfl, by simp, by simp, .inl rfl⟩
  · simp only [List.cons.injEq, and_true] at hcs
    subst hcs
    obtain ⟨hspot, hblk⟩ := cell_blockT hv
    obtain ⟨b, o, spot⟩ := a
    dsimp only at hspot hblk
    subst hspot
    have key : ∀ i, i < len → ∃ m : TieD, W.cell? ⟨b, o + i * 5, none⟩ = some (.int .i64 m.a) ∧ W.cell? ⟨b, o + i * 5 + 1, none⟩ = some (.int .i64 m.b) ∧ W.cell? ⟨b, o + i * 5 + 2, none⟩ = some (.int .i64 m.kind) ∧ W.cell? ⟨b, o + i * 5 + 3, none⟩ = some (.int .i64 m.str) ∧ W.cell? ⟨b, o + i * 5 + 4, none⟩ = some (.int .i64 m.src) := fun i hi => by
      have h1 := hel i hi
      rw [List.getElem?_eq_getElem (by omega), Option.bind_eq_some_iff] at h1
      obtain ⟨cs, h2, h3⟩ := h1
      rw [cellsTie] at h2
      obtain ⟨_, h4, h5⟩ := World.cells?_some h2
      obtain ⟨m, hcs⟩ := trod_tie h4 h3
      have at_ : ∀ j u, [Value.int .i64 m.a, .int .i64 m.b, .int .i64 m.kind, .int .i64 m.str, .int .i64 m.src][j]? = some u → W.cell? ⟨b, o + i * 5 + j, none⟩ = some u := fun j u hu => by
        have hj : j < 5 := by have := (List.getElem?_eq_some_iff.1 hu).1; simpa using this
        rw [← hu, ← hcs, ← h5 j hj, plain_addT, plain_addT]
      exact ⟨m, at_ 0 _ rfl, at_ 1 _ rfl, at_ 2 _ rfl, at_ 3 _ rfl, at_ 4 _ rfl⟩
    obtain ⟨ls, hll, hls⟩ := tlist_of key
    subst hll
    have hm' : cap ≤ maxLen := hm
    unfold maxLen at hm'
    exact ⟨some ⟨b, o, none⟩, cap, ls, rfl, by omega, hl, .inr ⟨b, o, rfl, hblk, hls⟩⟩
set_option maxRecDepth 100000 in
/-- A graph: what it holds. -/
theorem open_graphC {v : Value} {dd : DataW H} {ps : List MemPlace} (hval : Value.okWide Tryz.prog W r base 24 v) (hd : DataW.Trod enc Tryz.prog W 0 (fun _ => true) true 24 v dd ps) :
    ∃ (n : Int) (a : Option Addr) (cap : Nat) (ts : List TieD), v = gV n a ts.length cap ∧ ts.length ≤ 9223372036854775807 ∧ ts.length ≤ cap ∧ TiesAt W a ts := by
  simp only [Value.okWide, Tryz.underlying24] at hval
  obtain ⟨cs, rfl, h2, ts, ht, _, hc⟩ := hval
  rw [cellsGraph] at h2
  rw [typesGraph] at ht
  injection ht with ht
  subst ht
  obtain ⟨fuel, hf⟩ := hd
  obtain ⟨l0⟩ := cs
  have h2 : l0.length = 2 := h2
  have hf : DataW.trod enc Tryz.prog W 0 (fun _ => true) true fuel 24 l0 = some (dd, ps) := hf
  match l0, h2 with
  | [c0, c1], _ =>
    obtain ⟨u, h5, h6⟩ := hc 0 c0 rfl
    have h5 : some 3 = some u := h5
    injection h5 with h5; subst h5
    obtain ⟨n, rfl⟩ := cell_intT h6
    obtain ⟨u, h5, h7⟩ := hc 1 c1 rfl
    have h5 : some 22 = some u := h5
    injection h5 with h5; subst h5
    obtain ⟨xs, m, _, _, _, hxl, hfs⟩ := DataW.trod_struct Tryz.underlying24 hf
    have h8 := hfs 1 _ rfl
    have hx1 : 1 < xs.length := by rw [hxl]; decide
    rw [List.getElem?_eq_getElem hx1] at h8
    have h9 : DataW.trod enc Tryz.prog W 0 (fun _ => true) true m 22 [c1] = some xs[1] := h8
    obtain ⟨a, cap, ls, rfl, hl, hcp, hT⟩ := open_tiesC h7 h9
    exact ⟨n, a, cap, ls, rfl, hl, hcp, hT⟩
theorem ilist_of {R : Nat → Int → Prop} {n : Nat} (h : ∀ i, i < n → ∃ m, R i m) : ∃ ls : List Int, ls.length = n ∧ ∀ i m, ls[i]? = some m → R i m := by
  refine ⟨(List.range n).map fun i => if h' : i < n then Classical.choose (h i h') else 0, by simp, fun i N hi => ?_⟩
  have hi' : i < n := by have := (List.getElem?_eq_some_iff.1 hi).1; simpa using this
  simp [hi'] at hi
  rw [← hi]
  exact Classical.choose_spec (h i hi')
theorem shape_ltI {W : World} {b : Nat} {x : TypeId × Nat} (h : W.shape? b = some x) : b < W.heap.size := by
  by_cases hb : b < W.heap.size
  · exact hb
  · have : W.heap[b]? = none := Array.getElem?_eq_none (by omega)
    simp [World.shape?, this] at h
set_option maxRecDepth 100000 in
theorem cell_blockI {b0 : Nat} {a : Addr} {len cap : Nat} (hval : Value.okWide Tryz.prog W r b0 27 (.slice (some a) len cap)) : a.spot = none ∧ a.block < W.heap.size := by
  simp only [Value.okWide, Tryz.underlying27, Cell.okWide, Cell.ok] at hval
  obtain ⟨_, _, _, hsp, row, cells, hs, _⟩ := hval
  exact ⟨hsp, shape_ltI hs⟩
theorem plain_addI (b o n : Nat) : (⟨b, o, none⟩ : Addr).add n = ⟨b, o + n, none⟩ := by unfold Addr.add; split <;> simp_all
set_option maxRecDepth 100000 in
/-- A slice of numbers: what it holds. -/
theorem open_nums {b0 : Nat} {v : Value} {d : DataW H} {ps : List MemPlace} (hval : Value.okWide Tryz.prog W r b0 27 v) (hd : DataW.Trod enc Tryz.prog W 0 (fun _ => true) true 27 v d ps) :
    ∃ (a : Option Addr) (cap : Nat) (ls : List Int), v = .slice a ls.length cap ∧ ls.length ≤ 9223372036854775807 ∧ IntsAt W a ls := by
  obtain ⟨a0, len, cap, rfl⟩ := okWide_slice Tryz.underlying27 hval
  obtain ⟨fuel, hf⟩ := hd
  rcases DataW.trod_slice Tryz.underlying27 hf with ⟨hc, hx⟩ | ⟨a, len', cap', elems, rest, n, _, hcs, hx, hb, hl, hm, hlen, hel, hsp, hns⟩
  · simp [Value.cells] at hc
    obtain ⟨rfl, rfl, rfl⟩ := hc
    exact ⟨none, 0, [], rfl, by simp, .inl rfl⟩
  · simp [Value.cells] at hcs
    obtain ⟨rfl, rfl, rfl⟩ := hcs
    obtain ⟨hspot, hblk⟩ := cell_blockI hval
    obtain ⟨b, o, spot⟩ := a
    dsimp only at hspot hblk
    subst hspot
    have key : ∀ i, i < len → ∃ m : Int, W.cell? ⟨b, o + i, none⟩ = some (.int .i64 m) := fun i hi => by
      have h1 := hel i hi
      rw [List.getElem?_eq_getElem (by omega), Option.bind_eq_some_iff] at h1
      obtain ⟨cs, h2, h3⟩ := h1
      rw [cellsInt'] at h2
      obtain ⟨_, h4, h5⟩ := World.cells?_some h2
      obtain ⟨m, hcs, _, _⟩ := DataW.trod_int Tryz.underlying3 h3
      refine ⟨m, ?_⟩
      have h6 := h5 0 (by omega)
      rw [hcs] at h6
      rw [plain_addI, plain_addI, Nat.mul_one, Nat.add_zero] at h6
      exact h6
    obtain ⟨ls, hll, hls⟩ := ilist_of key
    subst hll
    have hm' : cap ≤ maxLen := hm
    unfold maxLen at hm'
    exact ⟨some ⟨b, o, none⟩, cap, ls, rfl, by omega, .inr ⟨b, o, rfl, hblk, hls⟩⟩
end Go.Proofs.YthjeiaildabadaaGreat
