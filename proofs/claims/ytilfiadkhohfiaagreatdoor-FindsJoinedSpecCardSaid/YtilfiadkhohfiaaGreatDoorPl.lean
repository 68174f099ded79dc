/- Arguments that are finds or events; cards. -/
import Derived.Test.YtilfiadkhohfiaaGreatDoorPh
import Derived.Test.YtilfiadkhohfiaaGreatDoorPe
import Derived.ChangeShapes
import Derived.ChangeReads
import Derived.ChangeArms
import Derived.ChangeSame
import Derived.ChangeSlices
import Derived.Deep.Strs
import Derived.Carry
import Derived.RowKit
import Derived.Test.YtilfiadkhohfiaaGreatDoorRows
import Derived.Test.YtilfiadkhohfiaaGreatDoorCards
import Derived.Test.YtilfiadkhohfiaaGreatDoorTie
import Derived.Test.YtilfiadkhohfiaaGreatDoorPf
import Derived.HandedShaped
import Derived.ProofKit
import Derived.OpenShut
import Derived.LaidMore
import Derived.Lay
import Derived.Lib.LaidTab
import Derived.Stop.LaidErr
import Derived.Shelf.Vars
import Derived.SevenTiedAt
import Derived.Stop.Joined
/- Arguments that are finds or events: what they hold. -/
namespace Go.Proofs.YtilfiadkhohfiaaGreatDoor
set_option linter.unusedSimpArgs false
set_option linter.unusedVariables false
open Go Go.RowKit Go.ChangeShapes Go.WideShapes Go.Clo

theorem cellsFind : Tryz.prog.cellsOf 29 = 14 := by kernel_rfl
theorem cellsEvent : Tryz.prog.cellsOf 31 = 19 := by kernel_rfl
theorem cellsInt' : Tryz.prog.cellsOf 3 = 1 := by kernel_rfl
theorem cellsMeasure : Tryz.prog.cellsOf 98 = 3 := by kernel_rfl
theorem typesFind : Tryz.prog.cellTypes Tryz.prog.depth 29 = some [3, 3, 3, 22, 22, 22, 22, 25, 3, 3, 3, 3, 3, 3] := by kernel_rfl
theorem typesEvent : Tryz.prog.cellTypes Tryz.prog.depth 31 = some [3, 3, 3, 3, 3, 3, 3, 3, 22, 22, 22, 22, 25, 3, 3, 3, 3, 3, 3] := by kernel_rfl
variable {H : Type} {enc : TypeId × Value → H} {W : World} {base : Nat} {r : Reach}
set_option maxRecDepth 100000 in
theorem cell_int {v : Value} (h : Cell.okWide Tryz.prog W r base 3 v) : ∃ n, v = .int .i64 n ∧ R64 n := by
  simp only [Cell.okWide, Tryz.underlying3] at h
  cases v with
  | int k n =>
    simp only [Cell.ok, Tryz.underlying3] at h
    obtain ⟨rfl, h⟩ := h
    refine ⟨n, rfl, R64.of ?_⟩
    simpa [IntKind.has, IntKind.min, IntKind.max, IntKind.signed, IntKind.bits] using h
  | _ => simp [Cell.ok, Tryz.underlying3] at h
set_option maxRecDepth 100000 in
theorem cell_u64 {v : Value} (h : Cell.okWide Tryz.prog W r base 22 v) : ∃ n : Nat, v = .int .u64 (n : Int) ∧ n < 18446744073709551616 := by
  simp only [Cell.okWide, Tryz.underlying22] at h
  cases v with
  | int k n =>
    simp only [Cell.ok, Tryz.underlying22] at h
    obtain ⟨rfl, h⟩ := h
    have h : 0 ≤ n ∧ n ≤ 18446744073709551615 := by simpa [IntKind.has, IntKind.min, IntKind.max, IntKind.signed, IntKind.bits] using h
    obtain ⟨m, rfl⟩ := Int.eq_ofNat_of_zero_le h.1
    exact ⟨m, rfl, by omega⟩
  | _ => simp [Cell.ok, Tryz.underlying22] at h
/-- A list of measurements: what it holds. -/
theorem trod_measure {fuel : Nat} {cs : List Value} {x : DataW H × List MemPlace} (hlen : cs.length = 3) (hf : DataW.trod enc Tryz.prog W 0 (fun _ => true) true fuel 98 cs = some x) :
    ∃ m : Mea, (R64 m.1 ∧ R64 m.2.1 ∧ R64 m.2.2) ∧ cs = [.int .i64 m.1, .int .i64 m.2.1, .int .i64 m.2.2] := by
  match cs, hlen with
  | [a, b, c], _ =>
    cases fuel with
    | zero => simp [DataW.trod] at hf
    | succ n =>
      rw [DataW.trod_step] at hf
      unfold DataW.trodStep at hf
      simp only [Tryz.underlying98, cellsMeasure, show Tryz.prog.cellsOf 3 = 1 from by kernel_rfl] at hf
      simp only [List.length_cons, List.length_nil, Nat.reduceAdd, if_true, Option.map_eq_some_iff, List.mapM_cons, List.mapM_nil, bind, Option.bind_eq_some_iff, pure, Option.some.injEq, List.drop_zero, List.drop_succ_cons, List.take_succ_cons, List.take_zero] at hf
      obtain ⟨ys, ⟨y0, h0, r0, ⟨y1, h1, r1, ⟨y2, h2, r2, rfl, rfl⟩, rfl⟩, rfl⟩, rfl⟩ := hf
      obtain ⟨n0, e0, _, w0⟩ := DataW.trod_int Tryz.underlying3 h0
      obtain ⟨n1, e1, _, w1⟩ := DataW.trod_int Tryz.underlying3 h1
      obtain ⟨n2, e2, _, w2⟩ := DataW.trod_int Tryz.underlying3 h2
      rw [cellsInt'] at e0 e1 e2
      have f0 : a = .int .i64 n0 := by have : [a] = [Value.int .i64 n0] := e0; injection this
      have f1 : b = .int .i64 n1 := by have : [b] = [Value.int .i64 n1] := e1; injection this
      have f2 : c = .int .i64 n2 := by have : [c] = [Value.int .i64 n2] := e2; injection this
      have wf : ∀ {n : Int}, (Lit.int .i64 n).wf = true → R64 n := fun {n} h => R64.of (by simpa [Lit.wf, IntKind.min, IntKind.max, IntKind.signed, IntKind.bits] using h)
      exact ⟨(n0, n1, n2), ⟨wf w0, wf w1, wf w2⟩, by rw [f0, f1, f2]⟩
theorem mlist_of {R : Nat → Mea → Prop} {n : Nat} (h : ∀ i, i < n → ∃ m, R i m) : ∃ ls : List Mea, ls.length = n ∧ ∀ i m, ls[i]? = some m → R i m := by
  refine ⟨(List.range n).map fun i => if h' : i < n then Classical.choose (h i h') else (0, 0, 0), by simp, fun i N hi => ?_⟩
  have hi' : i < n := by have := (List.getElem?_eq_some_iff.1 hi).1; simpa using this
  simp [hi'] at hi
  rw [← hi]
  exact Classical.choose_spec (h i hi')
theorem meaVs_all : ∀ {l : List Mea} {j : Nat} {u : Value}, (meaVs l)[j]? = some u → ∃ i m k, l[i]? = some m ∧ j = 3 * i + k ∧ (k = 0 ∧ u = .int .i64 m.1 ∨ k = 1 ∧ u = .int .i64 m.2.1 ∨ k = 2 ∧ u = .int .i64 m.2.2)
  | [], j, u, h => by simp [meaVs] at h
  | m :: l, 0, u, h => ⟨0, m, 0, rfl, rfl, .inl ⟨rfl, (Option.some.inj h).symm⟩⟩
  | m :: l, 1, u, h => ⟨0, m, 1, rfl, rfl, .inr (.inl ⟨rfl, (Option.some.inj h).symm⟩)⟩
  | m :: l, 2, u, h => ⟨0, m, 2, rfl, rfl, .inr (.inr ⟨rfl, (Option.some.inj h).symm⟩)⟩
  | m :: l, j + 3, u, h => by
    have h' : (meaVs l)[j]? = some u := h
    obtain ⟨i, m', k, h1, h2, h3⟩ := meaVs_all h'
    exact ⟨i + 1, m', k, h1, by omega, h3⟩
theorem shape_lt' {W : World} {b : Nat} {x : TypeId × Nat} (h : W.shape? b = some x) : b < W.heap.size := by
  by_cases hb : b < W.heap.size
  · exact hb
  · have : W.heap[b]? = none := Array.getElem?_eq_none (by omega)
    simp [World.shape?, this] at h
set_option maxRecDepth 100000 in
theorem cell_block {a : Addr} {len cap : Nat} (hval : Cell.okWide Tryz.prog W r base 25 (.slice (some a) len cap)) : a.spot = none ∧ a.block < W.heap.size := by
  simp only [Tryz.underlying25, Cell.okWide, Cell.ok] at hval
  obtain ⟨_, _, _, hsp, row, cells, hs, _⟩ := hval
  exact ⟨hsp, shape_lt' hs⟩
set_option maxRecDepth 100000 in
/-- A slice of measurements: what it holds. -/
theorem open_meas {v : Value} (hs0 : 0 < W.heap.size) (hv : Cell.okWide Tryz.prog W r base 25 v) {fuel : Nat} {x : DataW H × List MemPlace} (hf : DataW.trod enc Tryz.prog W 0 (fun _ => true) true fuel 25 [v] = some x) :
    ∃ oc l, MeaAt W v oc l ∧ (oc = none → l = []) ∧ RM l ∧ R64 (.ofNat l.length) := by
  rcases DataW.trod_slice Tryz.underlying25 hf with ⟨hc, hx⟩ | ⟨a, len, cap, elems, rest, n, _, hcs, hx, hb, hl, hm, hlen, hel, hsp, hns⟩
  · simp only [List.cons.injEq, and_true] at hc
    subst hc
    exact ⟨none, [], ⟨hs0, rfl, rfl⟩, fun _ => rfl, fun m hm => (by cases hm), (by exact R0)⟩
  · simp only [List.cons.injEq, and_true] at hcs
    subst hcs
    obtain ⟨hspot, hblk⟩ := cell_block hv
    obtain ⟨b, o, spot⟩ := a
    dsimp only at hspot hblk
    subst hspot
    have key : ∀ i, i < len → ∃ m : Mea, (R64 m.1 ∧ R64 m.2.1 ∧ R64 m.2.2) ∧ W.cell? ⟨b, o + 3 * i + 0, none⟩ = some (.int .i64 m.1) ∧ W.cell? ⟨b, o + 3 * i + 1, none⟩ = some (.int .i64 m.2.1) ∧ W.cell? ⟨b, o + 3 * i + 2, none⟩ = some (.int .i64 m.2.2) := fun i hi => by
      have h1 := hel i hi
      rw [List.getElem?_eq_getElem (by omega), Option.bind_eq_some_iff] at h1
      obtain ⟨cs, h2, h3⟩ := h1
      rw [cellsMeasure] at h2
      obtain ⟨_, h4, h5⟩ := World.cells?_some h2
      obtain ⟨m, hm, hcs⟩ := trod_measure h4 h3
      have at_ : ∀ j u, [Value.int .i64 m.1, .int .i64 m.2.1, .int .i64 m.2.2][j]? = some u → W.cell? ⟨b, o + 3 * i + j, none⟩ = some u := fun j u hu => by
        have hj : j < 3 := by have := (List.getElem?_eq_some_iff.1 hu).1; simpa using this
        rw [← hu, ← hcs, ← h5 j hj, Addr_add, Addr_add, Nat.mul_comm 3 i]
      exact ⟨m, hm, at_ 0 _ rfl, at_ 1 _ rfl, at_ 2 _ rfl⟩
    obtain ⟨ls, hll, hls⟩ := mlist_of key
    subst hll
    refine ⟨some cap, ls, ⟨b, o, rfl, hblk, fun j u hu => ?_⟩, fun h => (by cases h), fun m hm => ?_, R64.of ?_⟩
    · obtain ⟨i, m, k, hi, rfl, hk⟩ := meaVs_all hu
      obtain ⟨_, c0, c1, c2⟩ := hls i m hi
      rcases hk with ⟨rfl, rfl⟩ | ⟨rfl, rfl⟩ | ⟨rfl, rfl⟩
      · rw [← Nat.add_assoc]; exact c0
      · rw [← Nat.add_assoc]; exact c1
      · rw [← Nat.add_assoc]; exact c2
    · obtain ⟨i, hi⟩ := List.getElem?_of_mem hm
      exact (hls i m hi).1
    · have hm' : cap ≤ maxLen := hm
      unfold maxLen at hm'
      show _ ≤ ((ls.length : Nat) : Int) ∧ ((ls.length : Nat) : Int) ≤ _
      omega
set_option maxRecDepth 100000 in
/-- A find: what it holds. -/
theorem find_cells {cs : List Value} (hs0 : 0 < W.heap.size) (hlen : cs.length = 14) (hc : ∀ (i : Nat) (v : Value), cs[i]? = some v → ∃ u, [3, 3, 3, 22, 22, 22, 22, 25, 3, 3, 3, 3, 3, 3][i]? = some u ∧ Cell.okWide Tryz.prog W r base u v)
    {fuel : Nat} {x : DataW H × List MemPlace} (hf : DataW.trod enc Tryz.prog W 0 (fun _ => true) true fuel 29 cs = some x) :
    ∃ no el sd : Int, ∃ a b c d : Nat, ∃ ms, ∃ lo hi sex wear layer square : Int, ∃ oc l, cs = finVs no el sd a b c d ms lo hi sex wear layer square ∧ (R64 no ∧ R64 el ∧ R64 sd ∧ R64 lo ∧ R64 hi ∧ R64 sex ∧ R64 wear ∧ R64 layer ∧ R64 square) ∧
      (a < 18446744073709551616 ∧ b < 18446744073709551616 ∧ c < 18446744073709551616 ∧ d < 18446744073709551616) ∧ MeaAt W ms oc l ∧ (oc = none → l = []) ∧ RM l ∧ R64 (.ofNat l.length) := by
  match cs, hlen with
  | [c0, c1, c2, c3, c4, c5, c6, c7, c8, c9, c10, c11, c12, c13], _ =>
    have ci : ∀ {i : Nat} {v : Value}, [c0, c1, c2, c3, c4, c5, c6, c7, c8, c9, c10, c11, c12, c13][i]? = some v → [3, 3, 3, 22, 22, 22, 22, 25, 3, 3, 3, 3, 3, 3][i]? = some 3 → ∃ n, v = .int .i64 n ∧ R64 n := fun {i v} h1 h2 => by
      obtain ⟨u, h3, h4⟩ := hc i v h1
      rw [h2] at h3; injection h3 with h3; subst h3
      exact cell_int h4
    have cu : ∀ {i : Nat} {v : Value}, [c0, c1, c2, c3, c4, c5, c6, c7, c8, c9, c10, c11, c12, c13][i]? = some v → [3, 3, 3, 22, 22, 22, 22, 25, 3, 3, 3, 3, 3, 3][i]? = some 22 → ∃ n : Nat, v = .int .u64 (n : Int) ∧ n < 18446744073709551616 := fun {i v} h1 h2 => by
      obtain ⟨u, h3, h4⟩ := hc i v h1
      rw [h2] at h3; injection h3 with h3; subst h3
      exact cell_u64 h4
    obtain ⟨no, rfl, r0⟩ := ci (i := 0) rfl rfl
    obtain ⟨el, rfl, r1⟩ := ci (i := 1) rfl rfl
    obtain ⟨sd, rfl, r2⟩ := ci (i := 2) rfl rfl
    obtain ⟨a, rfl, r3⟩ := cu (i := 3) rfl rfl
    obtain ⟨b, rfl, r4⟩ := cu (i := 4) rfl rfl
    obtain ⟨c, rfl, r5⟩ := cu (i := 5) rfl rfl
    obtain ⟨d, rfl, r6⟩ := cu (i := 6) rfl rfl
    obtain ⟨lo, rfl, r8⟩ := ci (i := 8) rfl rfl
    obtain ⟨hi, rfl, r9⟩ := ci (i := 9) rfl rfl
    obtain ⟨sex, rfl, r10⟩ := ci (i := 10) rfl rfl
    obtain ⟨wear, rfl, r11⟩ := ci (i := 11) rfl rfl
    obtain ⟨layer, rfl, r12⟩ := ci (i := 12) rfl rfl
    obtain ⟨square, rfl, r13⟩ := ci (i := 13) rfl rfl
    obtain ⟨u, h3, h4⟩ := hc 7 c7 rfl
    have h3 : some 25 = some u := h3
    injection h3 with h3; subst h3
    obtain ⟨xs, n, _, _, _, hxl, hfs⟩ := DataW.trod_struct Tryz.underlying29 hf
    have h5 := hfs 4 _ rfl
    have hx4 : 4 < xs.length := by rw [hxl]; decide
    rw [List.getElem?_eq_getElem hx4] at h5
    have h6 : DataW.trod enc Tryz.prog W 0 (fun _ => true) true n 25 [c7] = some xs[4] := h5
    obtain ⟨oc, l, hM, ho, hR, hq⟩ := open_meas hs0 h4 h6
    exact ⟨no, el, sd, a, b, c, d, c7, lo, hi, sex, wear, layer, square, oc, l, rfl, ⟨r0, r1, r2, r8, r9, r10, r11, r12, r13⟩, ⟨r3, r4, r5, r6⟩, hM, ho, hR, hq⟩
end Go.Proofs.YtilfiadkhohfiaaGreatDoor
/- Arguments that are finds or events: opened. -/
namespace Go.Proofs.YtilfiadkhohfiaaGreatDoor
set_option linter.unusedSimpArgs false
set_option linter.unusedVariables false
open Go Go.RowKit Go.ChangeShapes Go.WideShapes Go.Clo
variable {H : Type} {enc : TypeId × Value → H} {W : World} {base : Nat} {r : Reach}
set_option maxRecDepth 100000 in
theorem open_find {v : Value} {dd : DataW H} {ps : List MemPlace} (hs0 : 0 < W.heap.size) (hval : Value.okWide Tryz.prog W r base 29 v) (hd : DataW.Trod enc Tryz.prog W 0 (fun _ => true) true 29 v dd ps) :
    ∃ no el sd : Int, ∃ a b c d : Nat, ∃ ms, ∃ lo hi sex wear layer square : Int, ∃ oc l, v = .agg (finVs no el sd a b c d ms lo hi sex wear layer square).toArray ∧ (R64 no ∧ R64 el ∧ R64 sd ∧ R64 lo ∧ R64 hi ∧ R64 sex ∧ R64 wear ∧ R64 layer ∧ R64 square) ∧
      (a < 18446744073709551616 ∧ b < 18446744073709551616 ∧ c < 18446744073709551616 ∧ d < 18446744073709551616) ∧ MeaAt W ms oc l ∧ (oc = none → l = []) ∧ RM l ∧ R64 (.ofNat l.length) := by
  simp only [Value.okWide, Tryz.underlying29] at hval
  obtain ⟨cs, rfl, h2, ts, ht, _, hc⟩ := hval
  rw [cellsFind] at h2
  rw [typesFind] at ht
  injection ht with ht
  subst ht
  obtain ⟨fuel, hf⟩ := hd
  obtain ⟨l0⟩ := cs
  have h2 : l0.length = 14 := h2
  have hf : DataW.trod enc Tryz.prog W 0 (fun _ => true) true fuel 29 l0 = some (dd, ps) := hf
  obtain ⟨no, el, sd, a, b, c, d, ms, lo, hi, sex, wear, layer, square, oc, l, h, h3⟩ := find_cells hs0 h2 (fun i v hv => by
    have hi : i < 14 := by have := (List.getElem?_eq_some_iff.1 hv).1; omega
    obtain ⟨u, h5, h6⟩ := hc i v (by simpa using hv)
    have h5 : [3, 3, 3, 22, 22, 22, 22, 25, 3, 3, 3, 3, 3, 3][i % 14]? = some u := h5
    rw [Nat.mod_eq_of_lt hi] at h5
    exact ⟨u, h5, h6⟩) hf
  exact ⟨no, el, sd, a, b, c, d, ms, lo, hi, sex, wear, layer, square, oc, l, by rw [h], h3⟩
set_option maxRecDepth 100000 in
theorem open_event {v : Value} {dd : DataW H} {ps : List MemPlace} (hs0 : 0 < W.heap.size) (hval : Value.okWide Tryz.prog W r base 31 v) (hd : DataW.Trod enc Tryz.prog W 0 (fun _ => true) true 31 v dd ps) :
    ∃ n kn kd fd ot no el sd : Int, ∃ a b c d : Nat, ∃ ms, ∃ lo hi sex wear layer square : Int, ∃ oc l, v = evVs n kn kd fd ot (finVs no el sd a b c d ms lo hi sex wear layer square) ∧ EvR n kn kd fd ot no el sd lo hi sex wear layer square a b c d ∧
      (a < 18446744073709551616 ∧ b < 18446744073709551616 ∧ c < 18446744073709551616 ∧ d < 18446744073709551616) ∧ MeaAt W ms oc l ∧ (oc = none → l = []) ∧ RM l ∧ R64 (.ofNat l.length) := by
  simp only [Value.okWide, Tryz.underlying31] at hval
  obtain ⟨cs, rfl, h2, ts, ht, _, hc⟩ := hval
  rw [cellsEvent] at h2
  rw [typesEvent] at ht
  injection ht with ht
  subst ht
  obtain ⟨fuel, hf⟩ := hd
  obtain ⟨l0⟩ := cs
  have h2 : l0.length = 19 := h2
  have hf : DataW.trod enc Tryz.prog W 0 (fun _ => true) true fuel 31 l0 = some (dd, ps) := hf
  have hc' : ∀ (i : Nat) (v : Value), l0[i]? = some v → ∃ u, [3, 3, 3, 3, 3, 3, 3, 3, 22, 22, 22, 22, 25, 3, 3, 3, 3, 3, 3][i]? = some u ∧ Cell.okWide Tryz.prog W r base u v := fun i v hv => by
    have hi : i < 19 := by have := (List.getElem?_eq_some_iff.1 hv).1; omega
    obtain ⟨u, h5, h6⟩ := hc i v (by simpa using hv)
    have h5 : [3, 3, 3, 3, 3, 3, 3, 3, 22, 22, 22, 22, 25, 3, 3, 3, 3, 3, 3][i % 19]? = some u := h5
    rw [Nat.mod_eq_of_lt hi] at h5
    exact ⟨u, h5, h6⟩
  obtain ⟨xs, m, _, _, _, hxl, hfs⟩ := DataW.trod_struct Tryz.underlying31 hf
  have h5 := hfs 5 _ rfl
  have hx5 : 5 < xs.length := by rw [hxl]; decide
  rw [List.getElem?_eq_getElem hx5] at h5
  have h6 : DataW.trod enc Tryz.prog W 0 (fun _ => true) true m 29 ((l0.drop 5).take (Tryz.prog.cellsOf 29)) = some xs[5] := h5
  rw [cellsFind] at h6
  match l0, h2 with
  | c0 :: c1 :: c2 :: c3 :: c4 :: rest, h2 =>
    have hr : rest.length = 14 := by simpa using h2
    have h7 : DataW.trod enc Tryz.prog W 0 (fun _ => true) true m 29 (rest.take 14) = some xs[5] := h6
    rw [List.take_of_length_le (by omega)] at h7
    clear h6
    have ci : ∀ (i : Nat) (v : Value), (c0 :: c1 :: c2 :: c3 :: c4 :: rest)[i]? = some v → i < 5 → ∃ n, v = .int .i64 n ∧ R64 n := fun i v h1 h2 => by
      obtain ⟨u, h3, h4⟩ := hc' i v h1
      have : u = 3 := by
        rcases (show i = 0 ∨ i = 1 ∨ i = 2 ∨ i = 3 ∨ i = 4 by omega) with rfl | rfl | rfl | rfl | rfl <;> exact (Option.some.inj h3).symm
      subst this
      exact cell_int h4
    obtain ⟨n, rfl, q0⟩ := ci 0 _ rfl (by omega)
    obtain ⟨kn, rfl, q1⟩ := ci 1 _ rfl (by omega)
    obtain ⟨kd, rfl, q2⟩ := ci 2 _ rfl (by omega)
    obtain ⟨fd, rfl, q3⟩ := ci 3 _ rfl (by omega)
    obtain ⟨ot, rfl, q4⟩ := ci 4 _ rfl (by omega)
    obtain ⟨no, el, sd, a, b, c, d, ms, lo, hi, sex, wear, layer, square, oc, l, h, ⟨r0, r1, r2, r3, r4, r5, r6, r7, r8⟩, hu, h3⟩ := find_cells hs0 hr (fun i v hv => by
      obtain ⟨u, h5, h6⟩ := hc' (i + 5) v hv
      exact ⟨u, h5, h6⟩) h7
    exact ⟨n, kn, kd, fd, ot, no, el, sd, a, b, c, d, ms, lo, hi, sex, wear, layer, square, oc, l, by rw [h]; rfl, ⟨q0, q1, q2, q3, q4, r0, r1, r2, r3, r4, r5, r6, r7, r8, RU.of hu.1, RU.of hu.2.1, RU.of hu.2.2.1, RU.of hu.2.2.2⟩, hu, h3⟩
end Go.Proofs.YtilfiadkhohfiaaGreatDoor
/- Layer 2, the cards: what all of them share. -/
namespace Go.Proofs.YtilfiadkhohfiaaGreatDoor
set_option linter.unusedSimpArgs false
set_option linter.unusedVariables false
open Go Go.RowKit Go.ChangeShapes Go.WideShapes Go.ChangeAt

theorem own : ownKnob Tryz.prog.godebug = none := by kernel_rfl
/-- The variables that every row lists. -/
def laidS : List (String × DataW Unit) := Rows.findsCheckSpecRow.laid
theorem cells_u8 : Tryz.prog.cellsOf 5 = 1 := by kernel_rfl
theorem cells_64u8 : Tryz.prog.cellsOf 262 = 64 := by kernel_rfl
theorem cells_u64 : Tryz.prog.cellsOf 22 = 1 := by kernel_rfl
theorem cells_32u8 : Tryz.prog.cellsOf 297 = 32 := by kernel_rfl
theorem cells_20u64 : Tryz.prog.cellsOf 277 = 20 := by kernel_rfl
theorem gl_of {W : World} (hL : laidMetH Tryz.prog laidS W) (hsh : W.ShapedOpen Tryz.prog) : Gl W := by
  rw [MakeChecks.laidMetH_plain _ _ _ (by kernel_rfl)] at hL
  have h1 : laidMet Tryz.prog (("math/bits.deBruijn32tab", Lib.tabData .u8 (Lib.deBruijn32tab.map Int.ofNat)) :: ("math/bits.deBruijn64tab", Lib.tabData .u8 (Lib.deBruijn64tab.map Int.ofNat)) :: [("internal/strconv.uint64pow10", Lib.tabData .u64 Lib.pow10Tab)]) W := hL
  have t32 := Lib.tabIs_of_head (k := .u8) (zs := Lib.deBruijn32tab.map Int.ofNat) (g := 7) (t := 297) (by kernel_rfl) (by kernel_rfl) Tryz.underlying297 Tryz.underlying5 cells_u8 cells_32u8 h1
  have t64 := Lib.tabIs_of_head (k := .u8) (zs := Lib.deBruijn64tab.map Int.ofNat) (g := 0) (t := 262) (by kernel_rfl) (by kernel_rfl) Tryz.underlying262 Tryz.underlying5 cells_u8 cells_64u8 h1.tail
  have tp := Lib.tabIs_of_head (k := .u64) (zs := Lib.pow10Tab) (g := 2) (t := 277) (by kernel_rfl) (by kernel_rfl) Tryz.underlying277 Tryz.underlying22 cells_u64 cells_20u64 h1.tail.tail
  refine ⟨fun j hj => ?_, ?_, tp⟩
  · have := t64.cell (g := 0) (by kernel_rfl) j (by simpa using hj)
    rw [this]
    have hj' : j < Lib.deBruijn64tab.length := hj
    simp [List.getD, hj']
  · have := t32.cell (g := 7) (by kernel_rfl) 0 (by decide)
    have h8 : (7 : Nat) < W.heap.size := block_lt_of_cell this
    omega
theorem laid_met (os : Os) (args : Array Value) : laidMetH Tryz.prog laidS ((World.laidAll Tryz.prog os laidS).forCall (fun _ _ => 0) ⟨#[], args, []⟩).memory := by
  rw [MakeChecks.laidMetH_plain _ _ _ (by kernel_rfl)]; exact laidMet_laidAll _ (by kernel_rfl) (by kernel_rfl)
set_option maxRecDepth 100000 in
/-- A law's contract, where its listed variables hold what the text lays, and the library's own have their types, makes the form that a row asks. -/
theorem lifted_of {H : Type} {enc : TypeId × Value → H} {os : Os} {f : FuncId} {fn : Func} {s : ChangeSpec} (started : os.Started) (noInit : Tryz.prog.inits.idxOf? f = none) (hfn : Tryz.prog.funcs[f]? = some fn)
    (witness : ∃ (w : World) (tape : Tape) (i : Input), w.os = os ∧ (w.forCall tape i).Shaped Tryz.prog ∧ i.vars = [] ∧ Input.okWide Tryz.prog (w.forCall tape i) .any w.heap.size f i ∧
      ((s.pre enc Tryz.prog fn [] false (w.forCall tape i).memory i.args ∧ laidMetH Tryz.prog laidS (w.forCall tape i).memory) ∧ sizedMet enc Tryz.prog fn (OpenSpec.ofChange s) false (w.forCall tape i).memory i.args) ∧ ({} : Assume).holds Tryz.prog (lone (Frame.enter Tryz.prog f i.args .normal) [] (w.forCall tape i)))
    (law : ∀ (W : World) (base : Nat) (args : Array Value) (ds gs : List (DataW H)) (before : List MemPlace), Gl W →
      (∀ (j : Nat) t v, fn.params[j]? = some t → args[j]? = some v → Value.okWide Tryz.prog W .any base t v) →
      DataW.Whole enc Tryz.prog fn.params.toList s.vars false W args.toList ds gs before →
      (DataW.weightsEach Tryz.prog (fn.params.toList ++ s.plain.varTypes Tryz.prog) (ds ++ gs)).all (· ≤ reachBytes) = true →
      Calls Tryz.prog f args W fun e W' => ∃ v, e = .returned v ∧ s.post enc Tryz.prog fn false true false false W args v W') :
    ReturnsInHanded {} Tryz.checked os f .any (fun w args => (s.pre enc Tryz.prog fn [] false w args ∧ laidMetH Tryz.prog laidS w) ∧ sizedMet enc Tryz.prog fn (OpenSpec.ofChange s) false w args) (s.post enc Tryz.prog fn false true false false) :=
  returnsInHanded_of_calls own started noInit witness fun w tape i _ hsh _ hok ⟨⟨⟨ds, gs, before, hw, _⟩, hx⟩, hz⟩ _ => by
    obtain ⟨_, _, _, fn', hfn', _, _, _, _, hval⟩ := hok
    obtain rfl : fn' = fn := Option.some.inj (hfn'.symm.trans hfn)
    exact (law (w.forCall tape i) w.heap.size i.args ds gs before (gl_of (laidMetH.of_heap (w' := w.forCall tape i) (by rfl) hx) hsh) hval (DataW.Whole.of_heap (by rfl) hw) (hz.weights hw)).mono fun e W' ⟨v, he, hp⟩ => by
      subst he; exact ChangeSpec.post_blind hp
end Go.Proofs.YtilfiadkhohfiaaGreatDoor
